/- EditHello: the program answers as its model. -/
import Derived.Test.YtcmjadfpifpknaaG22
import Derived.Test.YtcmjadfpifpknaaG23
import Derived.Test.YtcmjadfpifpknaaG17
import Derived.Test.YtcmjadfpifpknaaG8
import Derived.WalkKit
import Derived.Deep.RegionHeld3
import Derived.ProofKit
import Derived.OpenShut
namespace Go.Proofs.Ytcmjadfpifpknaa.fnExactEditHello
open Go.ChangeShapes Go.WideShapes Go.ChangeAt Go.RowKit Go.Lib
open Go.ChangeMaps (open_string shut_string)
set_option linter.unusedVariables false

theorem own : ownKnob Try.prog.godebug = none := by kernel_rfl
set_option linter.unusedSimpArgs false
theorem toEdit_agg (x : Et) (w : World) : Calls Try.prog 9 #[.agg #[.int .i64 x.kind, .int .i64 x.n]] w (Told (.agg #[.int .i64 x.kind, .int .i64 x.n]) w) := toEdit_any x w
theorem edH_parts (x : Hel) (e : Et) : (edH x e).parts ≤ x.parts + 10 := by
  have := edH_few x e
  unfold Hel.parts
  omega

set_option maxHeartbeats 4000000 in
set_option maxRecDepth 100000 in
theorem walk (v0 : Value) (x0 : Hel) (e1 : Et) (w : World) (K0 : HelW w v0 x0) (F0 : x0.wf) (F1 : e1.wf) :
    Calls Try.prog 3 #[v0, .agg #[.int .i64 e1.kind, .int .i64 e1.n]] w fun e w' => e = .returned (.bool true) ∧ Below w.heap.size w w' := by
  obtain ⟨a90, n90, c90, b90, m90, d90, rfl⟩ := K0.shape
  by_cases hbig0 : 1048576 < x0.parts
  · obtain ⟨hz9, hX9, hY9, hB9⟩ := two w #[.slice a90 n90 c90, .slice b90 m90 d90] #[.int .i64 e1.kind, .int .i64 e1.n] 25 27
    have HB := Lib.hid hB9
    have HXp0 := Lib.hid hX9
    have HXp1 := Lib.hid hY9
    have hs1 : w.heap.size + 2 ≤ (World.alloc (World.alloc w (.cells #[.slice a90 n90 c90, .slice b90 m90 d90] 25)) (.cells #[.int .i64 e1.kind, .int .i64 e1.n] 27)).heap.size := by omega
    clear hB9 hX9 hY9 hz9
    go_enter Try.func3, Try.ntmps3
    obtain ⟨eap0, ebp0, -⟩ := two_cells HXp0.out
    obtain ⟨eap1, ebp1, -⟩ := two_cells HXp1.out
    go_wp2_with fail
    clear eap0 ebp0 eap1 ebp1
    generalize hgen : (World.alloc (World.alloc w (.cells #[.slice a90 n90 c90, .slice b90 m90 d90] 25)) (.cells #[.int .i64 e1.kind, .int .i64 e1.n] 27)) = w_1 at *
    clear hgen
    refine (szHello_no (1048576) (K0.same HB.out) (by omega) (by omega) (by omega)).mono ?_
    rintro e w' ⟨rfl, hb⟩
    have HB2 := Lib.hid (HB.out.trans (hb.mono HB.out.size))
    go_wp2_with fail
    go_ret
    exact ⟨rfl, HB2.out⟩
  have HK0 := Lib.hid K0
  have hn0 : x0.parts ≤ 1048576 := by omega
  have HF1 := Lib.hid F1
  have hpw := edH_parts x0 e1
  obtain ⟨hp1, hp2, hp3⟩ : x0.vers.length ≤ 1048576 ∧ x0.exts.length ≤ 1048576 ∧ itemsOf x0.exts ≤ 1048576 := by unfold Hel.parts at hn0; omega
  clear K0 F0 F1
  obtain ⟨hz9, hX9, hY9, hB9⟩ := two w #[.slice a90 n90 c90, .slice b90 m90 d90] #[.int .i64 e1.kind, .int .i64 e1.n] 25 27
  have HB := Lib.hid hB9
  have HXp0 := Lib.hid hX9
  have HXp1 := Lib.hid hY9
  have hs1 : w.heap.size + 2 ≤ (World.alloc (World.alloc w (.cells #[.slice a90 n90 c90, .slice b90 m90 d90] 25)) (.cells #[.int .i64 e1.kind, .int .i64 e1.n] 27)).heap.size := by omega
  clear hB9 hX9 hY9 hz9
  go_enter Try.func3, Try.ntmps3
  obtain ⟨eap0, ebp0, -⟩ := two_cells HXp0.out
  obtain ⟨eap1, ebp1, -⟩ := two_cells HXp1.out
  go_wp2_with fail
  clear eap0 ebp0 eap1 ebp1
  generalize hgen : (World.alloc (World.alloc w (.cells #[.slice a90 n90 c90, .slice b90 m90 d90] 25)) (.cells #[.int .i64 e1.kind, .int .i64 e1.n] 27)) = w_1 at *
  clear hgen
  refine (szHello_yes (1048576) (HK0.out.same HB.out) (by omega) (by omega)).mono ?_
  rintro e w_2 ⟨rfl, hb⟩
  have hs2 : w_1.heap.size ≤ w_2.heap.size := hb.size
  replace HXp0 := Lib.hid (((hb).block _ (by omega)).trans HXp0.out)
  replace HXp1 := Lib.hid (((hb).block _ (by omega)).trans HXp1.out)
  replace HB := Lib.hid (HB.out.trans (hb.mono HB.out.size))
  clear hb
  obtain ⟨eap0, ebp0, -⟩ := two_cells HXp0.out
  obtain ⟨eap1, ebp1, -⟩ := two_cells HXp1.out
  go_wp2_with fail
  clear eap0 ebp0 eap1 ebp1
  have CXa_p0 := Lib.hid (two_cells HXp0.out)
  have CXa_p1 := Lib.hid (two_cells HXp1.out)
  have HBda : Hid (Below w_2.heap.size w_2 w_2.drew) := Lib.hid (Below.refl _ _).drew
  apply cut_v (ChH w_2 (edH x0 e1))
  case h =>
    refine wp_region_held_drew (S := fun w9 => w9.cell? ⟨w.heap.size, 0, none⟩ = some (.slice a90 n90 c90) ∧ w9.cell? ⟨w.heap.size, 1, none⟩ = some (.slice b90 m90 d90) ∧ w9.cell? ⟨w.heap.size + 1, 0, none⟩ = some (.int .i64 e1.kind) ∧ w9.cell? ⟨w.heap.size + 1, 1, none⟩ = some (.int .i64 e1.n)) (by kernel_rfl) ⟨cell_stay CXa_p0.out.1 HBda.out, cell_stay CXa_p0.out.2.1 HBda.out, cell_stay CXa_p1.out.1 HBda.out, cell_stay CXa_p1.out.2.1 HBda.out⟩ (fun hHeld => ?_)
    refine wpAnyH_take (i := 0) (v := ?v1) (by simp only [List.getElem?_toArray, List.getElem?_cons_succ, List.getElem?_cons_zero]; rfl) (by kernel_rfl) (by kernel_rfl) (by kernel_rfl) (by exact fun _ _ _ h => h) (Or.inl ⟨by rfl, fun w9 hS9 => ?hy1⟩) hHeld ?rest1
    case hy1 =>
      dsimp only at hS9
      obtain ⟨z0, z1, z2, z3⟩ := hS9
      go_simp
      try with_reducible rfl
    try simp only [Act.put, List.setIfInBounds_toArray, List.set_cons_zero, List.set_cons_succ]
    refine wpAnyH_take (i := 2) (v := ?v2) (by simp only [List.getElem?_toArray, List.getElem?_cons_succ, List.getElem?_cons_zero]; rfl) (by kernel_rfl) (by kernel_rfl) (by kernel_rfl) (by exact fun _ _ _ h => h) (Or.inl ⟨by rfl, fun w9 hS9 => ?hy2⟩) hHeld ?rest2
    case hy2 =>
      dsimp only at hS9
      obtain ⟨z0, z1, z2, z3⟩ := hS9
      go_simp
      try with_reducible rfl
    try simp only [Act.put, List.setIfInBounds_toArray, List.set_cons_zero, List.set_cons_succ]
    refine wpAnyH_ready (rs := [1, 5]) (by kernel_rfl) (by simp) (AllReadyH.cons (by simp only [List.getElem?_toArray, List.getElem?_cons_succ, List.getElem?_cons_zero]; rfl) (fun K hK => ?_) (AllReadyH.cons (by simp only [List.getElem?_toArray, List.getElem?_cons_succ, List.getElem?_cons_zero]; rfl) (fun K hK => ?_) AllReadyH.nil))
    · skip
      go_simp
      refine (toHello_any (HK0.out.same (HB.out.trans (HBda.out.mono HB.out.size))) (by omega)).mono ?_
      rintro e va_1 ⟨ta_0, rfl, ho, hb⟩
      have HBa_1 : Hid (Below w_2.heap.size w_2 va_1) := Lib.hid (HBda.out.trans (hb.mono HBda.out.size))
      have HNa_0 := Lib.hid ho
      clear ho
      clear hb
      go_wp2_with fail
      refine hK.out _ _ ⟨cell_stay CXa_p0.out.1 HBa_1.out, cell_stay CXa_p0.out.2.1 HBa_1.out, cell_stay CXa_p1.out.1 HBa_1.out, cell_stay CXa_p1.out.2.1 HBa_1.out⟩ (fun hHeld => ?_)
      clear hK K
      try simp only [Act.put, List.setIfInBounds_toArray, List.set_cons_zero, List.set_cons_succ]
      refine wpAnyH_ready (rs := [3, 5]) (by kernel_rfl) (by simp) (AllReadyH.cons (by simp only [List.getElem?_toArray, List.getElem?_cons_succ, List.getElem?_cons_zero]; rfl) (fun K hK => ?_) (AllReadyH.cons (by simp only [List.getElem?_toArray, List.getElem?_cons_succ, List.getElem?_cons_zero]; rfl) (fun K hK => ?_) AllReadyH.nil))
      · skip
        go_simp
        refine (toEdit_agg e1 _).mono ?_
        rintro e va_2 ⟨rfl, hb⟩
        have HBa_2 : Hid (Below w_2.heap.size w_2 va_2) := Lib.hid (HBa_1.out.trans (hb.mono HBa_1.out.size))
        replace HNa_0 := Lib.hid (HNa_0.out.same hb)
        clear hb
        go_wp2_with fail
        refine hK.out _ _ ⟨cell_stay CXa_p0.out.1 HBa_2.out, cell_stay CXa_p0.out.2.1 HBa_2.out, cell_stay CXa_p1.out.1 HBa_2.out, cell_stay CXa_p1.out.2.1 HBa_2.out⟩ (fun hHeld => ?_)
        clear hK K
        try simp only [Act.put, List.setIfInBounds_toArray, List.set_cons_zero, List.set_cons_succ]
        refine wpAnyH_ready (rs := [4, 5]) (by kernel_rfl) (by simp) (AllReadyH.cons (by simp only [List.getElem?_toArray, List.getElem?_cons_succ, List.getElem?_cons_zero]; rfl) (fun K hK => ?_) (AllReadyH.cons (by simp only [List.getElem?_toArray, List.getElem?_cons_succ, List.getElem?_cons_zero]; rfl) (fun K hK => ?_) AllReadyH.nil))
        · skip
          go_simp
          refine (specEditHello_any (e := e1) HNa_0.out HF1.out.1 hp1 hp2 hp3).mono ?_
          rintro e va_3 ⟨v21, rfl, ho, hb⟩
          have HBa_3 : Hid (Below w_2.heap.size w_2 va_3) := Lib.hid (HBa_2.out.trans (hb.mono HBa_2.out.size))
          obtain ⟨a21, n21, c21, b21, m21, d21, rfl⟩ := ho.shape
          have HoFa : Hid (OwnHel va_3.heap.size va_3 w_2.heap.size (.agg #[.slice a21 n21 c21, .slice b21 m21 d21]) (edH x0 e1)) := Lib.hid (ho.lower HBa_2.out.size)
          clear ho hb
          go_wp2_with fail
          refine hK.out _ _ ⟨cell_stay CXa_p0.out.1 HBa_3.out, cell_stay CXa_p0.out.2.1 HBa_3.out, cell_stay CXa_p1.out.1 HBa_3.out, cell_stay CXa_p1.out.2.1 HBa_3.out⟩ (fun hHeld => ?_)
          clear hK K
          try simp only [Act.put, List.setIfInBounds_toArray, List.set_cons_zero, List.set_cons_succ]
          refine wpAnyH_ready (rs := [5]) (by kernel_rfl) (by simp) (AllReadyH.cons (by simp only [List.getElem?_toArray, List.getElem?_cons_succ, List.getElem?_cons_zero]; rfl) (fun K hK => ?_) AllReadyH.nil)
          have HBa_4 : Hid (Below w_2.heap.size w_2 (World.alloc va_3 (.cells #[.slice none 0 0, .slice none 0 0] 31))) := Lib.hid (HBa_3.out.trans ((alloc_same va_3 (.cells #[.slice none 0 0, .slice none 0 0] 31)).mono HBa_3.out.size))
          go_simp
          refine hK.out _ _ ⟨cell_stay CXa_p0.out.1 HBa_4.out, cell_stay CXa_p0.out.2.1 HBa_4.out, cell_stay CXa_p1.out.1 HBa_4.out, cell_stay CXa_p1.out.2.1 HBa_4.out⟩ (fun hHeld => ?_)
          clear hK K
          try simp only [Act.put, List.setIfInBounds_toArray, List.set_cons_zero, List.set_cons_succ]
          refine wpAnyH_ready (rs := [6]) (by kernel_rfl) (by simp) (AllReadyH.cons (by simp only [List.getElem?_toArray, List.getElem?_cons_succ, List.getElem?_cons_zero]; rfl) (fun K hK => ?_) AllReadyH.nil)
          have HRa := Lib.hid (chH_alloc (L := edH x0 e1) HBa_3.out HoFa.out)
          have HBa_5 : Hid (Below w_2.heap.size w_2 (World.alloc va_3 (.cells #[.slice a21 n21 c21, .slice b21 m21 d21] 31))) := Lib.hid HRa.out.1
          go_simp
          refine hK.out _ _ ⟨cell_stay CXa_p0.out.1 HBa_5.out, cell_stay CXa_p0.out.2.1 HBa_5.out, cell_stay CXa_p1.out.1 HBa_5.out, cell_stay CXa_p1.out.2.1 HBa_5.out⟩ (fun hHeld => ?_)
          clear hK K
          try simp only [Act.put, List.setIfInBounds_toArray, List.set_cons_zero, List.set_cons_succ]
          refine wpAnyH_done (by kernel_rfl) ?_ _
          have HR := HRa
          have hfin : ChH w_2 (edH x0 e1) va_3.heap.size (.agg #[.slice a21 n21 c21, .slice b21 m21 d21]) _ := HR.out
          generalize va_3.heap.size = g at hfin ⊢
          generalize (Value.agg #[.slice a21 n21 c21, .slice b21 m21 d21]) = v at hfin ⊢
          generalize ta_0 = u1
          obtain ⟨u2, -⟩ : ∃ u : Value, u = undef := ⟨_, rfl⟩
          obtain ⟨u3, -⟩ : ∃ u : Value, u = undef := ⟨_, rfl⟩
          obtain ⟨u4, -⟩ : ∃ u : Value, u = undef := ⟨_, rfl⟩
          exact ⟨g, v, u1, u2, u3, u4, rfl, hfin⟩
        · skip
          have HBa_3 : Hid (Below w_2.heap.size w_2 (World.alloc va_2 (.cells #[.slice none 0 0, .slice none 0 0] 31))) := Lib.hid (HBa_2.out.trans ((alloc_same va_2 (.cells #[.slice none 0 0, .slice none 0 0] 31)).mono HBa_2.out.size))
          have HZa : Hid ((World.alloc va_2 (.cells #[.slice none 0 0, .slice none 0 0] 31)).heap[va_2.heap.size]? = some (.cells #[.slice none 0 0, .slice none 0 0] 31 (0, 0))) := Lib.hid (heap_alloc_new va_2 _)
          have HgZa : Hid (va_2.heap.size < (World.alloc va_2 (.cells #[.slice none 0 0, .slice none 0 0] 31)).heap.size) := Lib.hid (by simp)
          replace HNa_0 := Lib.hid (HNa_0.out.same (alloc_same va_2 (.cells #[.slice none 0 0, .slice none 0 0] 31)))
          go_simp
          refine hK.out _ _ ⟨cell_stay CXa_p0.out.1 HBa_3.out, cell_stay CXa_p0.out.2.1 HBa_3.out, cell_stay CXa_p1.out.1 HBa_3.out, cell_stay CXa_p1.out.2.1 HBa_3.out⟩ (fun hHeld => ?_)
          clear hK K
          try simp only [Act.put, List.setIfInBounds_toArray, List.set_cons_zero, List.set_cons_succ]
          refine wpAnyH_ready (rs := [4]) (by kernel_rfl) (by simp) (AllReadyH.cons (by simp only [List.getElem?_toArray, List.getElem?_cons_succ, List.getElem?_cons_zero]; rfl) (fun K hK => ?_) AllReadyH.nil)
          go_simp
          have HgLa := HgZa
          refine (specEditHello_any (e := e1) HNa_0.out HF1.out.1 hp1 hp2 hp3).mono ?_
          rintro e va_4 ⟨v21, rfl, ho, hb⟩
          have HBa_4 : Hid (Below w_2.heap.size w_2 va_4) := Lib.hid (HBa_3.out.trans (hb.mono HBa_3.out.size))
          obtain ⟨a21, n21, c21, b21, m21, d21, rfl⟩ := ho.shape
          have HwVa := Lib.hid hb.size
          have HgPa : Hid (w_2.heap.size ≤ va_2.heap.size) := Lib.hid (HBa_2.out.size)
          replace HZa := Lib.hid ((hb.block _ HgZa.out).trans HZa.out)
          have HoFa := Lib.hid ho
          clear ho hb
          go_wp2_with fail
          refine hK.out _ _ ⟨cell_stay CXa_p0.out.1 HBa_4.out, cell_stay CXa_p0.out.2.1 HBa_4.out, cell_stay CXa_p1.out.1 HBa_4.out, cell_stay CXa_p1.out.2.1 HBa_4.out⟩ (fun hHeld => ?_)
          clear hK K
          try simp only [Act.put, List.setIfInBounds_toArray, List.set_cons_zero, List.set_cons_succ]
          refine wpAnyH_ready (rs := [6]) (by kernel_rfl) (by simp) (AllReadyH.cons (by simp only [List.getElem?_toArray, List.getElem?_cons_succ, List.getElem?_cons_zero]; rfl) (fun K hK => ?_) AllReadyH.nil)
          have HRa := Lib.hid (chH_store (pw := w_2) (w := (World.alloc va_2 (.cells #[.slice none 0 0, .slice none 0 0] 31))) (L := edH x0 e1) HBa_4.out HgPa.out HZa.out HgLa.out HwVa.out HoFa.out)
          have HBa_5 : Hid (Below w_2.heap.size w_2 ((va_4.setCell ⟨va_2.heap.size, 0, none⟩ (.slice a21 n21 c21)).setCell ⟨va_2.heap.size, 1, none⟩ (.slice b21 m21 d21))) := Lib.hid HRa.out.1
          obtain ⟨m0, m1, q0, q1⟩ := two_cells HZa.out
          obtain ⟨y0, y1, -⟩ := two_put HZa.out (.slice a21 n21 c21) (.slice b21 m21 d21)
          go_simp
          refine hK.out _ _ ⟨cell_stay CXa_p0.out.1 HBa_5.out, cell_stay CXa_p0.out.2.1 HBa_5.out, cell_stay CXa_p1.out.1 HBa_5.out, cell_stay CXa_p1.out.2.1 HBa_5.out⟩ (fun hHeld => ?_)
          clear hK K
          try simp only [Act.put, List.setIfInBounds_toArray, List.set_cons_zero, List.set_cons_succ]
          refine wpAnyH_done (by kernel_rfl) ?_ _
          have HR := HRa
          have hfin : ChH w_2 (edH x0 e1) va_2.heap.size (.agg #[.slice a21 n21 c21, .slice b21 m21 d21]) _ := HR.out
          generalize va_2.heap.size = g at hfin ⊢
          generalize (Value.agg #[.slice a21 n21 c21, .slice b21 m21 d21]) = v at hfin ⊢
          generalize ta_0 = u1
          obtain ⟨u2, -⟩ : ∃ u : Value, u = undef := ⟨_, rfl⟩
          obtain ⟨u3, -⟩ : ∃ u : Value, u = undef := ⟨_, rfl⟩
          obtain ⟨u4, -⟩ : ∃ u : Value, u = undef := ⟨_, rfl⟩
          exact ⟨g, v, u1, u2, u3, u4, rfl, hfin⟩
      · skip
        have HBa_2 : Hid (Below w_2.heap.size w_2 (World.alloc va_1 (.cells #[.slice none 0 0, .slice none 0 0] 31))) := Lib.hid (HBa_1.out.trans ((alloc_same va_1 (.cells #[.slice none 0 0, .slice none 0 0] 31)).mono HBa_1.out.size))
        have HZa : Hid ((World.alloc va_1 (.cells #[.slice none 0 0, .slice none 0 0] 31)).heap[va_1.heap.size]? = some (.cells #[.slice none 0 0, .slice none 0 0] 31 (0, 0))) := Lib.hid (heap_alloc_new va_1 _)
        have HgZa : Hid (va_1.heap.size < (World.alloc va_1 (.cells #[.slice none 0 0, .slice none 0 0] 31)).heap.size) := Lib.hid (by simp)
        replace HNa_0 := Lib.hid (HNa_0.out.same (alloc_same va_1 (.cells #[.slice none 0 0, .slice none 0 0] 31)))
        go_simp
        refine hK.out _ _ ⟨cell_stay CXa_p0.out.1 HBa_2.out, cell_stay CXa_p0.out.2.1 HBa_2.out, cell_stay CXa_p1.out.1 HBa_2.out, cell_stay CXa_p1.out.2.1 HBa_2.out⟩ (fun hHeld => ?_)
        clear hK K
        try simp only [Act.put, List.setIfInBounds_toArray, List.set_cons_zero, List.set_cons_succ]
        refine wpAnyH_ready (rs := [3]) (by kernel_rfl) (by simp) (AllReadyH.cons (by simp only [List.getElem?_toArray, List.getElem?_cons_succ, List.getElem?_cons_zero]; rfl) (fun K hK => ?_) AllReadyH.nil)
        go_simp
        refine (toEdit_agg e1 _).mono ?_
        rintro e va_3 ⟨rfl, hb⟩
        have HBa_3 : Hid (Below w_2.heap.size w_2 va_3) := Lib.hid (HBa_2.out.trans (hb.mono HBa_2.out.size))
        replace HNa_0 := Lib.hid (HNa_0.out.same hb)
        replace HZa := Lib.hid ((hb.block _ (by have := HgZa.out; omega)).trans HZa.out)
        replace HgZa := Lib.hid (Nat.lt_of_lt_of_le HgZa.out hb.size)
        clear hb
        go_wp2_with fail
        refine hK.out _ _ ⟨cell_stay CXa_p0.out.1 HBa_3.out, cell_stay CXa_p0.out.2.1 HBa_3.out, cell_stay CXa_p1.out.1 HBa_3.out, cell_stay CXa_p1.out.2.1 HBa_3.out⟩ (fun hHeld => ?_)
        clear hK K
        try simp only [Act.put, List.setIfInBounds_toArray, List.set_cons_zero, List.set_cons_succ]
        refine wpAnyH_ready (rs := [4]) (by kernel_rfl) (by simp) (AllReadyH.cons (by simp only [List.getElem?_toArray, List.getElem?_cons_succ, List.getElem?_cons_zero]; rfl) (fun K hK => ?_) AllReadyH.nil)
        go_simp
        have HgLa := HgZa
        refine (specEditHello_any (e := e1) HNa_0.out HF1.out.1 hp1 hp2 hp3).mono ?_
        rintro e va_4 ⟨v21, rfl, ho, hb⟩
        have HBa_4 : Hid (Below w_2.heap.size w_2 va_4) := Lib.hid (HBa_3.out.trans (hb.mono HBa_3.out.size))
        obtain ⟨a21, n21, c21, b21, m21, d21, rfl⟩ := ho.shape
        have HwVa := Lib.hid hb.size
        have HgPa : Hid (w_2.heap.size ≤ va_1.heap.size) := Lib.hid (HBa_1.out.size)
        replace HZa := Lib.hid ((hb.block _ HgZa.out).trans HZa.out)
        have HoFa := Lib.hid ho
        clear ho hb
        go_wp2_with fail
        refine hK.out _ _ ⟨cell_stay CXa_p0.out.1 HBa_4.out, cell_stay CXa_p0.out.2.1 HBa_4.out, cell_stay CXa_p1.out.1 HBa_4.out, cell_stay CXa_p1.out.2.1 HBa_4.out⟩ (fun hHeld => ?_)
        clear hK K
        try simp only [Act.put, List.setIfInBounds_toArray, List.set_cons_zero, List.set_cons_succ]
        refine wpAnyH_ready (rs := [6]) (by kernel_rfl) (by simp) (AllReadyH.cons (by simp only [List.getElem?_toArray, List.getElem?_cons_succ, List.getElem?_cons_zero]; rfl) (fun K hK => ?_) AllReadyH.nil)
        have HRa := Lib.hid (chH_store (pw := w_2) (w := va_3) (L := edH x0 e1) HBa_4.out HgPa.out HZa.out HgLa.out HwVa.out HoFa.out)
        have HBa_5 : Hid (Below w_2.heap.size w_2 ((va_4.setCell ⟨va_1.heap.size, 0, none⟩ (.slice a21 n21 c21)).setCell ⟨va_1.heap.size, 1, none⟩ (.slice b21 m21 d21))) := Lib.hid HRa.out.1
        obtain ⟨m0, m1, q0, q1⟩ := two_cells HZa.out
        obtain ⟨y0, y1, -⟩ := two_put HZa.out (.slice a21 n21 c21) (.slice b21 m21 d21)
        go_simp
        refine hK.out _ _ ⟨cell_stay CXa_p0.out.1 HBa_5.out, cell_stay CXa_p0.out.2.1 HBa_5.out, cell_stay CXa_p1.out.1 HBa_5.out, cell_stay CXa_p1.out.2.1 HBa_5.out⟩ (fun hHeld => ?_)
        clear hK K
        try simp only [Act.put, List.setIfInBounds_toArray, List.set_cons_zero, List.set_cons_succ]
        refine wpAnyH_done (by kernel_rfl) ?_ _
        have HR := HRa
        have hfin : ChH w_2 (edH x0 e1) va_1.heap.size (.agg #[.slice a21 n21 c21, .slice b21 m21 d21]) _ := HR.out
        generalize va_1.heap.size = g at hfin ⊢
        generalize (Value.agg #[.slice a21 n21 c21, .slice b21 m21 d21]) = v at hfin ⊢
        generalize ta_0 = u1
        obtain ⟨u2, -⟩ : ∃ u : Value, u = undef := ⟨_, rfl⟩
        obtain ⟨u3, -⟩ : ∃ u : Value, u = undef := ⟨_, rfl⟩
        obtain ⟨u4, -⟩ : ∃ u : Value, u = undef := ⟨_, rfl⟩
        exact ⟨g, v, u1, u2, u3, u4, rfl, hfin⟩
    · skip
      have HBa_1 : Hid (Below w_2.heap.size w_2 (World.alloc w_2 (.cells #[.slice none 0 0, .slice none 0 0] 31)).drew) := Lib.hid (alloc_same w_2 (.cells #[.slice none 0 0, .slice none 0 0] 31)).drew
      have HZa : Hid ((World.alloc w_2 (.cells #[.slice none 0 0, .slice none 0 0] 31)).drew.heap[w_2.heap.size]? = some (.cells #[.slice none 0 0, .slice none 0 0] 31 (0, 0))) := Lib.hid (heap_alloc_new w_2 _)
      have HgZa : Hid (w_2.heap.size < (World.alloc w_2 (.cells #[.slice none 0 0, .slice none 0 0] 31)).drew.heap.size) := Lib.hid (by simp)
      go_simp
      refine hK.out _ _ ⟨cell_stay CXa_p0.out.1 HBa_1.out, cell_stay CXa_p0.out.2.1 HBa_1.out, cell_stay CXa_p1.out.1 HBa_1.out, cell_stay CXa_p1.out.2.1 HBa_1.out⟩ (fun hHeld => ?_)
      clear hK K
      try simp only [Act.put, List.setIfInBounds_toArray, List.set_cons_zero, List.set_cons_succ]
      refine wpAnyH_ready (rs := [1]) (by kernel_rfl) (by simp) (AllReadyH.cons (by simp only [List.getElem?_toArray, List.getElem?_cons_succ, List.getElem?_cons_zero]; rfl) (fun K hK => ?_) AllReadyH.nil)
      go_simp
      refine (toHello_any (HK0.out.same (HB.out.trans (HBa_1.out.mono HB.out.size))) (by omega)).mono ?_
      rintro e va_2 ⟨ta_0, rfl, ho, hb⟩
      have HBa_2 : Hid (Below w_2.heap.size w_2 va_2) := Lib.hid (HBa_1.out.trans (hb.mono HBa_1.out.size))
      replace HZa := Lib.hid ((hb.block _ (by have := HgZa.out; omega)).trans HZa.out)
      replace HgZa := Lib.hid (Nat.lt_of_lt_of_le HgZa.out hb.size)
      have HNa_0 := Lib.hid ho
      clear ho
      clear hb
      go_wp2_with fail
      refine hK.out _ _ ⟨cell_stay CXa_p0.out.1 HBa_2.out, cell_stay CXa_p0.out.2.1 HBa_2.out, cell_stay CXa_p1.out.1 HBa_2.out, cell_stay CXa_p1.out.2.1 HBa_2.out⟩ (fun hHeld => ?_)
      clear hK K
      try simp only [Act.put, List.setIfInBounds_toArray, List.set_cons_zero, List.set_cons_succ]
      refine wpAnyH_ready (rs := [3]) (by kernel_rfl) (by simp) (AllReadyH.cons (by simp only [List.getElem?_toArray, List.getElem?_cons_succ, List.getElem?_cons_zero]; rfl) (fun K hK => ?_) AllReadyH.nil)
      go_simp
      refine (toEdit_agg e1 _).mono ?_
      rintro e va_3 ⟨rfl, hb⟩
      have HBa_3 : Hid (Below w_2.heap.size w_2 va_3) := Lib.hid (HBa_2.out.trans (hb.mono HBa_2.out.size))
      replace HNa_0 := Lib.hid (HNa_0.out.same hb)
      replace HZa := Lib.hid ((hb.block _ (by have := HgZa.out; omega)).trans HZa.out)
      replace HgZa := Lib.hid (Nat.lt_of_lt_of_le HgZa.out hb.size)
      clear hb
      go_wp2_with fail
      refine hK.out _ _ ⟨cell_stay CXa_p0.out.1 HBa_3.out, cell_stay CXa_p0.out.2.1 HBa_3.out, cell_stay CXa_p1.out.1 HBa_3.out, cell_stay CXa_p1.out.2.1 HBa_3.out⟩ (fun hHeld => ?_)
      clear hK K
      try simp only [Act.put, List.setIfInBounds_toArray, List.set_cons_zero, List.set_cons_succ]
      refine wpAnyH_ready (rs := [4]) (by kernel_rfl) (by simp) (AllReadyH.cons (by simp only [List.getElem?_toArray, List.getElem?_cons_succ, List.getElem?_cons_zero]; rfl) (fun K hK => ?_) AllReadyH.nil)
      go_simp
      have HgLa := HgZa
      refine (specEditHello_any (e := e1) HNa_0.out HF1.out.1 hp1 hp2 hp3).mono ?_
      rintro e va_4 ⟨v21, rfl, ho, hb⟩
      have HBa_4 : Hid (Below w_2.heap.size w_2 va_4) := Lib.hid (HBa_3.out.trans (hb.mono HBa_3.out.size))
      obtain ⟨a21, n21, c21, b21, m21, d21, rfl⟩ := ho.shape
      have HwVa := Lib.hid hb.size
      have HgPa : Hid (w_2.heap.size ≤ w_2.heap.size) := Lib.hid (Nat.le_refl _)
      replace HZa := Lib.hid ((hb.block _ HgZa.out).trans HZa.out)
      have HoFa := Lib.hid ho
      clear ho hb
      go_wp2_with fail
      refine hK.out _ _ ⟨cell_stay CXa_p0.out.1 HBa_4.out, cell_stay CXa_p0.out.2.1 HBa_4.out, cell_stay CXa_p1.out.1 HBa_4.out, cell_stay CXa_p1.out.2.1 HBa_4.out⟩ (fun hHeld => ?_)
      clear hK K
      try simp only [Act.put, List.setIfInBounds_toArray, List.set_cons_zero, List.set_cons_succ]
      refine wpAnyH_ready (rs := [6]) (by kernel_rfl) (by simp) (AllReadyH.cons (by simp only [List.getElem?_toArray, List.getElem?_cons_succ, List.getElem?_cons_zero]; rfl) (fun K hK => ?_) AllReadyH.nil)
      have HRa := Lib.hid (chH_store (pw := w_2) (w := va_3) (L := edH x0 e1) HBa_4.out HgPa.out HZa.out HgLa.out HwVa.out HoFa.out)
      have HBa_5 : Hid (Below w_2.heap.size w_2 ((va_4.setCell ⟨w_2.heap.size, 0, none⟩ (.slice a21 n21 c21)).setCell ⟨w_2.heap.size, 1, none⟩ (.slice b21 m21 d21))) := Lib.hid HRa.out.1
      obtain ⟨m0, m1, q0, q1⟩ := two_cells HZa.out
      obtain ⟨y0, y1, -⟩ := two_put HZa.out (.slice a21 n21 c21) (.slice b21 m21 d21)
      go_simp
      refine hK.out _ _ ⟨cell_stay CXa_p0.out.1 HBa_5.out, cell_stay CXa_p0.out.2.1 HBa_5.out, cell_stay CXa_p1.out.1 HBa_5.out, cell_stay CXa_p1.out.2.1 HBa_5.out⟩ (fun hHeld => ?_)
      clear hK K
      try simp only [Act.put, List.setIfInBounds_toArray, List.set_cons_zero, List.set_cons_succ]
      refine wpAnyH_done (by kernel_rfl) ?_ _
      have HR := HRa
      have hfin : ChH w_2 (edH x0 e1) w_2.heap.size (.agg #[.slice a21 n21 c21, .slice b21 m21 d21]) _ := HR.out
      generalize w_2.heap.size = g at hfin ⊢
      generalize (Value.agg #[.slice a21 n21 c21, .slice b21 m21 d21]) = v at hfin ⊢
      generalize ta_0 = u1
      obtain ⟨u2, -⟩ : ∃ u : Value, u = undef := ⟨_, rfl⟩
      obtain ⟨u3, -⟩ : ∃ u : Value, u = undef := ⟨_, rfl⟩
      obtain ⟨u4, -⟩ : ∃ u : Value, u = undef := ⟨_, rfl⟩
      exact ⟨g, v, u1, u2, u3, u4, rfl, hfin⟩
  intro ga va u1a u2a u3a u4a Wa hR
  obtain ⟨w_3, hwv⟩ : ∃ u, u = Wa := ⟨_, rfl⟩
  subst hwv
  obtain ⟨hb, hgp, a21, n21, c21, b21, m21, d21, loa, Sa, rfl, hbox, ho, hlo, hS, hgd⟩ := hR
  have HO21 := Lib.hid ho
  have HXN := Lib.hid hbox
  clear ho hbox CXa_p0 CXa_p1 HBda
  have hs3 : w_2.heap.size ≤ w_3.heap.size := hb.size
  replace HXp0 := Lib.hid (((hb).block _ (by omega)).trans HXp0.out)
  replace HXp1 := Lib.hid (((hb).block _ (by omega)).trans HXp1.out)
  replace HB := Lib.hid (HB.out.trans (hb.mono HB.out.size))
  clear hb
  have HX21 := HXN
  clear HXN
  obtain ⟨eap0, ebp0, -⟩ := two_cells HXp0.out
  obtain ⟨eap1, ebp1, -⟩ := two_cells HXp1.out
  obtain ⟨ea21, eb21, -⟩ := two_cells HX21.out
  go_wp2_with fail
  clear eap0 ebp0 eap1 ebp1 ea21 eb21
  refine (toHello_any (HK0.out.same HB.out) (by omega)).mono ?_
  rintro e w_4 ⟨v22, rfl, ho, hb⟩
  have HN22 := Lib.hid ho
  have hs4 : w_3.heap.size ≤ w_4.heap.size := hb.size
  replace HO21 := Lib.hid (HO21.out.same hb)
  replace HXp0 := Lib.hid (((hb).block _ (by omega)).trans HXp0.out)
  replace HXp1 := Lib.hid (((hb).block _ (by omega)).trans HXp1.out)
  replace HX21 := Lib.hid (((hb).block _ (by omega)).trans HX21.out)
  replace HB := Lib.hid (HB.out.trans (hb.mono HB.out.size))
  clear ho
  clear hb
  have HO22 := HN22
  clear HN22
  obtain ⟨a22, n22, c22, b22, m22, d22, rfl⟩ := HO22.out.shape
  have HAL := Lib.hid (alloc_same w_4 (.cells #[.slice a22 n22 c22, .slice b22 m22 d22] 31))
  have HX22 := Lib.hid (heap_alloc_new w_4 (.cells #[.slice a22 n22 c22, .slice b22 m22 d22] 31 (0, 0)))
  change Hid ((World.alloc w_4 (.cells #[.slice a22 n22 c22, .slice b22 m22 d22] 31)).heap[w_4.heap.size]? = _) at HX22
  replace HO21 := Lib.hid (HO21.out.same HAL.out)
  replace HO22 := Lib.hid (HO22.out.same HAL.out)
  replace HXp0 := Lib.hid (((HAL.out).block _ (by omega)).trans HXp0.out)
  replace HXp1 := Lib.hid (((HAL.out).block _ (by omega)).trans HXp1.out)
  replace HX21 := Lib.hid (((HAL.out).block _ (by omega)).trans HX21.out)
  replace HB := Lib.hid (HB.out.trans (HAL.out.mono HB.out.size))
  have hs5 : w_4.heap.size < (World.alloc w_4 (.cells #[.slice a22 n22 c22, .slice b22 m22 d22] 31)).heap.size := by simp
  obtain ⟨eap0, ebp0, -⟩ := two_cells HXp0.out
  obtain ⟨eap1, ebp1, -⟩ := two_cells HXp1.out
  obtain ⟨ea21, eb21, -⟩ := two_cells HX21.out
  obtain ⟨ea22, eb22, -⟩ := two_cells HX22.out
  clear HAL
  go_wp2_with fail
  clear eap0 ebp0 eap1 ebp1 ea21 eb21 ea22 eb22
  generalize hgen : World.alloc w_4 (.cells #[.slice a22 n22 c22, .slice b22 m22 d22] 31) = w_5 at *
  clear hgen
  have CXb_22 := Lib.hid (two_cells HX22.out)
  have CXb_p1 := Lib.hid (two_cells HXp1.out)
  have HBdb : Hid (Below w_5.heap.size w_5 w_5.drew) := Lib.hid (Below.refl _ _).drew
  apply cut_v (ChH w_5 (edH x0 e1))
  case h =>
    refine wp_region_held_drew (S := fun w9 => w9.cell? ⟨w_4.heap.size, 0, none⟩ = some (.slice a22 n22 c22) ∧ w9.cell? ⟨w_4.heap.size, 1, none⟩ = some (.slice b22 m22 d22) ∧ w9.cell? ⟨w.heap.size + 1, 0, none⟩ = some (.int .i64 e1.kind) ∧ w9.cell? ⟨w.heap.size + 1, 1, none⟩ = some (.int .i64 e1.n)) (by kernel_rfl) ⟨cell_stay CXb_22.out.1 HBdb.out, cell_stay CXb_22.out.2.1 HBdb.out, cell_stay CXb_p1.out.1 HBdb.out, cell_stay CXb_p1.out.2.1 HBdb.out⟩ (fun hHeld => ?_)
    refine wpAnyH_take (i := 0) (v := ?v3) (by simp only [List.getElem?_toArray, List.getElem?_cons_succ, List.getElem?_cons_zero]; rfl) (by kernel_rfl) (by kernel_rfl) (by kernel_rfl) (by exact fun _ _ _ h => h) (Or.inl ⟨by rfl, fun w9 hS9 => ?hy3⟩) hHeld ?rest3
    case hy3 =>
      dsimp only at hS9
      obtain ⟨z0, z1, z2, z3⟩ := hS9
      go_simp
      try with_reducible rfl
    try simp only [Act.put, List.setIfInBounds_toArray, List.set_cons_zero, List.set_cons_succ]
    refine wpAnyH_take (i := 1) (v := ?v4) (by simp only [List.getElem?_toArray, List.getElem?_cons_succ, List.getElem?_cons_zero]; rfl) (by kernel_rfl) (by kernel_rfl) (by kernel_rfl) (by exact fun _ _ _ h => h) (Or.inl ⟨by rfl, fun w9 hS9 => ?hy4⟩) hHeld ?rest4
    case hy4 =>
      dsimp only at hS9
      obtain ⟨z0, z1, z2, z3⟩ := hS9
      go_simp
      try with_reducible rfl
    try simp only [Act.put, List.setIfInBounds_toArray, List.set_cons_zero, List.set_cons_succ]
    refine wpAnyH_ready (rs := [2, 4]) (by kernel_rfl) (by simp) (AllReadyH.cons (by simp only [List.getElem?_toArray, List.getElem?_cons_succ, List.getElem?_cons_zero]; rfl) (fun K hK => ?_) (AllReadyH.cons (by simp only [List.getElem?_toArray, List.getElem?_cons_succ, List.getElem?_cons_zero]; rfl) (fun K hK => ?_) AllReadyH.nil))
    · skip
      go_simp
      refine (toEdit_agg e1 _).mono ?_
      rintro e vb_1 ⟨rfl, hb⟩
      have HBb_1 : Hid (Below w_5.heap.size w_5 vb_1) := Lib.hid (HBdb.out.trans (hb.mono HBdb.out.size))
      clear hb
      go_wp2_with fail
      refine hK.out _ _ ⟨cell_stay CXb_22.out.1 HBb_1.out, cell_stay CXb_22.out.2.1 HBb_1.out, cell_stay CXb_p1.out.1 HBb_1.out, cell_stay CXb_p1.out.2.1 HBb_1.out⟩ (fun hHeld => ?_)
      clear hK K
      try simp only [Act.put, List.setIfInBounds_toArray, List.set_cons_zero, List.set_cons_succ]
      refine wpAnyH_ready (rs := [3, 4]) (by kernel_rfl) (by simp) (AllReadyH.cons (by simp only [List.getElem?_toArray, List.getElem?_cons_succ, List.getElem?_cons_zero]; rfl) (fun K hK => ?_) (AllReadyH.cons (by simp only [List.getElem?_toArray, List.getElem?_cons_succ, List.getElem?_cons_zero]; rfl) (fun K hK => ?_) AllReadyH.nil))
      · skip
        go_simp
        refine (editHello_any (e := e1) (HO22.out.hel.same HBb_1.out) HF1.out.1 hp1 hp2 hp3).mono ?_
        rintro e vb_2 ⟨v23, rfl, ho, hb⟩
        have HBb_2 : Hid (Below w_5.heap.size w_5 vb_2) := Lib.hid (HBb_1.out.trans (hb.mono HBb_1.out.size))
        obtain ⟨a23, n23, c23, b23, m23, d23, rfl⟩ := ho.shape
        have HoFb : Hid (OwnHel vb_2.heap.size vb_2 w_5.heap.size (.agg #[.slice a23 n23 c23, .slice b23 m23 d23]) (edH x0 e1)) := Lib.hid (ho.lower HBb_1.out.size)
        clear ho hb
        go_wp2_with fail
        refine hK.out _ _ ⟨cell_stay CXb_22.out.1 HBb_2.out, cell_stay CXb_22.out.2.1 HBb_2.out, cell_stay CXb_p1.out.1 HBb_2.out, cell_stay CXb_p1.out.2.1 HBb_2.out⟩ (fun hHeld => ?_)
        clear hK K
        try simp only [Act.put, List.setIfInBounds_toArray, List.set_cons_zero, List.set_cons_succ]
        refine wpAnyH_ready (rs := [4]) (by kernel_rfl) (by simp) (AllReadyH.cons (by simp only [List.getElem?_toArray, List.getElem?_cons_succ, List.getElem?_cons_zero]; rfl) (fun K hK => ?_) AllReadyH.nil)
        have HBb_3 : Hid (Below w_5.heap.size w_5 (World.alloc vb_2 (.cells #[.slice none 0 0, .slice none 0 0] 31))) := Lib.hid (HBb_2.out.trans ((alloc_same vb_2 (.cells #[.slice none 0 0, .slice none 0 0] 31)).mono HBb_2.out.size))
        go_simp
        refine hK.out _ _ ⟨cell_stay CXb_22.out.1 HBb_3.out, cell_stay CXb_22.out.2.1 HBb_3.out, cell_stay CXb_p1.out.1 HBb_3.out, cell_stay CXb_p1.out.2.1 HBb_3.out⟩ (fun hHeld => ?_)
        clear hK K
        try simp only [Act.put, List.setIfInBounds_toArray, List.set_cons_zero, List.set_cons_succ]
        refine wpAnyH_ready (rs := [5]) (by kernel_rfl) (by simp) (AllReadyH.cons (by simp only [List.getElem?_toArray, List.getElem?_cons_succ, List.getElem?_cons_zero]; rfl) (fun K hK => ?_) AllReadyH.nil)
        have HRb := Lib.hid (chH_alloc (L := edH x0 e1) HBb_2.out HoFb.out)
        have HBb_4 : Hid (Below w_5.heap.size w_5 (World.alloc vb_2 (.cells #[.slice a23 n23 c23, .slice b23 m23 d23] 31))) := Lib.hid HRb.out.1
        go_simp
        refine hK.out _ _ ⟨cell_stay CXb_22.out.1 HBb_4.out, cell_stay CXb_22.out.2.1 HBb_4.out, cell_stay CXb_p1.out.1 HBb_4.out, cell_stay CXb_p1.out.2.1 HBb_4.out⟩ (fun hHeld => ?_)
        clear hK K
        try simp only [Act.put, List.setIfInBounds_toArray, List.set_cons_zero, List.set_cons_succ]
        refine wpAnyH_done (by kernel_rfl) ?_ _
        have HR := HRb
        have hfin : ChH w_5 (edH x0 e1) vb_2.heap.size (.agg #[.slice a23 n23 c23, .slice b23 m23 d23]) _ := HR.out
        generalize vb_2.heap.size = g at hfin ⊢
        generalize (Value.agg #[.slice a23 n23 c23, .slice b23 m23 d23]) = v at hfin ⊢
        obtain ⟨u1, -⟩ : ∃ u : Value, u = undef := ⟨_, rfl⟩
        obtain ⟨u2, -⟩ : ∃ u : Value, u = undef := ⟨_, rfl⟩
        obtain ⟨u3, -⟩ : ∃ u : Value, u = undef := ⟨_, rfl⟩
        obtain ⟨u4, -⟩ : ∃ u : Value, u = undef := ⟨_, rfl⟩
        exact ⟨g, v, u1, u2, u3, u4, rfl, hfin⟩
      · skip
        have HBb_2 : Hid (Below w_5.heap.size w_5 (World.alloc vb_1 (.cells #[.slice none 0 0, .slice none 0 0] 31))) := Lib.hid (HBb_1.out.trans ((alloc_same vb_1 (.cells #[.slice none 0 0, .slice none 0 0] 31)).mono HBb_1.out.size))
        have HZb : Hid ((World.alloc vb_1 (.cells #[.slice none 0 0, .slice none 0 0] 31)).heap[vb_1.heap.size]? = some (.cells #[.slice none 0 0, .slice none 0 0] 31 (0, 0))) := Lib.hid (heap_alloc_new vb_1 _)
        have HgZb : Hid (vb_1.heap.size < (World.alloc vb_1 (.cells #[.slice none 0 0, .slice none 0 0] 31)).heap.size) := Lib.hid (by simp)
        go_simp
        refine hK.out _ _ ⟨cell_stay CXb_22.out.1 HBb_2.out, cell_stay CXb_22.out.2.1 HBb_2.out, cell_stay CXb_p1.out.1 HBb_2.out, cell_stay CXb_p1.out.2.1 HBb_2.out⟩ (fun hHeld => ?_)
        clear hK K
        try simp only [Act.put, List.setIfInBounds_toArray, List.set_cons_zero, List.set_cons_succ]
        refine wpAnyH_ready (rs := [3]) (by kernel_rfl) (by simp) (AllReadyH.cons (by simp only [List.getElem?_toArray, List.getElem?_cons_succ, List.getElem?_cons_zero]; rfl) (fun K hK => ?_) AllReadyH.nil)
        go_simp
        have HgLb := HgZb
        refine (editHello_any (e := e1) (HO22.out.hel.same HBb_2.out) HF1.out.1 hp1 hp2 hp3).mono ?_
        rintro e vb_3 ⟨v23, rfl, ho, hb⟩
        have HBb_3 : Hid (Below w_5.heap.size w_5 vb_3) := Lib.hid (HBb_2.out.trans (hb.mono HBb_2.out.size))
        obtain ⟨a23, n23, c23, b23, m23, d23, rfl⟩ := ho.shape
        have HwVb := Lib.hid hb.size
        have HgPb : Hid (w_5.heap.size ≤ vb_1.heap.size) := Lib.hid (HBb_1.out.size)
        replace HZb := Lib.hid ((hb.block _ HgZb.out).trans HZb.out)
        have HoFb := Lib.hid ho
        clear ho hb
        go_wp2_with fail
        refine hK.out _ _ ⟨cell_stay CXb_22.out.1 HBb_3.out, cell_stay CXb_22.out.2.1 HBb_3.out, cell_stay CXb_p1.out.1 HBb_3.out, cell_stay CXb_p1.out.2.1 HBb_3.out⟩ (fun hHeld => ?_)
        clear hK K
        try simp only [Act.put, List.setIfInBounds_toArray, List.set_cons_zero, List.set_cons_succ]
        refine wpAnyH_ready (rs := [5]) (by kernel_rfl) (by simp) (AllReadyH.cons (by simp only [List.getElem?_toArray, List.getElem?_cons_succ, List.getElem?_cons_zero]; rfl) (fun K hK => ?_) AllReadyH.nil)
        have HRb := Lib.hid (chH_store (pw := w_5) (w := (World.alloc vb_1 (.cells #[.slice none 0 0, .slice none 0 0] 31))) (L := edH x0 e1) HBb_3.out HgPb.out HZb.out HgLb.out HwVb.out HoFb.out)
        have HBb_4 : Hid (Below w_5.heap.size w_5 ((vb_3.setCell ⟨vb_1.heap.size, 0, none⟩ (.slice a23 n23 c23)).setCell ⟨vb_1.heap.size, 1, none⟩ (.slice b23 m23 d23))) := Lib.hid HRb.out.1
        obtain ⟨m0, m1, q0, q1⟩ := two_cells HZb.out
        obtain ⟨y0, y1, -⟩ := two_put HZb.out (.slice a23 n23 c23) (.slice b23 m23 d23)
        go_simp
        refine hK.out _ _ ⟨cell_stay CXb_22.out.1 HBb_4.out, cell_stay CXb_22.out.2.1 HBb_4.out, cell_stay CXb_p1.out.1 HBb_4.out, cell_stay CXb_p1.out.2.1 HBb_4.out⟩ (fun hHeld => ?_)
        clear hK K
        try simp only [Act.put, List.setIfInBounds_toArray, List.set_cons_zero, List.set_cons_succ]
        refine wpAnyH_done (by kernel_rfl) ?_ _
        have HR := HRb
        have hfin : ChH w_5 (edH x0 e1) vb_1.heap.size (.agg #[.slice a23 n23 c23, .slice b23 m23 d23]) _ := HR.out
        generalize vb_1.heap.size = g at hfin ⊢
        generalize (Value.agg #[.slice a23 n23 c23, .slice b23 m23 d23]) = v at hfin ⊢
        obtain ⟨u1, -⟩ : ∃ u : Value, u = undef := ⟨_, rfl⟩
        obtain ⟨u2, -⟩ : ∃ u : Value, u = undef := ⟨_, rfl⟩
        obtain ⟨u3, -⟩ : ∃ u : Value, u = undef := ⟨_, rfl⟩
        obtain ⟨u4, -⟩ : ∃ u : Value, u = undef := ⟨_, rfl⟩
        exact ⟨g, v, u1, u2, u3, u4, rfl, hfin⟩
    · skip
      have HBb_1 : Hid (Below w_5.heap.size w_5 (World.alloc w_5 (.cells #[.slice none 0 0, .slice none 0 0] 31)).drew) := Lib.hid (alloc_same w_5 (.cells #[.slice none 0 0, .slice none 0 0] 31)).drew
      have HZb : Hid ((World.alloc w_5 (.cells #[.slice none 0 0, .slice none 0 0] 31)).drew.heap[w_5.heap.size]? = some (.cells #[.slice none 0 0, .slice none 0 0] 31 (0, 0))) := Lib.hid (heap_alloc_new w_5 _)
      have HgZb : Hid (w_5.heap.size < (World.alloc w_5 (.cells #[.slice none 0 0, .slice none 0 0] 31)).drew.heap.size) := Lib.hid (by simp)
      go_simp
      refine hK.out _ _ ⟨cell_stay CXb_22.out.1 HBb_1.out, cell_stay CXb_22.out.2.1 HBb_1.out, cell_stay CXb_p1.out.1 HBb_1.out, cell_stay CXb_p1.out.2.1 HBb_1.out⟩ (fun hHeld => ?_)
      clear hK K
      try simp only [Act.put, List.setIfInBounds_toArray, List.set_cons_zero, List.set_cons_succ]
      refine wpAnyH_ready (rs := [2]) (by kernel_rfl) (by simp) (AllReadyH.cons (by simp only [List.getElem?_toArray, List.getElem?_cons_succ, List.getElem?_cons_zero]; rfl) (fun K hK => ?_) AllReadyH.nil)
      go_simp
      refine (toEdit_agg e1 _).mono ?_
      rintro e vb_2 ⟨rfl, hb⟩
      have HBb_2 : Hid (Below w_5.heap.size w_5 vb_2) := Lib.hid (HBb_1.out.trans (hb.mono HBb_1.out.size))
      replace HZb := Lib.hid ((hb.block _ (by have := HgZb.out; omega)).trans HZb.out)
      replace HgZb := Lib.hid (Nat.lt_of_lt_of_le HgZb.out hb.size)
      clear hb
      go_wp2_with fail
      refine hK.out _ _ ⟨cell_stay CXb_22.out.1 HBb_2.out, cell_stay CXb_22.out.2.1 HBb_2.out, cell_stay CXb_p1.out.1 HBb_2.out, cell_stay CXb_p1.out.2.1 HBb_2.out⟩ (fun hHeld => ?_)
      clear hK K
      try simp only [Act.put, List.setIfInBounds_toArray, List.set_cons_zero, List.set_cons_succ]
      refine wpAnyH_ready (rs := [3]) (by kernel_rfl) (by simp) (AllReadyH.cons (by simp only [List.getElem?_toArray, List.getElem?_cons_succ, List.getElem?_cons_zero]; rfl) (fun K hK => ?_) AllReadyH.nil)
      go_simp
      have HgLb := HgZb
      refine (editHello_any (e := e1) (HO22.out.hel.same HBb_2.out) HF1.out.1 hp1 hp2 hp3).mono ?_
      rintro e vb_3 ⟨v23, rfl, ho, hb⟩
      have HBb_3 : Hid (Below w_5.heap.size w_5 vb_3) := Lib.hid (HBb_2.out.trans (hb.mono HBb_2.out.size))
      obtain ⟨a23, n23, c23, b23, m23, d23, rfl⟩ := ho.shape
      have HwVb := Lib.hid hb.size
      have HgPb : Hid (w_5.heap.size ≤ w_5.heap.size) := Lib.hid (Nat.le_refl _)
      replace HZb := Lib.hid ((hb.block _ HgZb.out).trans HZb.out)
      have HoFb := Lib.hid ho
      clear ho hb
      go_wp2_with fail
      refine hK.out _ _ ⟨cell_stay CXb_22.out.1 HBb_3.out, cell_stay CXb_22.out.2.1 HBb_3.out, cell_stay CXb_p1.out.1 HBb_3.out, cell_stay CXb_p1.out.2.1 HBb_3.out⟩ (fun hHeld => ?_)
      clear hK K
      try simp only [Act.put, List.setIfInBounds_toArray, List.set_cons_zero, List.set_cons_succ]
      refine wpAnyH_ready (rs := [5]) (by kernel_rfl) (by simp) (AllReadyH.cons (by simp only [List.getElem?_toArray, List.getElem?_cons_succ, List.getElem?_cons_zero]; rfl) (fun K hK => ?_) AllReadyH.nil)
      have HRb := Lib.hid (chH_store (pw := w_5) (w := vb_2) (L := edH x0 e1) HBb_3.out HgPb.out HZb.out HgLb.out HwVb.out HoFb.out)
      have HBb_4 : Hid (Below w_5.heap.size w_5 ((vb_3.setCell ⟨w_5.heap.size, 0, none⟩ (.slice a23 n23 c23)).setCell ⟨w_5.heap.size, 1, none⟩ (.slice b23 m23 d23))) := Lib.hid HRb.out.1
      obtain ⟨m0, m1, q0, q1⟩ := two_cells HZb.out
      obtain ⟨y0, y1, -⟩ := two_put HZb.out (.slice a23 n23 c23) (.slice b23 m23 d23)
      go_simp
      refine hK.out _ _ ⟨cell_stay CXb_22.out.1 HBb_4.out, cell_stay CXb_22.out.2.1 HBb_4.out, cell_stay CXb_p1.out.1 HBb_4.out, cell_stay CXb_p1.out.2.1 HBb_4.out⟩ (fun hHeld => ?_)
      clear hK K
      try simp only [Act.put, List.setIfInBounds_toArray, List.set_cons_zero, List.set_cons_succ]
      refine wpAnyH_done (by kernel_rfl) ?_ _
      have HR := HRb
      have hfin : ChH w_5 (edH x0 e1) w_5.heap.size (.agg #[.slice a23 n23 c23, .slice b23 m23 d23]) _ := HR.out
      generalize w_5.heap.size = g at hfin ⊢
      generalize (Value.agg #[.slice a23 n23 c23, .slice b23 m23 d23]) = v at hfin ⊢
      obtain ⟨u1, -⟩ : ∃ u : Value, u = undef := ⟨_, rfl⟩
      obtain ⟨u2, -⟩ : ∃ u : Value, u = undef := ⟨_, rfl⟩
      obtain ⟨u3, -⟩ : ∃ u : Value, u = undef := ⟨_, rfl⟩
      obtain ⟨u4, -⟩ : ∃ u : Value, u = undef := ⟨_, rfl⟩
      exact ⟨g, v, u1, u2, u3, u4, rfl, hfin⟩
  intro gb vb u1b u2b u3b u4b Wb hR
  obtain ⟨w_6, hwv⟩ : ∃ u, u = Wb := ⟨_, rfl⟩
  subst hwv
  obtain ⟨hb, hgp, a23, n23, c23, b23, m23, d23, lob, Sb, rfl, hbox, ho, hlo, hS, hgd⟩ := hR
  have HO23 := Lib.hid ho
  have HXN := Lib.hid hbox
  clear ho hbox CXb_22 CXb_p1 HBdb
  have hs6 : w_5.heap.size ≤ w_6.heap.size := hb.size
  replace HO21 := Lib.hid (HO21.out.same hb)
  replace HO22 := Lib.hid (HO22.out.same hb)
  replace HXp0 := Lib.hid (((hb).block _ (by omega)).trans HXp0.out)
  replace HXp1 := Lib.hid (((hb).block _ (by omega)).trans HXp1.out)
  replace HX21 := Lib.hid (((hb).block _ (by omega)).trans HX21.out)
  replace HX22 := Lib.hid (((hb).block _ (by omega)).trans HX22.out)
  replace HB := Lib.hid (HB.out.trans (hb.mono HB.out.size))
  clear hb
  have HX23 := HXN
  clear HXN
  obtain ⟨eap0, ebp0, -⟩ := two_cells HXp0.out
  obtain ⟨eap1, ebp1, -⟩ := two_cells HXp1.out
  obtain ⟨ea21, eb21, -⟩ := two_cells HX21.out
  obtain ⟨ea22, eb22, -⟩ := two_cells HX22.out
  obtain ⟨ea23, eb23, -⟩ := two_cells HX23.out
  go_wp2_with fail
  clear eap0 ebp0 eap1 ebp1 ea21 eb21 ea22 eb22 ea23 eb23
  refine (eqHello_yes HO23.out.hel HO21.out.hel).mono ?_
  rintro e w_7 ⟨rfl, hb⟩
  have hs7 : w_6.heap.size ≤ w_7.heap.size := hb.size
  replace HO21 := Lib.hid (HO21.out.same hb)
  replace HO22 := Lib.hid (HO22.out.same hb)
  replace HO23 := Lib.hid (HO23.out.same hb)
  replace HXp0 := Lib.hid (((hb).block _ (by omega)).trans HXp0.out)
  replace HXp1 := Lib.hid (((hb).block _ (by omega)).trans HXp1.out)
  replace HX21 := Lib.hid (((hb).block _ (by omega)).trans HX21.out)
  replace HX22 := Lib.hid (((hb).block _ (by omega)).trans HX22.out)
  replace HX23 := Lib.hid (((hb).block _ (by omega)).trans HX23.out)
  replace HB := Lib.hid (HB.out.trans (hb.mono HB.out.size))
  clear hb
  obtain ⟨eap0, ebp0, -⟩ := two_cells HXp0.out
  obtain ⟨eap1, ebp1, -⟩ := two_cells HXp1.out
  obtain ⟨ea21, eb21, -⟩ := two_cells HX21.out
  obtain ⟨ea22, eb22, -⟩ := two_cells HX22.out
  obtain ⟨ea23, eb23, -⟩ := two_cells HX23.out
  go_wp2_with fail
  clear eap0 ebp0 eap1 ebp1 ea21 eb21 ea22 eb22 ea23 eb23
  have CX22 := Lib.hid (two_cells HX22.out)
  have CXp0 := Lib.hid (two_cells HXp0.out)
  have HBd : Hid (Below w_7.heap.size w_7 w_7.drew) := Lib.hid (Below.refl _ _).drew
  refine wp_region_held_drew (S := fun w9 => w9.cell? ⟨w_4.heap.size, 0, none⟩ = some (.slice a22 n22 c22) ∧ w9.cell? ⟨w_4.heap.size, 1, none⟩ = some (.slice b22 m22 d22) ∧ w9.cell? ⟨w.heap.size, 0, none⟩ = some (.slice a90 n90 c90) ∧ w9.cell? ⟨w.heap.size, 1, none⟩ = some (.slice b90 m90 d90)) (by kernel_rfl) ⟨cell_stay CX22.out.1 HBd.out, cell_stay CX22.out.2.1 HBd.out, cell_stay CXp0.out.1 HBd.out, cell_stay CXp0.out.2.1 HBd.out⟩ (fun hHeld => ?_)
  refine wpAnyH_take (i := 0) (v := ?v2001) (by simp only [List.getElem?_toArray, List.getElem?_cons_succ, List.getElem?_cons_zero]; rfl) (by kernel_rfl) (by kernel_rfl) (by kernel_rfl) (by exact fun _ _ _ h => h) (Or.inl ⟨by rfl, fun w9 hS9 => ?hy2001⟩) hHeld ?rest2001
  case hy2001 =>
    dsimp only at hS9
    obtain ⟨z0, z1, z2, z3⟩ := hS9
    go_simp
    try with_reducible rfl
  try simp only [Act.put, List.setIfInBounds_toArray, List.set_cons_zero, List.set_cons_succ]
  refine wpAnyH_take (i := 1) (v := ?v2002) (by simp only [List.getElem?_toArray, List.getElem?_cons_succ, List.getElem?_cons_zero]; rfl) (by kernel_rfl) (by kernel_rfl) (by kernel_rfl) (by exact fun _ _ _ h => h) (Or.inl ⟨by rfl, fun w9 hS9 => ?hy2002⟩) hHeld ?rest2002
  case hy2002 =>
    dsimp only at hS9
    obtain ⟨z0, z1, z2, z3⟩ := hS9
    go_simp
    try with_reducible rfl
  try simp only [Act.put, List.setIfInBounds_toArray, List.set_cons_zero, List.set_cons_succ]
  refine wpAnyH_ready (rs := [2]) (by kernel_rfl) (by simp) (AllReadyH.cons (by simp only [List.getElem?_toArray, List.getElem?_cons_succ, List.getElem?_cons_zero]; rfl) (fun K hK => ?_) AllReadyH.nil)
  go_simp
  refine (toHello_any (HK0.out.same (HB.out.trans (HBd.out.mono HB.out.size))) (by omega)).mono ?_
  rintro e w1 ⟨b9, rfl, ho1, hb1⟩
  have HB1 : Hid (Below w_7.heap.size w_7 w1) := Lib.hid (HBd.out.trans (hb1.mono HBd.out.size))
  have HO9 := Lib.hid ho1.hel
  clear ho1
  clear hb1
  go_wp2_with fail
  refine hK.out _ _ ⟨cell_stay CX22.out.1 HB1.out, cell_stay CX22.out.2.1 HB1.out, cell_stay CXp0.out.1 HB1.out, cell_stay CXp0.out.2.1 HB1.out⟩ (fun hHeld => ?_)
  clear hK K
  try simp only [Act.put, List.setIfInBounds_toArray, List.set_cons_zero, List.set_cons_succ]
  refine wpAnyH_ready (rs := [3]) (by kernel_rfl) (by simp) (AllReadyH.cons (by simp only [List.getElem?_toArray, List.getElem?_cons_succ, List.getElem?_cons_zero]; rfl) (fun K hK => ?_) AllReadyH.nil)
  go_simp
  refine (eqHello_yes (HO22.out.hel.same HB1.out) HO9.out).mono ?_
  rintro e w2 ⟨rfl, hb2⟩
  have HB2 : Hid (Below w_7.heap.size w_7 w2) := Lib.hid (HB1.out.trans (hb2.mono HB1.out.size))
  clear hb2
  go_wp2_with fail
  refine hK.out _ _ ⟨cell_stay CX22.out.1 HB2.out, cell_stay CX22.out.2.1 HB2.out, cell_stay CXp0.out.1 HB2.out, cell_stay CXp0.out.2.1 HB2.out⟩ (fun hHeld => ?_)
  clear hK K
  try simp only [Act.put, List.setIfInBounds_toArray, List.set_cons_zero, List.set_cons_succ]
  refine wpAnyH_take (i := 4) (v := ?v2003) (by simp only [List.getElem?_toArray, List.getElem?_cons_succ, List.getElem?_cons_zero]; rfl) (by kernel_rfl) (by kernel_rfl) (by kernel_rfl) (by exact fun _ _ _ h => h) (Or.inl ⟨by rfl, fun w9 hS9 => ?hy2003⟩) hHeld ?rest2003
  case hy2003 =>
    dsimp only at hS9
    obtain ⟨z0, z1, z2, z3⟩ := hS9
    go_simp
    try with_reducible rfl
  try simp only [Act.put, List.setIfInBounds_toArray, List.set_cons_zero, List.set_cons_succ]
  refine wpAnyH_done (by kernel_rfl) ?_ _
  obtain ⟨w_8, hwv⟩ : ∃ u, u = w2 := ⟨w2, rfl⟩
  subst hwv
  have hs8 : w_7.heap.size ≤ w_8.heap.size := HB2.out.size
  replace HO21 := Lib.hid (HO21.out.same HB2.out)
  replace HO22 := Lib.hid (HO22.out.same HB2.out)
  replace HO23 := Lib.hid (HO23.out.same HB2.out)
  replace HXp0 := Lib.hid (((HB2.out).block _ (by omega)).trans HXp0.out)
  replace HXp1 := Lib.hid (((HB2.out).block _ (by omega)).trans HXp1.out)
  replace HX21 := Lib.hid (((HB2.out).block _ (by omega)).trans HX21.out)
  replace HX22 := Lib.hid (((HB2.out).block _ (by omega)).trans HX22.out)
  replace HX23 := Lib.hid (((HB2.out).block _ (by omega)).trans HX23.out)
  replace HB := Lib.hid (HB.out.trans (HB2.out.mono HB.out.size))
  clear CX22 CXp0
  obtain ⟨eap0, ebp0, -⟩ := two_cells HXp0.out
  obtain ⟨eap1, ebp1, -⟩ := two_cells HXp1.out
  obtain ⟨ea21, eb21, -⟩ := two_cells HX21.out
  obtain ⟨ea22, eb22, -⟩ := two_cells HX22.out
  obtain ⟨ea23, eb23, -⟩ := two_cells HX23.out
  go_wp2_with fail
  clear eap0 ebp0 eap1 ebp1 ea21 eb21 ea22 eb22 ea23 eb23
  refine (markHello_any (k := 1) HO22.out (by omega) (by omega)).mono ?_
  rintro e w_9 ⟨rfl, ho, hg⟩
  have hs9 : w_8.heap.size ≤ w_9.heap.size := hg.size
  replace HO21 := Lib.hid (HO21.out.aside hg (by omega))
  replace HO23 := Lib.hid (HO23.out.aside hg (by omega))
  replace HXp0 := Lib.hid ((hg.block _ (by omega) (by omega)).trans HXp0.out)
  replace HXp1 := Lib.hid ((hg.block _ (by omega) (by omega)).trans HXp1.out)
  replace HX21 := Lib.hid ((hg.block _ (by omega) (by omega)).trans HX21.out)
  replace HX22 := Lib.hid ((hg.block _ (by omega) (by omega)).trans HX22.out)
  replace HX23 := Lib.hid ((hg.block _ (by omega) (by omega)).trans HX23.out)
  replace HO22 := Lib.hid ho
  replace HB := Lib.hid (hg.to HB.out (by omega) HB.out.size)
  clear ho hg
  obtain ⟨eap0, ebp0, -⟩ := two_cells HXp0.out
  obtain ⟨eap1, ebp1, -⟩ := two_cells HXp1.out
  obtain ⟨ea21, eb21, -⟩ := two_cells HX21.out
  obtain ⟨ea22, eb22, -⟩ := two_cells HX22.out
  obtain ⟨ea23, eb23, -⟩ := two_cells HX23.out
  go_wp2_with fail
  clear eap0 ebp0 eap1 ebp1 ea21 eb21 ea22 eb22 ea23 eb23
  refine (eqHello_yes HO23.out.hel HO21.out.hel).mono ?_
  rintro e w_10 ⟨rfl, hb⟩
  have hs10 : w_9.heap.size ≤ w_10.heap.size := hb.size
  replace HO21 := Lib.hid (HO21.out.same hb)
  replace HO22 := Lib.hid (HO22.out.same hb)
  replace HO23 := Lib.hid (HO23.out.same hb)
  replace HXp0 := Lib.hid (((hb).block _ (by omega)).trans HXp0.out)
  replace HXp1 := Lib.hid (((hb).block _ (by omega)).trans HXp1.out)
  replace HX21 := Lib.hid (((hb).block _ (by omega)).trans HX21.out)
  replace HX22 := Lib.hid (((hb).block _ (by omega)).trans HX22.out)
  replace HX23 := Lib.hid (((hb).block _ (by omega)).trans HX23.out)
  replace HB := Lib.hid (HB.out.trans (hb.mono HB.out.size))
  clear hb
  obtain ⟨eap0, ebp0, -⟩ := two_cells HXp0.out
  obtain ⟨eap1, ebp1, -⟩ := two_cells HXp1.out
  obtain ⟨ea21, eb21, -⟩ := two_cells HX21.out
  obtain ⟨ea22, eb22, -⟩ := two_cells HX22.out
  obtain ⟨ea23, eb23, -⟩ := two_cells HX23.out
  go_wp2_with fail
  clear eap0 ebp0 eap1 ebp1 ea21 eb21 ea22 eb22 ea23 eb23
  refine (markHello_any (k := 1) HO23.out (by omega) (by omega)).mono ?_
  rintro e w_11 ⟨rfl, ho, hg⟩
  have hs11 : w_10.heap.size ≤ w_11.heap.size := hg.size
  replace HO21 := Lib.hid (HO21.out.aside hg (by omega))
  replace HO22 := Lib.hid (HO22.out.aside hg (by omega))
  replace HXp0 := Lib.hid ((hg.block _ (by omega) (by omega)).trans HXp0.out)
  replace HXp1 := Lib.hid ((hg.block _ (by omega) (by omega)).trans HXp1.out)
  replace HX21 := Lib.hid ((hg.block _ (by omega) (by omega)).trans HX21.out)
  replace HX22 := Lib.hid ((hg.block _ (by omega) (by omega)).trans HX22.out)
  replace HX23 := Lib.hid ((hg.block _ (by omega) (by omega)).trans HX23.out)
  replace HO23 := Lib.hid ho
  replace HB := Lib.hid (hg.to HB.out (by omega) HB.out.size)
  clear ho hg
  obtain ⟨eap0, ebp0, -⟩ := two_cells HXp0.out
  obtain ⟨eap1, ebp1, -⟩ := two_cells HXp1.out
  obtain ⟨ea21, eb21, -⟩ := two_cells HX21.out
  obtain ⟨ea22, eb22, -⟩ := two_cells HX22.out
  obtain ⟨ea23, eb23, -⟩ := two_cells HX23.out
  go_wp2_with fail
  clear eap0 ebp0 eap1 ebp1 ea21 eb21 ea22 eb22 ea23 eb23
  refine (heldHello_any (k := 1) (x := (edH x0 e1)) HO23.out.hel (by omega) (by omega)).mono ?_
  rintro e w_12 ⟨rfl, hb⟩
  have hs12 : w_11.heap.size ≤ w_12.heap.size := hb.size
  replace HO21 := Lib.hid (HO21.out.same hb)
  replace HO22 := Lib.hid (HO22.out.same hb)
  replace HO23 := Lib.hid (HO23.out.same hb)
  replace HXp0 := Lib.hid (((hb).block _ (by omega)).trans HXp0.out)
  replace HXp1 := Lib.hid (((hb).block _ (by omega)).trans HXp1.out)
  replace HX21 := Lib.hid (((hb).block _ (by omega)).trans HX21.out)
  replace HX22 := Lib.hid (((hb).block _ (by omega)).trans HX22.out)
  replace HX23 := Lib.hid (((hb).block _ (by omega)).trans HX23.out)
  replace HB := Lib.hid (HB.out.trans (hb.mono HB.out.size))
  clear hb
  obtain ⟨eap0, ebp0, -⟩ := two_cells HXp0.out
  obtain ⟨eap1, ebp1, -⟩ := two_cells HXp1.out
  obtain ⟨ea21, eb21, -⟩ := two_cells HX21.out
  obtain ⟨ea22, eb22, -⟩ := two_cells HX22.out
  obtain ⟨ea23, eb23, -⟩ := two_cells HX23.out
  go_wp2_with fail
  clear eap0 ebp0 eap1 ebp1 ea21 eb21 ea22 eb22 ea23 eb23
  have CXc_p0 := Lib.hid (two_cells HXp0.out)
  have CXc_p1 := Lib.hid (two_cells HXp1.out)
  have HBdc : Hid (Below w_12.heap.size w_12 w_12.drew) := Lib.hid (Below.refl _ _).drew
  apply cut_v (ChH w_12 (edH x0 e1))
  case h =>
    refine wp_region_held_drew (S := fun w9 => w9.cell? ⟨w.heap.size, 0, none⟩ = some (.slice a90 n90 c90) ∧ w9.cell? ⟨w.heap.size, 1, none⟩ = some (.slice b90 m90 d90) ∧ w9.cell? ⟨w.heap.size + 1, 0, none⟩ = some (.int .i64 e1.kind) ∧ w9.cell? ⟨w.heap.size + 1, 1, none⟩ = some (.int .i64 e1.n)) (by kernel_rfl) ⟨cell_stay CXc_p0.out.1 HBdc.out, cell_stay CXc_p0.out.2.1 HBdc.out, cell_stay CXc_p1.out.1 HBdc.out, cell_stay CXc_p1.out.2.1 HBdc.out⟩ (fun hHeld => ?_)
    refine wpAnyH_take (i := 0) (v := ?v5) (by simp only [List.getElem?_toArray, List.getElem?_cons_succ, List.getElem?_cons_zero]; rfl) (by kernel_rfl) (by kernel_rfl) (by kernel_rfl) (by exact fun _ _ _ h => h) (Or.inl ⟨by rfl, fun w9 hS9 => ?hy5⟩) hHeld ?rest5
    case hy5 =>
      dsimp only at hS9
      obtain ⟨z0, z1, z2, z3⟩ := hS9
      go_simp
      try with_reducible rfl
    try simp only [Act.put, List.setIfInBounds_toArray, List.set_cons_zero, List.set_cons_succ]
    refine wpAnyH_take (i := 2) (v := ?v6) (by simp only [List.getElem?_toArray, List.getElem?_cons_succ, List.getElem?_cons_zero]; rfl) (by kernel_rfl) (by kernel_rfl) (by kernel_rfl) (by exact fun _ _ _ h => h) (Or.inl ⟨by rfl, fun w9 hS9 => ?hy6⟩) hHeld ?rest6
    case hy6 =>
      dsimp only at hS9
      obtain ⟨z0, z1, z2, z3⟩ := hS9
      go_simp
      try with_reducible rfl
    try simp only [Act.put, List.setIfInBounds_toArray, List.set_cons_zero, List.set_cons_succ]
    refine wpAnyH_ready (rs := [1, 5]) (by kernel_rfl) (by simp) (AllReadyH.cons (by simp only [List.getElem?_toArray, List.getElem?_cons_succ, List.getElem?_cons_zero]; rfl) (fun K hK => ?_) (AllReadyH.cons (by simp only [List.getElem?_toArray, List.getElem?_cons_succ, List.getElem?_cons_zero]; rfl) (fun K hK => ?_) AllReadyH.nil))
    · skip
      go_simp
      refine (toHello_any (HK0.out.same (HB.out.trans (HBdc.out.mono HB.out.size))) (by omega)).mono ?_
      rintro e vc_1 ⟨tc_0, rfl, ho, hb⟩
      have HBc_1 : Hid (Below w_12.heap.size w_12 vc_1) := Lib.hid (HBdc.out.trans (hb.mono HBdc.out.size))
      have HNc_0 := Lib.hid ho
      clear ho
      clear hb
      go_wp2_with fail
      refine hK.out _ _ ⟨cell_stay CXc_p0.out.1 HBc_1.out, cell_stay CXc_p0.out.2.1 HBc_1.out, cell_stay CXc_p1.out.1 HBc_1.out, cell_stay CXc_p1.out.2.1 HBc_1.out⟩ (fun hHeld => ?_)
      clear hK K
      try simp only [Act.put, List.setIfInBounds_toArray, List.set_cons_zero, List.set_cons_succ]
      refine wpAnyH_ready (rs := [3, 5]) (by kernel_rfl) (by simp) (AllReadyH.cons (by simp only [List.getElem?_toArray, List.getElem?_cons_succ, List.getElem?_cons_zero]; rfl) (fun K hK => ?_) (AllReadyH.cons (by simp only [List.getElem?_toArray, List.getElem?_cons_succ, List.getElem?_cons_zero]; rfl) (fun K hK => ?_) AllReadyH.nil))
      · skip
        go_simp
        refine (toEdit_agg e1 _).mono ?_
        rintro e vc_2 ⟨rfl, hb⟩
        have HBc_2 : Hid (Below w_12.heap.size w_12 vc_2) := Lib.hid (HBc_1.out.trans (hb.mono HBc_1.out.size))
        replace HNc_0 := Lib.hid (HNc_0.out.same hb)
        clear hb
        go_wp2_with fail
        refine hK.out _ _ ⟨cell_stay CXc_p0.out.1 HBc_2.out, cell_stay CXc_p0.out.2.1 HBc_2.out, cell_stay CXc_p1.out.1 HBc_2.out, cell_stay CXc_p1.out.2.1 HBc_2.out⟩ (fun hHeld => ?_)
        clear hK K
        try simp only [Act.put, List.setIfInBounds_toArray, List.set_cons_zero, List.set_cons_succ]
        refine wpAnyH_ready (rs := [4, 5]) (by kernel_rfl) (by simp) (AllReadyH.cons (by simp only [List.getElem?_toArray, List.getElem?_cons_succ, List.getElem?_cons_zero]; rfl) (fun K hK => ?_) (AllReadyH.cons (by simp only [List.getElem?_toArray, List.getElem?_cons_succ, List.getElem?_cons_zero]; rfl) (fun K hK => ?_) AllReadyH.nil))
        · skip
          go_simp
          refine (editHello_any (e := e1) HNc_0.out.hel HF1.out.1 hp1 hp2 hp3).mono ?_
          rintro e vc_3 ⟨v24, rfl, ho, hb⟩
          have HBc_3 : Hid (Below w_12.heap.size w_12 vc_3) := Lib.hid (HBc_2.out.trans (hb.mono HBc_2.out.size))
          obtain ⟨a24, n24, c24, b24, m24, d24, rfl⟩ := ho.shape
          have HoFc : Hid (OwnHel vc_3.heap.size vc_3 w_12.heap.size (.agg #[.slice a24 n24 c24, .slice b24 m24 d24]) (edH x0 e1)) := Lib.hid (ho.lower HBc_2.out.size)
          clear ho hb
          go_wp2_with fail
          refine hK.out _ _ ⟨cell_stay CXc_p0.out.1 HBc_3.out, cell_stay CXc_p0.out.2.1 HBc_3.out, cell_stay CXc_p1.out.1 HBc_3.out, cell_stay CXc_p1.out.2.1 HBc_3.out⟩ (fun hHeld => ?_)
          clear hK K
          try simp only [Act.put, List.setIfInBounds_toArray, List.set_cons_zero, List.set_cons_succ]
          refine wpAnyH_ready (rs := [5]) (by kernel_rfl) (by simp) (AllReadyH.cons (by simp only [List.getElem?_toArray, List.getElem?_cons_succ, List.getElem?_cons_zero]; rfl) (fun K hK => ?_) AllReadyH.nil)
          have HBc_4 : Hid (Below w_12.heap.size w_12 (World.alloc vc_3 (.cells #[.slice none 0 0, .slice none 0 0] 31))) := Lib.hid (HBc_3.out.trans ((alloc_same vc_3 (.cells #[.slice none 0 0, .slice none 0 0] 31)).mono HBc_3.out.size))
          go_simp
          refine hK.out _ _ ⟨cell_stay CXc_p0.out.1 HBc_4.out, cell_stay CXc_p0.out.2.1 HBc_4.out, cell_stay CXc_p1.out.1 HBc_4.out, cell_stay CXc_p1.out.2.1 HBc_4.out⟩ (fun hHeld => ?_)
          clear hK K
          try simp only [Act.put, List.setIfInBounds_toArray, List.set_cons_zero, List.set_cons_succ]
          refine wpAnyH_ready (rs := [6]) (by kernel_rfl) (by simp) (AllReadyH.cons (by simp only [List.getElem?_toArray, List.getElem?_cons_succ, List.getElem?_cons_zero]; rfl) (fun K hK => ?_) AllReadyH.nil)
          have HRc := Lib.hid (chH_alloc (L := edH x0 e1) HBc_3.out HoFc.out)
          have HBc_5 : Hid (Below w_12.heap.size w_12 (World.alloc vc_3 (.cells #[.slice a24 n24 c24, .slice b24 m24 d24] 31))) := Lib.hid HRc.out.1
          go_simp
          refine hK.out _ _ ⟨cell_stay CXc_p0.out.1 HBc_5.out, cell_stay CXc_p0.out.2.1 HBc_5.out, cell_stay CXc_p1.out.1 HBc_5.out, cell_stay CXc_p1.out.2.1 HBc_5.out⟩ (fun hHeld => ?_)
          clear hK K
          try simp only [Act.put, List.setIfInBounds_toArray, List.set_cons_zero, List.set_cons_succ]
          refine wpAnyH_done (by kernel_rfl) ?_ _
          have HR := HRc
          have hfin : ChH w_12 (edH x0 e1) vc_3.heap.size (.agg #[.slice a24 n24 c24, .slice b24 m24 d24]) _ := HR.out
          generalize vc_3.heap.size = g at hfin ⊢
          generalize (Value.agg #[.slice a24 n24 c24, .slice b24 m24 d24]) = v at hfin ⊢
          generalize tc_0 = u1
          obtain ⟨u2, -⟩ : ∃ u : Value, u = undef := ⟨_, rfl⟩
          obtain ⟨u3, -⟩ : ∃ u : Value, u = undef := ⟨_, rfl⟩
          obtain ⟨u4, -⟩ : ∃ u : Value, u = undef := ⟨_, rfl⟩
          exact ⟨g, v, u1, u2, u3, u4, rfl, hfin⟩
        · skip
          have HBc_3 : Hid (Below w_12.heap.size w_12 (World.alloc vc_2 (.cells #[.slice none 0 0, .slice none 0 0] 31))) := Lib.hid (HBc_2.out.trans ((alloc_same vc_2 (.cells #[.slice none 0 0, .slice none 0 0] 31)).mono HBc_2.out.size))
          have HZc : Hid ((World.alloc vc_2 (.cells #[.slice none 0 0, .slice none 0 0] 31)).heap[vc_2.heap.size]? = some (.cells #[.slice none 0 0, .slice none 0 0] 31 (0, 0))) := Lib.hid (heap_alloc_new vc_2 _)
          have HgZc : Hid (vc_2.heap.size < (World.alloc vc_2 (.cells #[.slice none 0 0, .slice none 0 0] 31)).heap.size) := Lib.hid (by simp)
          replace HNc_0 := Lib.hid (HNc_0.out.same (alloc_same vc_2 (.cells #[.slice none 0 0, .slice none 0 0] 31)))
          go_simp
          refine hK.out _ _ ⟨cell_stay CXc_p0.out.1 HBc_3.out, cell_stay CXc_p0.out.2.1 HBc_3.out, cell_stay CXc_p1.out.1 HBc_3.out, cell_stay CXc_p1.out.2.1 HBc_3.out⟩ (fun hHeld => ?_)
          clear hK K
          try simp only [Act.put, List.setIfInBounds_toArray, List.set_cons_zero, List.set_cons_succ]
          refine wpAnyH_ready (rs := [4]) (by kernel_rfl) (by simp) (AllReadyH.cons (by simp only [List.getElem?_toArray, List.getElem?_cons_succ, List.getElem?_cons_zero]; rfl) (fun K hK => ?_) AllReadyH.nil)
          go_simp
          have HgLc := HgZc
          refine (editHello_any (e := e1) HNc_0.out.hel HF1.out.1 hp1 hp2 hp3).mono ?_
          rintro e vc_4 ⟨v24, rfl, ho, hb⟩
          have HBc_4 : Hid (Below w_12.heap.size w_12 vc_4) := Lib.hid (HBc_3.out.trans (hb.mono HBc_3.out.size))
          obtain ⟨a24, n24, c24, b24, m24, d24, rfl⟩ := ho.shape
          have HwVc := Lib.hid hb.size
          have HgPc : Hid (w_12.heap.size ≤ vc_2.heap.size) := Lib.hid (HBc_2.out.size)
          replace HZc := Lib.hid ((hb.block _ HgZc.out).trans HZc.out)
          have HoFc := Lib.hid ho
          clear ho hb
          go_wp2_with fail
          refine hK.out _ _ ⟨cell_stay CXc_p0.out.1 HBc_4.out, cell_stay CXc_p0.out.2.1 HBc_4.out, cell_stay CXc_p1.out.1 HBc_4.out, cell_stay CXc_p1.out.2.1 HBc_4.out⟩ (fun hHeld => ?_)
          clear hK K
          try simp only [Act.put, List.setIfInBounds_toArray, List.set_cons_zero, List.set_cons_succ]
          refine wpAnyH_ready (rs := [6]) (by kernel_rfl) (by simp) (AllReadyH.cons (by simp only [List.getElem?_toArray, List.getElem?_cons_succ, List.getElem?_cons_zero]; rfl) (fun K hK => ?_) AllReadyH.nil)
          have HRc := Lib.hid (chH_store (pw := w_12) (w := (World.alloc vc_2 (.cells #[.slice none 0 0, .slice none 0 0] 31))) (L := edH x0 e1) HBc_4.out HgPc.out HZc.out HgLc.out HwVc.out HoFc.out)
          have HBc_5 : Hid (Below w_12.heap.size w_12 ((vc_4.setCell ⟨vc_2.heap.size, 0, none⟩ (.slice a24 n24 c24)).setCell ⟨vc_2.heap.size, 1, none⟩ (.slice b24 m24 d24))) := Lib.hid HRc.out.1
          obtain ⟨m0, m1, q0, q1⟩ := two_cells HZc.out
          obtain ⟨y0, y1, -⟩ := two_put HZc.out (.slice a24 n24 c24) (.slice b24 m24 d24)
          go_simp
          refine hK.out _ _ ⟨cell_stay CXc_p0.out.1 HBc_5.out, cell_stay CXc_p0.out.2.1 HBc_5.out, cell_stay CXc_p1.out.1 HBc_5.out, cell_stay CXc_p1.out.2.1 HBc_5.out⟩ (fun hHeld => ?_)
          clear hK K
          try simp only [Act.put, List.setIfInBounds_toArray, List.set_cons_zero, List.set_cons_succ]
          refine wpAnyH_done (by kernel_rfl) ?_ _
          have HR := HRc
          have hfin : ChH w_12 (edH x0 e1) vc_2.heap.size (.agg #[.slice a24 n24 c24, .slice b24 m24 d24]) _ := HR.out
          generalize vc_2.heap.size = g at hfin ⊢
          generalize (Value.agg #[.slice a24 n24 c24, .slice b24 m24 d24]) = v at hfin ⊢
          generalize tc_0 = u1
          obtain ⟨u2, -⟩ : ∃ u : Value, u = undef := ⟨_, rfl⟩
          obtain ⟨u3, -⟩ : ∃ u : Value, u = undef := ⟨_, rfl⟩
          obtain ⟨u4, -⟩ : ∃ u : Value, u = undef := ⟨_, rfl⟩
          exact ⟨g, v, u1, u2, u3, u4, rfl, hfin⟩
      · skip
        have HBc_2 : Hid (Below w_12.heap.size w_12 (World.alloc vc_1 (.cells #[.slice none 0 0, .slice none 0 0] 31))) := Lib.hid (HBc_1.out.trans ((alloc_same vc_1 (.cells #[.slice none 0 0, .slice none 0 0] 31)).mono HBc_1.out.size))
        have HZc : Hid ((World.alloc vc_1 (.cells #[.slice none 0 0, .slice none 0 0] 31)).heap[vc_1.heap.size]? = some (.cells #[.slice none 0 0, .slice none 0 0] 31 (0, 0))) := Lib.hid (heap_alloc_new vc_1 _)
        have HgZc : Hid (vc_1.heap.size < (World.alloc vc_1 (.cells #[.slice none 0 0, .slice none 0 0] 31)).heap.size) := Lib.hid (by simp)
        replace HNc_0 := Lib.hid (HNc_0.out.same (alloc_same vc_1 (.cells #[.slice none 0 0, .slice none 0 0] 31)))
        go_simp
        refine hK.out _ _ ⟨cell_stay CXc_p0.out.1 HBc_2.out, cell_stay CXc_p0.out.2.1 HBc_2.out, cell_stay CXc_p1.out.1 HBc_2.out, cell_stay CXc_p1.out.2.1 HBc_2.out⟩ (fun hHeld => ?_)
        clear hK K
        try simp only [Act.put, List.setIfInBounds_toArray, List.set_cons_zero, List.set_cons_succ]
        refine wpAnyH_ready (rs := [3]) (by kernel_rfl) (by simp) (AllReadyH.cons (by simp only [List.getElem?_toArray, List.getElem?_cons_succ, List.getElem?_cons_zero]; rfl) (fun K hK => ?_) AllReadyH.nil)
        go_simp
        refine (toEdit_agg e1 _).mono ?_
        rintro e vc_3 ⟨rfl, hb⟩
        have HBc_3 : Hid (Below w_12.heap.size w_12 vc_3) := Lib.hid (HBc_2.out.trans (hb.mono HBc_2.out.size))
        replace HNc_0 := Lib.hid (HNc_0.out.same hb)
        replace HZc := Lib.hid ((hb.block _ (by have := HgZc.out; omega)).trans HZc.out)
        replace HgZc := Lib.hid (Nat.lt_of_lt_of_le HgZc.out hb.size)
        clear hb
        go_wp2_with fail
        refine hK.out _ _ ⟨cell_stay CXc_p0.out.1 HBc_3.out, cell_stay CXc_p0.out.2.1 HBc_3.out, cell_stay CXc_p1.out.1 HBc_3.out, cell_stay CXc_p1.out.2.1 HBc_3.out⟩ (fun hHeld => ?_)
        clear hK K
        try simp only [Act.put, List.setIfInBounds_toArray, List.set_cons_zero, List.set_cons_succ]
        refine wpAnyH_ready (rs := [4]) (by kernel_rfl) (by simp) (AllReadyH.cons (by simp only [List.getElem?_toArray, List.getElem?_cons_succ, List.getElem?_cons_zero]; rfl) (fun K hK => ?_) AllReadyH.nil)
        go_simp
        have HgLc := HgZc
        refine (editHello_any (e := e1) HNc_0.out.hel HF1.out.1 hp1 hp2 hp3).mono ?_
        rintro e vc_4 ⟨v24, rfl, ho, hb⟩
        have HBc_4 : Hid (Below w_12.heap.size w_12 vc_4) := Lib.hid (HBc_3.out.trans (hb.mono HBc_3.out.size))
        obtain ⟨a24, n24, c24, b24, m24, d24, rfl⟩ := ho.shape
        have HwVc := Lib.hid hb.size
        have HgPc : Hid (w_12.heap.size ≤ vc_1.heap.size) := Lib.hid (HBc_1.out.size)
        replace HZc := Lib.hid ((hb.block _ HgZc.out).trans HZc.out)
        have HoFc := Lib.hid ho
        clear ho hb
        go_wp2_with fail
        refine hK.out _ _ ⟨cell_stay CXc_p0.out.1 HBc_4.out, cell_stay CXc_p0.out.2.1 HBc_4.out, cell_stay CXc_p1.out.1 HBc_4.out, cell_stay CXc_p1.out.2.1 HBc_4.out⟩ (fun hHeld => ?_)
        clear hK K
        try simp only [Act.put, List.setIfInBounds_toArray, List.set_cons_zero, List.set_cons_succ]
        refine wpAnyH_ready (rs := [6]) (by kernel_rfl) (by simp) (AllReadyH.cons (by simp only [List.getElem?_toArray, List.getElem?_cons_succ, List.getElem?_cons_zero]; rfl) (fun K hK => ?_) AllReadyH.nil)
        have HRc := Lib.hid (chH_store (pw := w_12) (w := vc_3) (L := edH x0 e1) HBc_4.out HgPc.out HZc.out HgLc.out HwVc.out HoFc.out)
        have HBc_5 : Hid (Below w_12.heap.size w_12 ((vc_4.setCell ⟨vc_1.heap.size, 0, none⟩ (.slice a24 n24 c24)).setCell ⟨vc_1.heap.size, 1, none⟩ (.slice b24 m24 d24))) := Lib.hid HRc.out.1
        obtain ⟨m0, m1, q0, q1⟩ := two_cells HZc.out
        obtain ⟨y0, y1, -⟩ := two_put HZc.out (.slice a24 n24 c24) (.slice b24 m24 d24)
        go_simp
        refine hK.out _ _ ⟨cell_stay CXc_p0.out.1 HBc_5.out, cell_stay CXc_p0.out.2.1 HBc_5.out, cell_stay CXc_p1.out.1 HBc_5.out, cell_stay CXc_p1.out.2.1 HBc_5.out⟩ (fun hHeld => ?_)
        clear hK K
        try simp only [Act.put, List.setIfInBounds_toArray, List.set_cons_zero, List.set_cons_succ]
        refine wpAnyH_done (by kernel_rfl) ?_ _
        have HR := HRc
        have hfin : ChH w_12 (edH x0 e1) vc_1.heap.size (.agg #[.slice a24 n24 c24, .slice b24 m24 d24]) _ := HR.out
        generalize vc_1.heap.size = g at hfin ⊢
        generalize (Value.agg #[.slice a24 n24 c24, .slice b24 m24 d24]) = v at hfin ⊢
        generalize tc_0 = u1
        obtain ⟨u2, -⟩ : ∃ u : Value, u = undef := ⟨_, rfl⟩
        obtain ⟨u3, -⟩ : ∃ u : Value, u = undef := ⟨_, rfl⟩
        obtain ⟨u4, -⟩ : ∃ u : Value, u = undef := ⟨_, rfl⟩
        exact ⟨g, v, u1, u2, u3, u4, rfl, hfin⟩
    · skip
      have HBc_1 : Hid (Below w_12.heap.size w_12 (World.alloc w_12 (.cells #[.slice none 0 0, .slice none 0 0] 31)).drew) := Lib.hid (alloc_same w_12 (.cells #[.slice none 0 0, .slice none 0 0] 31)).drew
      have HZc : Hid ((World.alloc w_12 (.cells #[.slice none 0 0, .slice none 0 0] 31)).drew.heap[w_12.heap.size]? = some (.cells #[.slice none 0 0, .slice none 0 0] 31 (0, 0))) := Lib.hid (heap_alloc_new w_12 _)
      have HgZc : Hid (w_12.heap.size < (World.alloc w_12 (.cells #[.slice none 0 0, .slice none 0 0] 31)).drew.heap.size) := Lib.hid (by simp)
      go_simp
      refine hK.out _ _ ⟨cell_stay CXc_p0.out.1 HBc_1.out, cell_stay CXc_p0.out.2.1 HBc_1.out, cell_stay CXc_p1.out.1 HBc_1.out, cell_stay CXc_p1.out.2.1 HBc_1.out⟩ (fun hHeld => ?_)
      clear hK K
      try simp only [Act.put, List.setIfInBounds_toArray, List.set_cons_zero, List.set_cons_succ]
      refine wpAnyH_ready (rs := [1]) (by kernel_rfl) (by simp) (AllReadyH.cons (by simp only [List.getElem?_toArray, List.getElem?_cons_succ, List.getElem?_cons_zero]; rfl) (fun K hK => ?_) AllReadyH.nil)
      go_simp
      refine (toHello_any (HK0.out.same (HB.out.trans (HBc_1.out.mono HB.out.size))) (by omega)).mono ?_
      rintro e vc_2 ⟨tc_0, rfl, ho, hb⟩
      have HBc_2 : Hid (Below w_12.heap.size w_12 vc_2) := Lib.hid (HBc_1.out.trans (hb.mono HBc_1.out.size))
      replace HZc := Lib.hid ((hb.block _ (by have := HgZc.out; omega)).trans HZc.out)
      replace HgZc := Lib.hid (Nat.lt_of_lt_of_le HgZc.out hb.size)
      have HNc_0 := Lib.hid ho
      clear ho
      clear hb
      go_wp2_with fail
      refine hK.out _ _ ⟨cell_stay CXc_p0.out.1 HBc_2.out, cell_stay CXc_p0.out.2.1 HBc_2.out, cell_stay CXc_p1.out.1 HBc_2.out, cell_stay CXc_p1.out.2.1 HBc_2.out⟩ (fun hHeld => ?_)
      clear hK K
      try simp only [Act.put, List.setIfInBounds_toArray, List.set_cons_zero, List.set_cons_succ]
      refine wpAnyH_ready (rs := [3]) (by kernel_rfl) (by simp) (AllReadyH.cons (by simp only [List.getElem?_toArray, List.getElem?_cons_succ, List.getElem?_cons_zero]; rfl) (fun K hK => ?_) AllReadyH.nil)
      go_simp
      refine (toEdit_agg e1 _).mono ?_
      rintro e vc_3 ⟨rfl, hb⟩
      have HBc_3 : Hid (Below w_12.heap.size w_12 vc_3) := Lib.hid (HBc_2.out.trans (hb.mono HBc_2.out.size))
      replace HNc_0 := Lib.hid (HNc_0.out.same hb)
      replace HZc := Lib.hid ((hb.block _ (by have := HgZc.out; omega)).trans HZc.out)
      replace HgZc := Lib.hid (Nat.lt_of_lt_of_le HgZc.out hb.size)
      clear hb
      go_wp2_with fail
      refine hK.out _ _ ⟨cell_stay CXc_p0.out.1 HBc_3.out, cell_stay CXc_p0.out.2.1 HBc_3.out, cell_stay CXc_p1.out.1 HBc_3.out, cell_stay CXc_p1.out.2.1 HBc_3.out⟩ (fun hHeld => ?_)
      clear hK K
      try simp only [Act.put, List.setIfInBounds_toArray, List.set_cons_zero, List.set_cons_succ]
      refine wpAnyH_ready (rs := [4]) (by kernel_rfl) (by simp) (AllReadyH.cons (by simp only [List.getElem?_toArray, List.getElem?_cons_succ, List.getElem?_cons_zero]; rfl) (fun K hK => ?_) AllReadyH.nil)
      go_simp
      have HgLc := HgZc
      refine (editHello_any (e := e1) HNc_0.out.hel HF1.out.1 hp1 hp2 hp3).mono ?_
      rintro e vc_4 ⟨v24, rfl, ho, hb⟩
      have HBc_4 : Hid (Below w_12.heap.size w_12 vc_4) := Lib.hid (HBc_3.out.trans (hb.mono HBc_3.out.size))
      obtain ⟨a24, n24, c24, b24, m24, d24, rfl⟩ := ho.shape
      have HwVc := Lib.hid hb.size
      have HgPc : Hid (w_12.heap.size ≤ w_12.heap.size) := Lib.hid (Nat.le_refl _)
      replace HZc := Lib.hid ((hb.block _ HgZc.out).trans HZc.out)
      have HoFc := Lib.hid ho
      clear ho hb
      go_wp2_with fail
      refine hK.out _ _ ⟨cell_stay CXc_p0.out.1 HBc_4.out, cell_stay CXc_p0.out.2.1 HBc_4.out, cell_stay CXc_p1.out.1 HBc_4.out, cell_stay CXc_p1.out.2.1 HBc_4.out⟩ (fun hHeld => ?_)
      clear hK K
      try simp only [Act.put, List.setIfInBounds_toArray, List.set_cons_zero, List.set_cons_succ]
      refine wpAnyH_ready (rs := [6]) (by kernel_rfl) (by simp) (AllReadyH.cons (by simp only [List.getElem?_toArray, List.getElem?_cons_succ, List.getElem?_cons_zero]; rfl) (fun K hK => ?_) AllReadyH.nil)
      have HRc := Lib.hid (chH_store (pw := w_12) (w := vc_3) (L := edH x0 e1) HBc_4.out HgPc.out HZc.out HgLc.out HwVc.out HoFc.out)
      have HBc_5 : Hid (Below w_12.heap.size w_12 ((vc_4.setCell ⟨w_12.heap.size, 0, none⟩ (.slice a24 n24 c24)).setCell ⟨w_12.heap.size, 1, none⟩ (.slice b24 m24 d24))) := Lib.hid HRc.out.1
      obtain ⟨m0, m1, q0, q1⟩ := two_cells HZc.out
      obtain ⟨y0, y1, -⟩ := two_put HZc.out (.slice a24 n24 c24) (.slice b24 m24 d24)
      go_simp
      refine hK.out _ _ ⟨cell_stay CXc_p0.out.1 HBc_5.out, cell_stay CXc_p0.out.2.1 HBc_5.out, cell_stay CXc_p1.out.1 HBc_5.out, cell_stay CXc_p1.out.2.1 HBc_5.out⟩ (fun hHeld => ?_)
      clear hK K
      try simp only [Act.put, List.setIfInBounds_toArray, List.set_cons_zero, List.set_cons_succ]
      refine wpAnyH_done (by kernel_rfl) ?_ _
      have HR := HRc
      have hfin : ChH w_12 (edH x0 e1) w_12.heap.size (.agg #[.slice a24 n24 c24, .slice b24 m24 d24]) _ := HR.out
      generalize w_12.heap.size = g at hfin ⊢
      generalize (Value.agg #[.slice a24 n24 c24, .slice b24 m24 d24]) = v at hfin ⊢
      generalize tc_0 = u1
      obtain ⟨u2, -⟩ : ∃ u : Value, u = undef := ⟨_, rfl⟩
      obtain ⟨u3, -⟩ : ∃ u : Value, u = undef := ⟨_, rfl⟩
      obtain ⟨u4, -⟩ : ∃ u : Value, u = undef := ⟨_, rfl⟩
      exact ⟨g, v, u1, u2, u3, u4, rfl, hfin⟩
  intro gc vc u1c u2c u3c u4c Wc hR
  obtain ⟨w_13, hwv⟩ : ∃ u, u = Wc := ⟨_, rfl⟩
  subst hwv
  obtain ⟨hb, hgp, a24, n24, c24, b24, m24, d24, loc, Sc, rfl, hbox, ho, hlo, hS, hgd⟩ := hR
  have HO24 := Lib.hid ho
  have HXN := Lib.hid hbox
  clear ho hbox CXc_p0 CXc_p1 HBdc
  have hs13 : w_12.heap.size ≤ w_13.heap.size := hb.size
  replace HO21 := Lib.hid (HO21.out.same hb)
  replace HO22 := Lib.hid (HO22.out.same hb)
  replace HO23 := Lib.hid (HO23.out.same hb)
  replace HXp0 := Lib.hid (((hb).block _ (by omega)).trans HXp0.out)
  replace HXp1 := Lib.hid (((hb).block _ (by omega)).trans HXp1.out)
  replace HX21 := Lib.hid (((hb).block _ (by omega)).trans HX21.out)
  replace HX22 := Lib.hid (((hb).block _ (by omega)).trans HX22.out)
  replace HX23 := Lib.hid (((hb).block _ (by omega)).trans HX23.out)
  replace HB := Lib.hid (HB.out.trans (hb.mono HB.out.size))
  clear hb
  have HX24 := HXN
  clear HXN
  obtain ⟨eap0, ebp0, -⟩ := two_cells HXp0.out
  obtain ⟨eap1, ebp1, -⟩ := two_cells HXp1.out
  obtain ⟨ea21, eb21, -⟩ := two_cells HX21.out
  obtain ⟨ea22, eb22, -⟩ := two_cells HX22.out
  obtain ⟨ea23, eb23, -⟩ := two_cells HX23.out
  obtain ⟨ea24, eb24, -⟩ := two_cells HX24.out
  go_wp2_with fail
  clear eap0 ebp0 eap1 ebp1 ea21 eb21 ea22 eb22 ea23 eb23 ea24 eb24
  refine (eqHello_yes HO24.out.hel HO21.out.hel).mono ?_
  rintro e w_14 ⟨rfl, hb⟩
  have hs14 : w_13.heap.size ≤ w_14.heap.size := hb.size
  replace HO21 := Lib.hid (HO21.out.same hb)
  replace HO22 := Lib.hid (HO22.out.same hb)
  replace HO23 := Lib.hid (HO23.out.same hb)
  replace HO24 := Lib.hid (HO24.out.same hb)
  replace HXp0 := Lib.hid (((hb).block _ (by omega)).trans HXp0.out)
  replace HXp1 := Lib.hid (((hb).block _ (by omega)).trans HXp1.out)
  replace HX21 := Lib.hid (((hb).block _ (by omega)).trans HX21.out)
  replace HX22 := Lib.hid (((hb).block _ (by omega)).trans HX22.out)
  replace HX23 := Lib.hid (((hb).block _ (by omega)).trans HX23.out)
  replace HX24 := Lib.hid (((hb).block _ (by omega)).trans HX24.out)
  replace HB := Lib.hid (HB.out.trans (hb.mono HB.out.size))
  clear hb
  obtain ⟨eap0, ebp0, -⟩ := two_cells HXp0.out
  obtain ⟨eap1, ebp1, -⟩ := two_cells HXp1.out
  obtain ⟨ea21, eb21, -⟩ := two_cells HX21.out
  obtain ⟨ea22, eb22, -⟩ := two_cells HX22.out
  obtain ⟨ea23, eb23, -⟩ := two_cells HX23.out
  obtain ⟨ea24, eb24, -⟩ := two_cells HX24.out
  go_wp2_with fail
  clear eap0 ebp0 eap1 ebp1 ea21 eb21 ea22 eb22 ea23 eb23 ea24 eb24
  refine (heldHello_any (k := 1) (x := (edH x0 e1)) HO23.out.hel (by omega) (by omega)).mono ?_
  rintro e w_15 ⟨rfl, hb⟩
  have hs15 : w_14.heap.size ≤ w_15.heap.size := hb.size
  replace HO21 := Lib.hid (HO21.out.same hb)
  replace HO22 := Lib.hid (HO22.out.same hb)
  replace HO23 := Lib.hid (HO23.out.same hb)
  replace HO24 := Lib.hid (HO24.out.same hb)
  replace HXp0 := Lib.hid (((hb).block _ (by omega)).trans HXp0.out)
  replace HXp1 := Lib.hid (((hb).block _ (by omega)).trans HXp1.out)
  replace HX21 := Lib.hid (((hb).block _ (by omega)).trans HX21.out)
  replace HX22 := Lib.hid (((hb).block _ (by omega)).trans HX22.out)
  replace HX23 := Lib.hid (((hb).block _ (by omega)).trans HX23.out)
  replace HX24 := Lib.hid (((hb).block _ (by omega)).trans HX24.out)
  replace HB := Lib.hid (HB.out.trans (hb.mono HB.out.size))
  clear hb
  obtain ⟨eap0, ebp0, -⟩ := two_cells HXp0.out
  obtain ⟨eap1, ebp1, -⟩ := two_cells HXp1.out
  obtain ⟨ea21, eb21, -⟩ := two_cells HX21.out
  obtain ⟨ea22, eb22, -⟩ := two_cells HX22.out
  obtain ⟨ea23, eb23, -⟩ := two_cells HX23.out
  obtain ⟨ea24, eb24, -⟩ := two_cells HX24.out
  go_wp2_with fail
  clear eap0 ebp0 eap1 ebp1 ea21 eb21 ea22 eb22 ea23 eb23 ea24 eb24
  go_ret
  exact ⟨rfl, HB.out⟩

set_option maxRecDepth 100000 in
theorem lifted (os : Os) (started : os.Started) (H : Type) (enc : TypeId × Value → H) :
    ReturnsInHanded {} Try.checked os 3 .any (Rows.fnExactEditHelloSpec.pre6 enc Try.prog Try.f3 Rows.fnExactEditHelloRow.domain false) (Rows.fnExactEditHelloSpec.post enc Try.prog Try.f3 false true false false) := by
  refine returnsInHanded_of_change (C := Try.checked) own started (by kernel_rfl) Try.func3
    (ChangeSpec.witness6 (enc := enc) (C := Try.checked) false ⟨#[], #[.agg #[.slice none 0 0, .slice none 0 0], .agg #[.int .i64 0, .int .i64 0]], []⟩ 8 (by kernel_rfl) (by kernel_rfl) (by kernel_rfl) (by kernel_rfl)) ?_
  intro W base args ds gs before hval0 hW hcnd _
  have hval : ∀ (j : Nat) t v, Try.f3.params[j]? = some t → args[j]? = some v → Value.okWide Try.prog W .any base t v := hval0
  have hW' := hW
  obtain ⟨p, q, hA0, hV, rfl, hfz, hnd⟩ := hW
  have hA : DataW.TrodAll enc Try.prog W 0 (fun _ => true) true Try.f3.params.toList args.toList ds p := hA0
  rw [Try.params3] at hA hval
  obtain ⟨v0, vs0, d0, ds0, p0, q0, hargs, rfl, rfl, h0, r0⟩ := trodAll_cons hA
  obtain ⟨v1, vs1, d1, ds1, p1, q1, rfl, rfl, rfl, h1, r1⟩ := trodAll_cons r0
  obtain ⟨rfl, rfl, rfl⟩ := trodAll_nil r1
  obtain rfl : args = #[v0, v1] := by cases args; simp_all
  obtain ⟨rfl, rfl⟩ := trodVars_none hV
  have h0k := h0
  have hlt0 : ∀ x ∈ p0, x.block < W.heap.size := fun x hx => by simpa using hW'.lt x (by simp [hx])
  obtain ⟨x0, K0, F0⟩ := open_hel Try.underlying25 (by kernel_rfl) (by kernel_rfl) Try.underlying22 Try.underlying3 int_cells Try.underlying23 Try.underlying79 (by kernel_rfl) (by kernel_rfl) Try.underlying3 Try.underlying22 (hval 0 25 v0 rfl rfl) h0
  have h1k := h1
  have hlt1 : ∀ x ∈ p1, x.block < W.heap.size := fun x hx => by simpa using hW'.lt x (by simp [hx])
  obtain ⟨e1, rfl, F1⟩ := open_et Try.underlying27 (by kernel_rfl) (by kernel_rfl) Try.underlying3 Try.underlying3 (hval 1 27 v1 rfl rfl) h1
  clear hA0 hval0
  simp only [List.append_nil] at hW'
  refine (walk v0 x0 e1 W K0 F0 F1).mono fun e W' ⟨he, hb⟩ => ?_
  subst he
  exact ⟨_, rfl, ⟨_, _, _, [], _, [], hW', (trodAll_cons_mk (shut_bool Try.underlying4 _) trodAll_mk0), (trodAll_cons_mk (Below.trod laidOut (by kernel_rfl) (of_decide_eq_true (by kernel_rfl)) h0k hb hlt0) (trodAll_cons_mk (Below.trod laidOut (by kernel_rfl) (of_decide_eq_true (by kernel_rfl)) h1k hb hlt1) trodAll_mk0)), rfl, hb.frame _, fun h => by cases h⟩⟩

theorem over : Rows.fnExactEditHelloRow.holds Try.pinned (OpenSpec.ofChange Rows.fnExactEditHelloSpec) :=
  OpenClaim.holds_of_wide 3 Try.f3 rfl rfl rfl rfl rfl rfl rfl ⟨rfl, rfl, rfl, rfl, rfl⟩ rfl rfl rfl rfl rfl (by kernel_rfl) Try.func3 (by kernel_rfl)
    (of_decide_eq_true (by kernel_rfl)) (by unfold Func.isWrapper; first | (rw [if_pos (by decide +kernel)]; kernel_rfl) | (rw [if_neg (by decide +kernel)]; exact ⟨rfl, rfl⟩))
    (fun os started H enc _ => lifted os started H enc)

theorem proved : Rows.FnExactEditHelloSaid :=
  over
end Go.Proofs.Ytcmjadfpifpknaa.fnExactEditHello
