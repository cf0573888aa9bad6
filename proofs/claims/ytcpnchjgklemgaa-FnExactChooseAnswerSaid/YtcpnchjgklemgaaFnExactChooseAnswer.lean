/- ChooseAnswer: the program answers as its model. -/
import Derived.Test.YtcpnchjgklemgaaG24
import Derived.Test.YtcpnchjgklemgaaG28
import Derived.Test.YtcpnchjgklemgaaG25
import Derived.Test.YtcpnchjgklemgaaG1
import Derived.WalkKit
import Derived.Deep.RegionHeld3
import Derived.ProofKit
import Derived.OpenShut
namespace Go.Proofs.Ytcpnchjgklemgaa.fnExactChooseAnswer
open Go.ChangeShapes Go.WideShapes Go.ChangeAt Go.RowKit Go.Lib
open Go.ChangeMaps (open_string shut_string)
set_option linter.unusedVariables false

theorem own : ownKnob Try.prog.godebug = none := by kernel_rfl
set_option linter.unusedSimpArgs false

set_option maxHeartbeats 4000000 in
set_option maxRecDepth 100000 in
theorem walk (a0 : Option Addr) (n0 c0 : Nat) (l0 : List Int) (a1 : Option Addr) (n1 c1 : Nat) (l1 : List Int) (v2 : Value) (x2 : Hel) (w : World) (K0 : Nums .i64 w a0 n0 l0) (F0 : ∀ x ∈ l0, (Lit.int .i64 x).wf = true) (R0 : n0 ≤ c0 ∧ (c0 : Int) ≤ 9223372036854775807) (K1 : Nums .i64 w a1 n1 l1) (F1 : ∀ x ∈ l1, (Lit.int .i64 x).wf = true) (R1 : n1 ≤ c1 ∧ (c1 : Int) ≤ 9223372036854775807) (K2 : HelW w v2 x2) (F2 : x2.wf) :
    Calls Try.prog 9 #[.slice a0 n0 c0, .slice a1 n1 c1, v2] w fun e w' => e = .returned (.bool true) ∧ Below w.heap.size w w' := by
  obtain ⟨a92, n92, c92, b92, m92, d92, rfl⟩ := K2.shape
  have hfit0 := K0.fits
  have hfit1 := K1.fits
  by_cases hbig0 : 1048576 < n0
  · have HB9 : Hid (Below w.heap.size w (World.alloc w (.cells #[.slice a92 n92 c92, .slice b92 m92 d92] 48))) := Lib.hid (alloc_same w _)
    go_enter Try.func9, Try.ntmps9
    go_wp2_with fail
    go_ret
    exact ⟨rfl, HB9.out⟩
  by_cases hbig1 : 1048576 < n1
  · have HB9 : Hid (Below w.heap.size w (World.alloc w (.cells #[.slice a92 n92 c92, .slice b92 m92 d92] 48))) := Lib.hid (alloc_same w _)
    go_enter Try.func9, Try.ntmps9
    go_wp2_with fail
    go_ret
    exact ⟨rfl, HB9.out⟩
  by_cases hbig2 : 1048576 < x2.parts
  · have HB := Lib.hid (alloc_same w (.cells #[.slice a92 n92 c92, .slice b92 m92 d92] 48))
    have HXp2 := Lib.hid (heap_alloc_new w (.cells #[.slice a92 n92 c92, .slice b92 m92 d92] 48 (0, 0)))
    change Hid ((World.alloc w (.cells #[.slice a92 n92 c92, .slice b92 m92 d92] 48)).heap[w.heap.size]? = _) at HXp2
    have hs1 : w.heap.size + 1 ≤ (World.alloc w (.cells #[.slice a92 n92 c92, .slice b92 m92 d92] 48)).heap.size := by simp
    go_enter Try.func9, Try.ntmps9
    obtain ⟨eap2, ebp2, -⟩ := two_cells HXp2.out
    go_wp2_with fail
    clear eap2 ebp2
    generalize hgen : (World.alloc w (.cells #[.slice a92 n92 c92, .slice b92 m92 d92] 48)) = w_1 at *
    clear hgen
    refine (szHello_no (1048576) (K2.same HB.out) (by omega) (by omega) (by omega)).mono ?_
    rintro e w' ⟨rfl, hb⟩
    have HB2 := Lib.hid (HB.out.trans (hb.mono HB.out.size))
    go_wp2_with fail
    go_ret
    exact ⟨rfl, HB2.out⟩
  have HK0 := Lib.hid K0
  have HR0 := Lib.hid R0
  have hn0 : n0 ≤ 1048576 := by omega
  have HF0 := Lib.hid F0
  have HK1 := Lib.hid K1
  have HR1 := Lib.hid R1
  have hn1 : n1 ≤ 1048576 := by omega
  have HF1 := Lib.hid F1
  have HK2 := Lib.hid K2
  have hn2 : x2.parts ≤ 1048576 := by omega
  have hpw := chAns_parts l0 l1 x2
  have HF1 := Lib.hid F1
  clear K0 F0 R0 K1 F1 R1 K2 F2
  have HB := Lib.hid (alloc_same w (.cells #[.slice a92 n92 c92, .slice b92 m92 d92] 48))
  have HXp2 := Lib.hid (heap_alloc_new w (.cells #[.slice a92 n92 c92, .slice b92 m92 d92] 48 (0, 0)))
  change Hid ((World.alloc w (.cells #[.slice a92 n92 c92, .slice b92 m92 d92] 48)).heap[w.heap.size]? = _) at HXp2
  have hs1 : w.heap.size + 1 ≤ (World.alloc w (.cells #[.slice a92 n92 c92, .slice b92 m92 d92] 48)).heap.size := by simp
  go_enter Try.func9, Try.ntmps9
  obtain ⟨eap2, ebp2, -⟩ := two_cells HXp2.out
  go_wp2_with fail
  clear eap2 ebp2
  generalize hgen : (World.alloc w (.cells #[.slice a92 n92 c92, .slice b92 m92 d92] 48)) = w_1 at *
  clear hgen
  refine (szHello_yes (1048576) (HK2.out.same HB.out) (by omega) (by omega)).mono ?_
  rintro e w_2 ⟨rfl, hb⟩
  have hs2 : w_1.heap.size ≤ w_2.heap.size := hb.size
  replace HXp2 := Lib.hid (((hb).block _ (by omega)).trans HXp2.out)
  replace HB := Lib.hid (HB.out.trans (hb.mono HB.out.size))
  clear hb
  obtain ⟨eap2, ebp2, -⟩ := two_cells HXp2.out
  go_wp2_with fail
  clear eap2 ebp2
  have CXa := Lib.hid (two_cells HXp2.out)
  have HBda : Hid (Below w_2.heap.size w_2 w_2.drew) := Lib.hid (Below.refl _ _).drew
  apply ch_cut (ChR w_2 (chAns l0 l1 x2))
  case h =>
    refine wp_region_held_drew (S := fun w9 => w9.cell? ⟨w.heap.size, 0, none⟩ = some (.slice a92 n92 c92) ∧ w9.cell? ⟨w.heap.size, 1, none⟩ = some (.slice b92 m92 d92)) (by kernel_rfl) ⟨cell_stay CXa.out.1 HBda.out, cell_stay CXa.out.2.1 HBda.out⟩ (fun hHeld => ?_)
    refine wpAnyH_take (i := 0) (v := ?v1) (by simp only [List.getElem?_toArray, List.getElem?_cons_succ, List.getElem?_cons_zero]; rfl) (by kernel_rfl) (by kernel_rfl) (by kernel_rfl) (by exact fun _ _ _ h => h) (Or.inl ⟨by rfl, fun w9 hS9 => ?hy1⟩) hHeld ?rest1
    case hy1 =>
      dsimp only at hS9
      obtain ⟨y0, y1⟩ := hS9
      go_simp
      try with_reducible rfl
    try simp only [Act.put, List.setIfInBounds_toArray, List.set_cons_zero, List.set_cons_succ]
    refine wpAnyH_take (i := 2) (v := ?v2) (by simp only [List.getElem?_toArray, List.getElem?_cons_succ, List.getElem?_cons_zero]; rfl) (by kernel_rfl) (by kernel_rfl) (by kernel_rfl) (by exact fun _ _ _ h => h) (Or.inl ⟨by rfl, fun w9 hS9 => ?hy2⟩) hHeld ?rest2
    case hy2 =>
      dsimp only at hS9
      obtain ⟨y0, y1⟩ := hS9
      go_simp
      try with_reducible rfl
    try simp only [Act.put, List.setIfInBounds_toArray, List.set_cons_zero, List.set_cons_succ]
    refine wpAnyH_take (i := 4) (v := ?v3) (by simp only [List.getElem?_toArray, List.getElem?_cons_succ, List.getElem?_cons_zero]; rfl) (by kernel_rfl) (by kernel_rfl) (by kernel_rfl) (by exact fun _ _ _ h => h) (Or.inl ⟨by rfl, fun w9 hS9 => ?hy3⟩) hHeld ?rest3
    case hy3 =>
      dsimp only at hS9
      obtain ⟨y0, y1⟩ := hS9
      go_simp
      try with_reducible rfl
    try simp only [Act.put, List.setIfInBounds_toArray, List.set_cons_zero, List.set_cons_succ]
    refine wpAnyH_ready (rs := [1, 10]) (by kernel_rfl) (by simp) (AllReadyH.cons (by simp only [List.getElem?_toArray, List.getElem?_cons_succ, List.getElem?_cons_zero]; rfl) (fun K hK => ?_) (AllReadyH.cons (by simp only [List.getElem?_toArray, List.getElem?_cons_succ, List.getElem?_cons_zero]; rfl) (fun K hK => ?_) AllReadyH.nil))
    · skip
      go_simp
      refine (toIntS_any a0 n0 c0 l0 _ (HK0.out.same (HB.out.trans (HBda.out.mono HB.out.size))) (by omega)).mono ?_
      rintro e va_1 ⟨qa_0, ka_0, ra_0, rfl, ho, hb⟩
      have HBa_1 : Hid (Below w_2.heap.size w_2 va_1) := Lib.hid (HBda.out.trans (hb.mono HBda.out.size))
      have hkla_0 : ka_0 ≤ 1048576 := by have hl := ho.len; have := HK0.out.len; omega
      have HNa_0 := Lib.hid ho.nums
      clear ho
      clear hb
      go_wp2_with fail
      refine hK.out _ _ ⟨cell_stay CXa.out.1 HBa_1.out, cell_stay CXa.out.2.1 HBa_1.out⟩ (fun hHeld => ?_)
      clear hK K
      try simp only [Act.put, List.setIfInBounds_toArray, List.set_cons_zero, List.set_cons_succ]
      refine wpAnyH_ready (rs := [3, 10]) (by kernel_rfl) (by simp) (AllReadyH.cons (by simp only [List.getElem?_toArray, List.getElem?_cons_succ, List.getElem?_cons_zero]; rfl) (fun K hK => ?_) (AllReadyH.cons (by simp only [List.getElem?_toArray, List.getElem?_cons_succ, List.getElem?_cons_zero]; rfl) (fun K hK => ?_) AllReadyH.nil))
      · skip
        go_simp
        refine (toIntS_any a1 n1 c1 l1 _ (HK1.out.same (HB.out.trans (HBa_1.out.mono HB.out.size))) (by omega)).mono ?_
        rintro e va_2 ⟨qa_1, ka_1, ra_1, rfl, ho, hb⟩
        have HBa_2 : Hid (Below w_2.heap.size w_2 va_2) := Lib.hid (HBa_1.out.trans (hb.mono HBa_1.out.size))
        replace HNa_0 := Lib.hid (HNa_0.out.same hb)
        have hkla_1 : ka_1 ≤ 1048576 := by have hl := ho.len; have := HK1.out.len; omega
        have HNa_1 := Lib.hid ho.nums
        clear ho
        clear hb
        go_wp2_with fail
        refine hK.out _ _ ⟨cell_stay CXa.out.1 HBa_2.out, cell_stay CXa.out.2.1 HBa_2.out⟩ (fun hHeld => ?_)
        clear hK K
        try simp only [Act.put, List.setIfInBounds_toArray, List.set_cons_zero, List.set_cons_succ]
        refine wpAnyH_ready (rs := [5, 10]) (by kernel_rfl) (by simp) (AllReadyH.cons (by simp only [List.getElem?_toArray, List.getElem?_cons_succ, List.getElem?_cons_zero]; rfl) (fun K hK => ?_) (AllReadyH.cons (by simp only [List.getElem?_toArray, List.getElem?_cons_succ, List.getElem?_cons_zero]; rfl) (fun K hK => ?_) AllReadyH.nil))
        · skip
          go_simp
          refine (toHello_any (HK2.out.same (HB.out.trans (HBa_2.out.mono HB.out.size))) (by omega)).mono ?_
          rintro e va_3 ⟨ta_2, rfl, ho, hb⟩
          have HBa_3 : Hid (Below w_2.heap.size w_2 va_3) := Lib.hid (HBa_2.out.trans (hb.mono HBa_2.out.size))
          replace HNa_0 := Lib.hid (HNa_0.out.same hb)
          replace HNa_1 := Lib.hid (HNa_1.out.same hb)
          have HNa_2 := Lib.hid ho.hel
          clear ho
          clear hb
          go_wp2_with fail
          refine hK.out _ _ ⟨cell_stay CXa.out.1 HBa_3.out, cell_stay CXa.out.2.1 HBa_3.out⟩ (fun hHeld => ?_)
          clear hK K
          try simp only [Act.put, List.setIfInBounds_toArray, List.set_cons_zero, List.set_cons_succ]
          refine wpAnyH_ready (rs := [6, 10]) (by kernel_rfl) (by simp) (AllReadyH.cons (by simp only [List.getElem?_toArray, List.getElem?_cons_succ, List.getElem?_cons_zero]; rfl) (fun K hK => ?_) (AllReadyH.cons (by simp only [List.getElem?_toArray, List.getElem?_cons_succ, List.getElem?_cons_zero]; rfl) (fun K hK => ?_) AllReadyH.nil))
          · skip
            go_simp
            refine (specChooseAnswer_any HNa_0.out HNa_1.out HNa_2.out HF1.out (by omega) (by omega)).mono ?_
            rintro e va_4 ⟨v21, rfl, ho, hb⟩
            have HBa_4 : Hid (Below w_2.heap.size w_2 va_4) := Lib.hid (HBa_3.out.trans (hb.mono HBa_3.out.size))
            obtain ⟨b21, m21, d21, rfl⟩ := ho.shape
            have HoFa : Hid (OwnAns va_4.heap.size va_4 w_2.heap.size (.agg #[.int .i64 (chAns l0 l1 x2).ver, .slice b21 m21 d21]) (chAns l0 l1 x2)) := Lib.hid (ho.lower HBa_3.out.size)
            clear ho hb
            go_wp2_with fail
            refine hK.out _ _ ⟨cell_stay CXa.out.1 HBa_4.out, cell_stay CXa.out.2.1 HBa_4.out⟩ (fun hHeld => ?_)
            clear hK K
            try simp only [Act.put, List.setIfInBounds_toArray, List.set_cons_zero, List.set_cons_succ]
            refine wpAnyH_take (i := 7) (v := ?v4) (by simp only [List.getElem?_toArray, List.getElem?_cons_succ, List.getElem?_cons_zero]; rfl) (by kernel_rfl) (by kernel_rfl) (by kernel_rfl) (by exact fun _ _ _ h => h) (Or.inl ⟨by rfl, fun w9 hS9 => ?hy4⟩) hHeld ?rest4
            case hy4 =>
              dsimp only at hS9
              obtain ⟨y0, y1⟩ := hS9
              go_simp
              try with_reducible rfl
            try simp only [Act.put, List.setIfInBounds_toArray, List.set_cons_zero, List.set_cons_succ]
            refine wpAnyH_take (i := 8) (v := ?v5) (by simp only [List.getElem?_toArray, List.getElem?_cons_succ, List.getElem?_cons_zero]; rfl) (by kernel_rfl) (by kernel_rfl) (by kernel_rfl) (by exact fun _ _ _ h => h) (Or.inl ⟨by rfl, fun w9 hS9 => ?hy5⟩) hHeld ?rest5
            case hy5 =>
              dsimp only at hS9
              obtain ⟨y0, y1⟩ := hS9
              go_simp
              try with_reducible rfl
            try simp only [Act.put, List.setIfInBounds_toArray, List.set_cons_zero, List.set_cons_succ]
            refine wpAnyH_take (i := 9) (v := ?v6) (by simp only [List.getElem?_toArray, List.getElem?_cons_succ, List.getElem?_cons_zero]; rfl) (by kernel_rfl) (by kernel_rfl) (by kernel_rfl) (by exact fun _ _ _ h => h) (Or.inl ⟨by rfl, fun w9 hS9 => ?hy6⟩) hHeld ?rest6
            case hy6 =>
              dsimp only at hS9
              obtain ⟨y0, y1⟩ := hS9
              go_simp
              try with_reducible rfl
            try simp only [Act.put, List.setIfInBounds_toArray, List.set_cons_zero, List.set_cons_succ]
            refine wpAnyH_ready (rs := [10]) (by kernel_rfl) (by simp) (AllReadyH.cons (by simp only [List.getElem?_toArray, List.getElem?_cons_succ, List.getElem?_cons_zero]; rfl) (fun K hK => ?_) AllReadyH.nil)
            have HBa_5 : Hid (Below w_2.heap.size w_2 (World.alloc va_4 (.cells #[.int .i64 0, .slice none 0 0] 39))) := Lib.hid (HBa_4.out.trans ((alloc_same va_4 (.cells #[.int .i64 0, .slice none 0 0] 39)).mono HBa_4.out.size))
            go_simp
            refine hK.out _ _ ⟨cell_stay CXa.out.1 HBa_5.out, cell_stay CXa.out.2.1 HBa_5.out⟩ (fun hHeld => ?_)
            clear hK K
            try simp only [Act.put, List.setIfInBounds_toArray, List.set_cons_zero, List.set_cons_succ]
            refine wpAnyH_ready (rs := [11]) (by kernel_rfl) (by simp) (AllReadyH.cons (by simp only [List.getElem?_toArray, List.getElem?_cons_succ, List.getElem?_cons_zero]; rfl) (fun K hK => ?_) AllReadyH.nil)
            have HRa := Lib.hid (chR_alloc (L := chAns l0 l1 x2) HBa_4.out HoFa.out)
            have HBa_6 : Hid (Below w_2.heap.size w_2 (World.alloc va_4 (.cells #[.int .i64 (chAns l0 l1 x2).ver, .slice b21 m21 d21] 39))) := Lib.hid HRa.out.1
            go_simp
            refine hK.out _ _ ⟨cell_stay CXa.out.1 HBa_6.out, cell_stay CXa.out.2.1 HBa_6.out⟩ (fun hHeld => ?_)
            clear hK K
            try simp only [Act.put, List.setIfInBounds_toArray, List.set_cons_zero, List.set_cons_succ]
            refine wpAnyH_take (i := 12) (v := ?v7) (by simp only [List.getElem?_toArray, List.getElem?_cons_succ, List.getElem?_cons_zero]; rfl) (by kernel_rfl) (by kernel_rfl) (by kernel_rfl) (by exact fun _ _ _ h => h) (Or.inl ⟨by rfl, fun w9 hS9 => ?hy7⟩) hHeld ?rest7
            case hy7 =>
              dsimp only at hS9
              obtain ⟨y0, y1⟩ := hS9
              go_simp
              try with_reducible rfl
            try simp only [Act.put, List.setIfInBounds_toArray, List.set_cons_zero, List.set_cons_succ]
            refine wpAnyH_done (by kernel_rfl) ?_ _
            have HR := HRa
            have hfin : ChR w_2 (chAns l0 l1 x2) va_4.heap.size b21 m21 d21 _ := HR.out
            generalize va_4.heap.size = g at hfin ⊢
            generalize hu3 : Value.slice qa_0 ka_0 ra_0 = u3
            generalize hu5 : Value.slice qa_1 ka_1 ra_1 = u5
            exact ⟨g, u3, u5, ta_2, b21, m21, d21, rfl, hfin⟩
          · skip
            have HBa_4 : Hid (Below w_2.heap.size w_2 (World.alloc va_3 (.cells #[.int .i64 0, .slice none 0 0] 39))) := Lib.hid (HBa_3.out.trans ((alloc_same va_3 (.cells #[.int .i64 0, .slice none 0 0] 39)).mono HBa_3.out.size))
            have HZa : Hid ((World.alloc va_3 (.cells #[.int .i64 0, .slice none 0 0] 39)).heap[va_3.heap.size]? = some (.cells #[.int .i64 0, .slice none 0 0] 39 (0, 0))) := Lib.hid (heap_alloc_new va_3 _)
            have HgZa : Hid (va_3.heap.size < (World.alloc va_3 (.cells #[.int .i64 0, .slice none 0 0] 39)).heap.size) := Lib.hid (by simp)
            replace HNa_0 := Lib.hid (HNa_0.out.same (alloc_same va_3 (.cells #[.int .i64 0, .slice none 0 0] 39)))
            replace HNa_1 := Lib.hid (HNa_1.out.same (alloc_same va_3 (.cells #[.int .i64 0, .slice none 0 0] 39)))
            replace HNa_2 := Lib.hid (HNa_2.out.same (alloc_same va_3 (.cells #[.int .i64 0, .slice none 0 0] 39)))
            go_simp
            refine hK.out _ _ ⟨cell_stay CXa.out.1 HBa_4.out, cell_stay CXa.out.2.1 HBa_4.out⟩ (fun hHeld => ?_)
            clear hK K
            try simp only [Act.put, List.setIfInBounds_toArray, List.set_cons_zero, List.set_cons_succ]
            refine wpAnyH_ready (rs := [6]) (by kernel_rfl) (by simp) (AllReadyH.cons (by simp only [List.getElem?_toArray, List.getElem?_cons_succ, List.getElem?_cons_zero]; rfl) (fun K hK => ?_) AllReadyH.nil)
            go_simp
            have HgLa := HgZa
            refine (specChooseAnswer_any HNa_0.out HNa_1.out HNa_2.out HF1.out (by omega) (by omega)).mono ?_
            rintro e va_5 ⟨v21, rfl, ho, hb⟩
            have HBa_5 : Hid (Below w_2.heap.size w_2 va_5) := Lib.hid (HBa_4.out.trans (hb.mono HBa_4.out.size))
            obtain ⟨b21, m21, d21, rfl⟩ := ho.shape
            have HwVa := Lib.hid hb.size
            have HgPa : Hid (w_2.heap.size ≤ va_3.heap.size) := Lib.hid (HBa_3.out.size)
            replace HZa := Lib.hid ((hb.block _ HgZa.out).trans HZa.out)
            have HoFa := Lib.hid ho
            clear ho hb
            go_wp2_with fail
            refine hK.out _ _ ⟨cell_stay CXa.out.1 HBa_5.out, cell_stay CXa.out.2.1 HBa_5.out⟩ (fun hHeld => ?_)
            clear hK K
            try simp only [Act.put, List.setIfInBounds_toArray, List.set_cons_zero, List.set_cons_succ]
            refine wpAnyH_take (i := 7) (v := ?v8) (by simp only [List.getElem?_toArray, List.getElem?_cons_succ, List.getElem?_cons_zero]; rfl) (by kernel_rfl) (by kernel_rfl) (by kernel_rfl) (by exact fun _ _ _ h => h) (Or.inl ⟨by rfl, fun w9 hS9 => ?hy8⟩) hHeld ?rest8
            case hy8 =>
              dsimp only at hS9
              obtain ⟨y0, y1⟩ := hS9
              go_simp
              try with_reducible rfl
            try simp only [Act.put, List.setIfInBounds_toArray, List.set_cons_zero, List.set_cons_succ]
            refine wpAnyH_take (i := 8) (v := ?v9) (by simp only [List.getElem?_toArray, List.getElem?_cons_succ, List.getElem?_cons_zero]; rfl) (by kernel_rfl) (by kernel_rfl) (by kernel_rfl) (by exact fun _ _ _ h => h) (Or.inl ⟨by rfl, fun w9 hS9 => ?hy9⟩) hHeld ?rest9
            case hy9 =>
              dsimp only at hS9
              obtain ⟨y0, y1⟩ := hS9
              go_simp
              try with_reducible rfl
            try simp only [Act.put, List.setIfInBounds_toArray, List.set_cons_zero, List.set_cons_succ]
            refine wpAnyH_take (i := 9) (v := ?v10) (by simp only [List.getElem?_toArray, List.getElem?_cons_succ, List.getElem?_cons_zero]; rfl) (by kernel_rfl) (by kernel_rfl) (by kernel_rfl) (by exact fun _ _ _ h => h) (Or.inl ⟨by rfl, fun w9 hS9 => ?hy10⟩) hHeld ?rest10
            case hy10 =>
              dsimp only at hS9
              obtain ⟨y0, y1⟩ := hS9
              go_simp
              try with_reducible rfl
            try simp only [Act.put, List.setIfInBounds_toArray, List.set_cons_zero, List.set_cons_succ]
            refine wpAnyH_ready (rs := [11]) (by kernel_rfl) (by simp) (AllReadyH.cons (by simp only [List.getElem?_toArray, List.getElem?_cons_succ, List.getElem?_cons_zero]; rfl) (fun K hK => ?_) AllReadyH.nil)
            have HRa := Lib.hid (chR_store (pw := w_2) (w := (World.alloc va_3 (.cells #[.int .i64 0, .slice none 0 0] 39))) (L := chAns l0 l1 x2) HBa_5.out HgPa.out HZa.out HgLa.out HwVa.out HoFa.out)
            have HBa_6 : Hid (Below w_2.heap.size w_2 ((va_5.setCell ⟨va_3.heap.size, 0, none⟩ (.int .i64 (chAns l0 l1 x2).ver)).setCell ⟨va_3.heap.size, 1, none⟩ (.slice b21 m21 d21))) := Lib.hid HRa.out.1
            obtain ⟨m0, m1, q0, q1⟩ := two_cells HZa.out
            obtain ⟨z0, z1, -⟩ := two_put HZa.out (.int .i64 (chAns l0 l1 x2).ver) (.slice b21 m21 d21)
            go_simp
            refine hK.out _ _ ⟨cell_stay CXa.out.1 HBa_6.out, cell_stay CXa.out.2.1 HBa_6.out⟩ (fun hHeld => ?_)
            clear hK K
            try simp only [Act.put, List.setIfInBounds_toArray, List.set_cons_zero, List.set_cons_succ]
            refine wpAnyH_take (i := 12) (v := ?v11) (by simp only [List.getElem?_toArray, List.getElem?_cons_succ, List.getElem?_cons_zero]; rfl) (by kernel_rfl) (by kernel_rfl) (by kernel_rfl) (by exact fun _ _ _ h => h) (Or.inl ⟨by rfl, fun w9 hS9 => ?hy11⟩) hHeld ?rest11
            case hy11 =>
              dsimp only at hS9
              obtain ⟨y0, y1⟩ := hS9
              go_simp
              try with_reducible rfl
            try simp only [Act.put, List.setIfInBounds_toArray, List.set_cons_zero, List.set_cons_succ]
            refine wpAnyH_done (by kernel_rfl) ?_ _
            have HR := HRa
            have hfin : ChR w_2 (chAns l0 l1 x2) va_3.heap.size b21 m21 d21 _ := HR.out
            generalize va_3.heap.size = g at hfin ⊢
            generalize hu3 : Value.slice qa_0 ka_0 ra_0 = u3
            generalize hu5 : Value.slice qa_1 ka_1 ra_1 = u5
            exact ⟨g, u3, u5, ta_2, b21, m21, d21, rfl, hfin⟩
        · skip
          have HBa_3 : Hid (Below w_2.heap.size w_2 (World.alloc va_2 (.cells #[.int .i64 0, .slice none 0 0] 39))) := Lib.hid (HBa_2.out.trans ((alloc_same va_2 (.cells #[.int .i64 0, .slice none 0 0] 39)).mono HBa_2.out.size))
          have HZa : Hid ((World.alloc va_2 (.cells #[.int .i64 0, .slice none 0 0] 39)).heap[va_2.heap.size]? = some (.cells #[.int .i64 0, .slice none 0 0] 39 (0, 0))) := Lib.hid (heap_alloc_new va_2 _)
          have HgZa : Hid (va_2.heap.size < (World.alloc va_2 (.cells #[.int .i64 0, .slice none 0 0] 39)).heap.size) := Lib.hid (by simp)
          replace HNa_0 := Lib.hid (HNa_0.out.same (alloc_same va_2 (.cells #[.int .i64 0, .slice none 0 0] 39)))
          replace HNa_1 := Lib.hid (HNa_1.out.same (alloc_same va_2 (.cells #[.int .i64 0, .slice none 0 0] 39)))
          go_simp
          refine hK.out _ _ ⟨cell_stay CXa.out.1 HBa_3.out, cell_stay CXa.out.2.1 HBa_3.out⟩ (fun hHeld => ?_)
          clear hK K
          try simp only [Act.put, List.setIfInBounds_toArray, List.set_cons_zero, List.set_cons_succ]
          refine wpAnyH_ready (rs := [5]) (by kernel_rfl) (by simp) (AllReadyH.cons (by simp only [List.getElem?_toArray, List.getElem?_cons_succ, List.getElem?_cons_zero]; rfl) (fun K hK => ?_) AllReadyH.nil)
          go_simp
          refine (toHello_any (HK2.out.same (HB.out.trans (HBa_3.out.mono HB.out.size))) (by omega)).mono ?_
          rintro e va_4 ⟨ta_2, rfl, ho, hb⟩
          have HBa_4 : Hid (Below w_2.heap.size w_2 va_4) := Lib.hid (HBa_3.out.trans (hb.mono HBa_3.out.size))
          replace HNa_0 := Lib.hid (HNa_0.out.same hb)
          replace HNa_1 := Lib.hid (HNa_1.out.same hb)
          replace HZa := Lib.hid ((hb.block _ (by have := HgZa.out; omega)).trans HZa.out)
          replace HgZa := Lib.hid (Nat.lt_of_lt_of_le HgZa.out hb.size)
          have HNa_2 := Lib.hid ho.hel
          clear ho
          clear hb
          go_wp2_with fail
          refine hK.out _ _ ⟨cell_stay CXa.out.1 HBa_4.out, cell_stay CXa.out.2.1 HBa_4.out⟩ (fun hHeld => ?_)
          clear hK K
          try simp only [Act.put, List.setIfInBounds_toArray, List.set_cons_zero, List.set_cons_succ]
          refine wpAnyH_ready (rs := [6]) (by kernel_rfl) (by simp) (AllReadyH.cons (by simp only [List.getElem?_toArray, List.getElem?_cons_succ, List.getElem?_cons_zero]; rfl) (fun K hK => ?_) AllReadyH.nil)
          go_simp
          have HgLa := HgZa
          refine (specChooseAnswer_any HNa_0.out HNa_1.out HNa_2.out HF1.out (by omega) (by omega)).mono ?_
          rintro e va_5 ⟨v21, rfl, ho, hb⟩
          have HBa_5 : Hid (Below w_2.heap.size w_2 va_5) := Lib.hid (HBa_4.out.trans (hb.mono HBa_4.out.size))
          obtain ⟨b21, m21, d21, rfl⟩ := ho.shape
          have HwVa := Lib.hid hb.size
          have HgPa : Hid (w_2.heap.size ≤ va_2.heap.size) := Lib.hid (HBa_2.out.size)
          replace HZa := Lib.hid ((hb.block _ HgZa.out).trans HZa.out)
          have HoFa := Lib.hid ho
          clear ho hb
          go_wp2_with fail
          refine hK.out _ _ ⟨cell_stay CXa.out.1 HBa_5.out, cell_stay CXa.out.2.1 HBa_5.out⟩ (fun hHeld => ?_)
          clear hK K
          try simp only [Act.put, List.setIfInBounds_toArray, List.set_cons_zero, List.set_cons_succ]
          refine wpAnyH_take (i := 7) (v := ?v12) (by simp only [List.getElem?_toArray, List.getElem?_cons_succ, List.getElem?_cons_zero]; rfl) (by kernel_rfl) (by kernel_rfl) (by kernel_rfl) (by exact fun _ _ _ h => h) (Or.inl ⟨by rfl, fun w9 hS9 => ?hy12⟩) hHeld ?rest12
          case hy12 =>
            dsimp only at hS9
            obtain ⟨y0, y1⟩ := hS9
            go_simp
            try with_reducible rfl
          try simp only [Act.put, List.setIfInBounds_toArray, List.set_cons_zero, List.set_cons_succ]
          refine wpAnyH_take (i := 8) (v := ?v13) (by simp only [List.getElem?_toArray, List.getElem?_cons_succ, List.getElem?_cons_zero]; rfl) (by kernel_rfl) (by kernel_rfl) (by kernel_rfl) (by exact fun _ _ _ h => h) (Or.inl ⟨by rfl, fun w9 hS9 => ?hy13⟩) hHeld ?rest13
          case hy13 =>
            dsimp only at hS9
            obtain ⟨y0, y1⟩ := hS9
            go_simp
            try with_reducible rfl
          try simp only [Act.put, List.setIfInBounds_toArray, List.set_cons_zero, List.set_cons_succ]
          refine wpAnyH_take (i := 9) (v := ?v14) (by simp only [List.getElem?_toArray, List.getElem?_cons_succ, List.getElem?_cons_zero]; rfl) (by kernel_rfl) (by kernel_rfl) (by kernel_rfl) (by exact fun _ _ _ h => h) (Or.inl ⟨by rfl, fun w9 hS9 => ?hy14⟩) hHeld ?rest14
          case hy14 =>
            dsimp only at hS9
            obtain ⟨y0, y1⟩ := hS9
            go_simp
            try with_reducible rfl
          try simp only [Act.put, List.setIfInBounds_toArray, List.set_cons_zero, List.set_cons_succ]
          refine wpAnyH_ready (rs := [11]) (by kernel_rfl) (by simp) (AllReadyH.cons (by simp only [List.getElem?_toArray, List.getElem?_cons_succ, List.getElem?_cons_zero]; rfl) (fun K hK => ?_) AllReadyH.nil)
          have HRa := Lib.hid (chR_store (pw := w_2) (w := va_4) (L := chAns l0 l1 x2) HBa_5.out HgPa.out HZa.out HgLa.out HwVa.out HoFa.out)
          have HBa_6 : Hid (Below w_2.heap.size w_2 ((va_5.setCell ⟨va_2.heap.size, 0, none⟩ (.int .i64 (chAns l0 l1 x2).ver)).setCell ⟨va_2.heap.size, 1, none⟩ (.slice b21 m21 d21))) := Lib.hid HRa.out.1
          obtain ⟨m0, m1, q0, q1⟩ := two_cells HZa.out
          obtain ⟨z0, z1, -⟩ := two_put HZa.out (.int .i64 (chAns l0 l1 x2).ver) (.slice b21 m21 d21)
          go_simp
          refine hK.out _ _ ⟨cell_stay CXa.out.1 HBa_6.out, cell_stay CXa.out.2.1 HBa_6.out⟩ (fun hHeld => ?_)
          clear hK K
          try simp only [Act.put, List.setIfInBounds_toArray, List.set_cons_zero, List.set_cons_succ]
          refine wpAnyH_take (i := 12) (v := ?v15) (by simp only [List.getElem?_toArray, List.getElem?_cons_succ, List.getElem?_cons_zero]; rfl) (by kernel_rfl) (by kernel_rfl) (by kernel_rfl) (by exact fun _ _ _ h => h) (Or.inl ⟨by rfl, fun w9 hS9 => ?hy15⟩) hHeld ?rest15
          case hy15 =>
            dsimp only at hS9
            obtain ⟨y0, y1⟩ := hS9
            go_simp
            try with_reducible rfl
          try simp only [Act.put, List.setIfInBounds_toArray, List.set_cons_zero, List.set_cons_succ]
          refine wpAnyH_done (by kernel_rfl) ?_ _
          have HR := HRa
          have hfin : ChR w_2 (chAns l0 l1 x2) va_2.heap.size b21 m21 d21 _ := HR.out
          generalize va_2.heap.size = g at hfin ⊢
          generalize hu3 : Value.slice qa_0 ka_0 ra_0 = u3
          generalize hu5 : Value.slice qa_1 ka_1 ra_1 = u5
          exact ⟨g, u3, u5, ta_2, b21, m21, d21, rfl, hfin⟩
      · skip
        have HBa_2 : Hid (Below w_2.heap.size w_2 (World.alloc va_1 (.cells #[.int .i64 0, .slice none 0 0] 39))) := Lib.hid (HBa_1.out.trans ((alloc_same va_1 (.cells #[.int .i64 0, .slice none 0 0] 39)).mono HBa_1.out.size))
        have HZa : Hid ((World.alloc va_1 (.cells #[.int .i64 0, .slice none 0 0] 39)).heap[va_1.heap.size]? = some (.cells #[.int .i64 0, .slice none 0 0] 39 (0, 0))) := Lib.hid (heap_alloc_new va_1 _)
        have HgZa : Hid (va_1.heap.size < (World.alloc va_1 (.cells #[.int .i64 0, .slice none 0 0] 39)).heap.size) := Lib.hid (by simp)
        replace HNa_0 := Lib.hid (HNa_0.out.same (alloc_same va_1 (.cells #[.int .i64 0, .slice none 0 0] 39)))
        go_simp
        refine hK.out _ _ ⟨cell_stay CXa.out.1 HBa_2.out, cell_stay CXa.out.2.1 HBa_2.out⟩ (fun hHeld => ?_)
        clear hK K
        try simp only [Act.put, List.setIfInBounds_toArray, List.set_cons_zero, List.set_cons_succ]
        refine wpAnyH_ready (rs := [3]) (by kernel_rfl) (by simp) (AllReadyH.cons (by simp only [List.getElem?_toArray, List.getElem?_cons_succ, List.getElem?_cons_zero]; rfl) (fun K hK => ?_) AllReadyH.nil)
        go_simp
        refine (toIntS_any a1 n1 c1 l1 _ (HK1.out.same (HB.out.trans (HBa_2.out.mono HB.out.size))) (by omega)).mono ?_
        rintro e va_3 ⟨qa_1, ka_1, ra_1, rfl, ho, hb⟩
        have HBa_3 : Hid (Below w_2.heap.size w_2 va_3) := Lib.hid (HBa_2.out.trans (hb.mono HBa_2.out.size))
        replace HNa_0 := Lib.hid (HNa_0.out.same hb)
        replace HZa := Lib.hid ((hb.block _ (by have := HgZa.out; omega)).trans HZa.out)
        replace HgZa := Lib.hid (Nat.lt_of_lt_of_le HgZa.out hb.size)
        have hkla_1 : ka_1 ≤ 1048576 := by have hl := ho.len; have := HK1.out.len; omega
        have HNa_1 := Lib.hid ho.nums
        clear ho
        clear hb
        go_wp2_with fail
        refine hK.out _ _ ⟨cell_stay CXa.out.1 HBa_3.out, cell_stay CXa.out.2.1 HBa_3.out⟩ (fun hHeld => ?_)
        clear hK K
        try simp only [Act.put, List.setIfInBounds_toArray, List.set_cons_zero, List.set_cons_succ]
        refine wpAnyH_ready (rs := [5]) (by kernel_rfl) (by simp) (AllReadyH.cons (by simp only [List.getElem?_toArray, List.getElem?_cons_succ, List.getElem?_cons_zero]; rfl) (fun K hK => ?_) AllReadyH.nil)
        go_simp
        refine (toHello_any (HK2.out.same (HB.out.trans (HBa_3.out.mono HB.out.size))) (by omega)).mono ?_
        rintro e va_4 ⟨ta_2, rfl, ho, hb⟩
        have HBa_4 : Hid (Below w_2.heap.size w_2 va_4) := Lib.hid (HBa_3.out.trans (hb.mono HBa_3.out.size))
        replace HNa_0 := Lib.hid (HNa_0.out.same hb)
        replace HNa_1 := Lib.hid (HNa_1.out.same hb)
        replace HZa := Lib.hid ((hb.block _ (by have := HgZa.out; omega)).trans HZa.out)
        replace HgZa := Lib.hid (Nat.lt_of_lt_of_le HgZa.out hb.size)
        have HNa_2 := Lib.hid ho.hel
        clear ho
        clear hb
        go_wp2_with fail
        refine hK.out _ _ ⟨cell_stay CXa.out.1 HBa_4.out, cell_stay CXa.out.2.1 HBa_4.out⟩ (fun hHeld => ?_)
        clear hK K
        try simp only [Act.put, List.setIfInBounds_toArray, List.set_cons_zero, List.set_cons_succ]
        refine wpAnyH_ready (rs := [6]) (by kernel_rfl) (by simp) (AllReadyH.cons (by simp only [List.getElem?_toArray, List.getElem?_cons_succ, List.getElem?_cons_zero]; rfl) (fun K hK => ?_) AllReadyH.nil)
        go_simp
        have HgLa := HgZa
        refine (specChooseAnswer_any HNa_0.out HNa_1.out HNa_2.out HF1.out (by omega) (by omega)).mono ?_
        rintro e va_5 ⟨v21, rfl, ho, hb⟩
        have HBa_5 : Hid (Below w_2.heap.size w_2 va_5) := Lib.hid (HBa_4.out.trans (hb.mono HBa_4.out.size))
        obtain ⟨b21, m21, d21, rfl⟩ := ho.shape
        have HwVa := Lib.hid hb.size
        have HgPa : Hid (w_2.heap.size ≤ va_1.heap.size) := Lib.hid (HBa_1.out.size)
        replace HZa := Lib.hid ((hb.block _ HgZa.out).trans HZa.out)
        have HoFa := Lib.hid ho
        clear ho hb
        go_wp2_with fail
        refine hK.out _ _ ⟨cell_stay CXa.out.1 HBa_5.out, cell_stay CXa.out.2.1 HBa_5.out⟩ (fun hHeld => ?_)
        clear hK K
        try simp only [Act.put, List.setIfInBounds_toArray, List.set_cons_zero, List.set_cons_succ]
        refine wpAnyH_take (i := 7) (v := ?v16) (by simp only [List.getElem?_toArray, List.getElem?_cons_succ, List.getElem?_cons_zero]; rfl) (by kernel_rfl) (by kernel_rfl) (by kernel_rfl) (by exact fun _ _ _ h => h) (Or.inl ⟨by rfl, fun w9 hS9 => ?hy16⟩) hHeld ?rest16
        case hy16 =>
          dsimp only at hS9
          obtain ⟨y0, y1⟩ := hS9
          go_simp
          try with_reducible rfl
        try simp only [Act.put, List.setIfInBounds_toArray, List.set_cons_zero, List.set_cons_succ]
        refine wpAnyH_take (i := 8) (v := ?v17) (by simp only [List.getElem?_toArray, List.getElem?_cons_succ, List.getElem?_cons_zero]; rfl) (by kernel_rfl) (by kernel_rfl) (by kernel_rfl) (by exact fun _ _ _ h => h) (Or.inl ⟨by rfl, fun w9 hS9 => ?hy17⟩) hHeld ?rest17
        case hy17 =>
          dsimp only at hS9
          obtain ⟨y0, y1⟩ := hS9
          go_simp
          try with_reducible rfl
        try simp only [Act.put, List.setIfInBounds_toArray, List.set_cons_zero, List.set_cons_succ]
        refine wpAnyH_take (i := 9) (v := ?v18) (by simp only [List.getElem?_toArray, List.getElem?_cons_succ, List.getElem?_cons_zero]; rfl) (by kernel_rfl) (by kernel_rfl) (by kernel_rfl) (by exact fun _ _ _ h => h) (Or.inl ⟨by rfl, fun w9 hS9 => ?hy18⟩) hHeld ?rest18
        case hy18 =>
          dsimp only at hS9
          obtain ⟨y0, y1⟩ := hS9
          go_simp
          try with_reducible rfl
        try simp only [Act.put, List.setIfInBounds_toArray, List.set_cons_zero, List.set_cons_succ]
        refine wpAnyH_ready (rs := [11]) (by kernel_rfl) (by simp) (AllReadyH.cons (by simp only [List.getElem?_toArray, List.getElem?_cons_succ, List.getElem?_cons_zero]; rfl) (fun K hK => ?_) AllReadyH.nil)
        have HRa := Lib.hid (chR_store (pw := w_2) (w := va_4) (L := chAns l0 l1 x2) HBa_5.out HgPa.out HZa.out HgLa.out HwVa.out HoFa.out)
        have HBa_6 : Hid (Below w_2.heap.size w_2 ((va_5.setCell ⟨va_1.heap.size, 0, none⟩ (.int .i64 (chAns l0 l1 x2).ver)).setCell ⟨va_1.heap.size, 1, none⟩ (.slice b21 m21 d21))) := Lib.hid HRa.out.1
        obtain ⟨m0, m1, q0, q1⟩ := two_cells HZa.out
        obtain ⟨z0, z1, -⟩ := two_put HZa.out (.int .i64 (chAns l0 l1 x2).ver) (.slice b21 m21 d21)
        go_simp
        refine hK.out _ _ ⟨cell_stay CXa.out.1 HBa_6.out, cell_stay CXa.out.2.1 HBa_6.out⟩ (fun hHeld => ?_)
        clear hK K
        try simp only [Act.put, List.setIfInBounds_toArray, List.set_cons_zero, List.set_cons_succ]
        refine wpAnyH_take (i := 12) (v := ?v19) (by simp only [List.getElem?_toArray, List.getElem?_cons_succ, List.getElem?_cons_zero]; rfl) (by kernel_rfl) (by kernel_rfl) (by kernel_rfl) (by exact fun _ _ _ h => h) (Or.inl ⟨by rfl, fun w9 hS9 => ?hy19⟩) hHeld ?rest19
        case hy19 =>
          dsimp only at hS9
          obtain ⟨y0, y1⟩ := hS9
          go_simp
          try with_reducible rfl
        try simp only [Act.put, List.setIfInBounds_toArray, List.set_cons_zero, List.set_cons_succ]
        refine wpAnyH_done (by kernel_rfl) ?_ _
        have HR := HRa
        have hfin : ChR w_2 (chAns l0 l1 x2) va_1.heap.size b21 m21 d21 _ := HR.out
        generalize va_1.heap.size = g at hfin ⊢
        generalize hu3 : Value.slice qa_0 ka_0 ra_0 = u3
        generalize hu5 : Value.slice qa_1 ka_1 ra_1 = u5
        exact ⟨g, u3, u5, ta_2, b21, m21, d21, rfl, hfin⟩
    · skip
      have HBa_1 : Hid (Below w_2.heap.size w_2 (World.alloc w_2 (.cells #[.int .i64 0, .slice none 0 0] 39)).drew) := Lib.hid (alloc_same w_2 (.cells #[.int .i64 0, .slice none 0 0] 39)).drew
      have HZa : Hid ((World.alloc w_2 (.cells #[.int .i64 0, .slice none 0 0] 39)).drew.heap[w_2.heap.size]? = some (.cells #[.int .i64 0, .slice none 0 0] 39 (0, 0))) := Lib.hid (heap_alloc_new w_2 _)
      have HgZa : Hid (w_2.heap.size < (World.alloc w_2 (.cells #[.int .i64 0, .slice none 0 0] 39)).drew.heap.size) := Lib.hid (by simp)
      go_simp
      refine hK.out _ _ ⟨cell_stay CXa.out.1 HBa_1.out, cell_stay CXa.out.2.1 HBa_1.out⟩ (fun hHeld => ?_)
      clear hK K
      try simp only [Act.put, List.setIfInBounds_toArray, List.set_cons_zero, List.set_cons_succ]
      refine wpAnyH_ready (rs := [1]) (by kernel_rfl) (by simp) (AllReadyH.cons (by simp only [List.getElem?_toArray, List.getElem?_cons_succ, List.getElem?_cons_zero]; rfl) (fun K hK => ?_) AllReadyH.nil)
      go_simp
      refine (toIntS_any a0 n0 c0 l0 _ (HK0.out.same (HB.out.trans (HBa_1.out.mono HB.out.size))) (by omega)).mono ?_
      rintro e va_2 ⟨qa_0, ka_0, ra_0, rfl, ho, hb⟩
      have HBa_2 : Hid (Below w_2.heap.size w_2 va_2) := Lib.hid (HBa_1.out.trans (hb.mono HBa_1.out.size))
      replace HZa := Lib.hid ((hb.block _ (by have := HgZa.out; omega)).trans HZa.out)
      replace HgZa := Lib.hid (Nat.lt_of_lt_of_le HgZa.out hb.size)
      have hkla_0 : ka_0 ≤ 1048576 := by have hl := ho.len; have := HK0.out.len; omega
      have HNa_0 := Lib.hid ho.nums
      clear ho
      clear hb
      go_wp2_with fail
      refine hK.out _ _ ⟨cell_stay CXa.out.1 HBa_2.out, cell_stay CXa.out.2.1 HBa_2.out⟩ (fun hHeld => ?_)
      clear hK K
      try simp only [Act.put, List.setIfInBounds_toArray, List.set_cons_zero, List.set_cons_succ]
      refine wpAnyH_ready (rs := [3]) (by kernel_rfl) (by simp) (AllReadyH.cons (by simp only [List.getElem?_toArray, List.getElem?_cons_succ, List.getElem?_cons_zero]; rfl) (fun K hK => ?_) AllReadyH.nil)
      go_simp
      refine (toIntS_any a1 n1 c1 l1 _ (HK1.out.same (HB.out.trans (HBa_2.out.mono HB.out.size))) (by omega)).mono ?_
      rintro e va_3 ⟨qa_1, ka_1, ra_1, rfl, ho, hb⟩
      have HBa_3 : Hid (Below w_2.heap.size w_2 va_3) := Lib.hid (HBa_2.out.trans (hb.mono HBa_2.out.size))
      replace HNa_0 := Lib.hid (HNa_0.out.same hb)
      replace HZa := Lib.hid ((hb.block _ (by have := HgZa.out; omega)).trans HZa.out)
      replace HgZa := Lib.hid (Nat.lt_of_lt_of_le HgZa.out hb.size)
      have hkla_1 : ka_1 ≤ 1048576 := by have hl := ho.len; have := HK1.out.len; omega
      have HNa_1 := Lib.hid ho.nums
      clear ho
      clear hb
      go_wp2_with fail
      refine hK.out _ _ ⟨cell_stay CXa.out.1 HBa_3.out, cell_stay CXa.out.2.1 HBa_3.out⟩ (fun hHeld => ?_)
      clear hK K
      try simp only [Act.put, List.setIfInBounds_toArray, List.set_cons_zero, List.set_cons_succ]
      refine wpAnyH_ready (rs := [5]) (by kernel_rfl) (by simp) (AllReadyH.cons (by simp only [List.getElem?_toArray, List.getElem?_cons_succ, List.getElem?_cons_zero]; rfl) (fun K hK => ?_) AllReadyH.nil)
      go_simp
      refine (toHello_any (HK2.out.same (HB.out.trans (HBa_3.out.mono HB.out.size))) (by omega)).mono ?_
      rintro e va_4 ⟨ta_2, rfl, ho, hb⟩
      have HBa_4 : Hid (Below w_2.heap.size w_2 va_4) := Lib.hid (HBa_3.out.trans (hb.mono HBa_3.out.size))
      replace HNa_0 := Lib.hid (HNa_0.out.same hb)
      replace HNa_1 := Lib.hid (HNa_1.out.same hb)
      replace HZa := Lib.hid ((hb.block _ (by have := HgZa.out; omega)).trans HZa.out)
      replace HgZa := Lib.hid (Nat.lt_of_lt_of_le HgZa.out hb.size)
      have HNa_2 := Lib.hid ho.hel
      clear ho
      clear hb
      go_wp2_with fail
      refine hK.out _ _ ⟨cell_stay CXa.out.1 HBa_4.out, cell_stay CXa.out.2.1 HBa_4.out⟩ (fun hHeld => ?_)
      clear hK K
      try simp only [Act.put, List.setIfInBounds_toArray, List.set_cons_zero, List.set_cons_succ]
      refine wpAnyH_ready (rs := [6]) (by kernel_rfl) (by simp) (AllReadyH.cons (by simp only [List.getElem?_toArray, List.getElem?_cons_succ, List.getElem?_cons_zero]; rfl) (fun K hK => ?_) AllReadyH.nil)
      go_simp
      have HgLa := HgZa
      refine (specChooseAnswer_any HNa_0.out HNa_1.out HNa_2.out HF1.out (by omega) (by omega)).mono ?_
      rintro e va_5 ⟨v21, rfl, ho, hb⟩
      have HBa_5 : Hid (Below w_2.heap.size w_2 va_5) := Lib.hid (HBa_4.out.trans (hb.mono HBa_4.out.size))
      obtain ⟨b21, m21, d21, rfl⟩ := ho.shape
      have HwVa := Lib.hid hb.size
      have HgPa : Hid (w_2.heap.size ≤ w_2.heap.size) := Lib.hid (Nat.le_refl _)
      replace HZa := Lib.hid ((hb.block _ HgZa.out).trans HZa.out)
      have HoFa := Lib.hid ho
      clear ho hb
      go_wp2_with fail
      refine hK.out _ _ ⟨cell_stay CXa.out.1 HBa_5.out, cell_stay CXa.out.2.1 HBa_5.out⟩ (fun hHeld => ?_)
      clear hK K
      try simp only [Act.put, List.setIfInBounds_toArray, List.set_cons_zero, List.set_cons_succ]
      refine wpAnyH_take (i := 7) (v := ?v20) (by simp only [List.getElem?_toArray, List.getElem?_cons_succ, List.getElem?_cons_zero]; rfl) (by kernel_rfl) (by kernel_rfl) (by kernel_rfl) (by exact fun _ _ _ h => h) (Or.inl ⟨by rfl, fun w9 hS9 => ?hy20⟩) hHeld ?rest20
      case hy20 =>
        dsimp only at hS9
        obtain ⟨y0, y1⟩ := hS9
        go_simp
        try with_reducible rfl
      try simp only [Act.put, List.setIfInBounds_toArray, List.set_cons_zero, List.set_cons_succ]
      refine wpAnyH_take (i := 8) (v := ?v21) (by simp only [List.getElem?_toArray, List.getElem?_cons_succ, List.getElem?_cons_zero]; rfl) (by kernel_rfl) (by kernel_rfl) (by kernel_rfl) (by exact fun _ _ _ h => h) (Or.inl ⟨by rfl, fun w9 hS9 => ?hy21⟩) hHeld ?rest21
      case hy21 =>
        dsimp only at hS9
        obtain ⟨y0, y1⟩ := hS9
        go_simp
        try with_reducible rfl
      try simp only [Act.put, List.setIfInBounds_toArray, List.set_cons_zero, List.set_cons_succ]
      refine wpAnyH_take (i := 9) (v := ?v22) (by simp only [List.getElem?_toArray, List.getElem?_cons_succ, List.getElem?_cons_zero]; rfl) (by kernel_rfl) (by kernel_rfl) (by kernel_rfl) (by exact fun _ _ _ h => h) (Or.inl ⟨by rfl, fun w9 hS9 => ?hy22⟩) hHeld ?rest22
      case hy22 =>
        dsimp only at hS9
        obtain ⟨y0, y1⟩ := hS9
        go_simp
        try with_reducible rfl
      try simp only [Act.put, List.setIfInBounds_toArray, List.set_cons_zero, List.set_cons_succ]
      refine wpAnyH_ready (rs := [11]) (by kernel_rfl) (by simp) (AllReadyH.cons (by simp only [List.getElem?_toArray, List.getElem?_cons_succ, List.getElem?_cons_zero]; rfl) (fun K hK => ?_) AllReadyH.nil)
      have HRa := Lib.hid (chR_store (pw := w_2) (w := va_4) (L := chAns l0 l1 x2) HBa_5.out HgPa.out HZa.out HgLa.out HwVa.out HoFa.out)
      have HBa_6 : Hid (Below w_2.heap.size w_2 ((va_5.setCell ⟨w_2.heap.size, 0, none⟩ (.int .i64 (chAns l0 l1 x2).ver)).setCell ⟨w_2.heap.size, 1, none⟩ (.slice b21 m21 d21))) := Lib.hid HRa.out.1
      obtain ⟨m0, m1, q0, q1⟩ := two_cells HZa.out
      obtain ⟨z0, z1, -⟩ := two_put HZa.out (.int .i64 (chAns l0 l1 x2).ver) (.slice b21 m21 d21)
      go_simp
      refine hK.out _ _ ⟨cell_stay CXa.out.1 HBa_6.out, cell_stay CXa.out.2.1 HBa_6.out⟩ (fun hHeld => ?_)
      clear hK K
      try simp only [Act.put, List.setIfInBounds_toArray, List.set_cons_zero, List.set_cons_succ]
      refine wpAnyH_take (i := 12) (v := ?v23) (by simp only [List.getElem?_toArray, List.getElem?_cons_succ, List.getElem?_cons_zero]; rfl) (by kernel_rfl) (by kernel_rfl) (by kernel_rfl) (by exact fun _ _ _ h => h) (Or.inl ⟨by rfl, fun w9 hS9 => ?hy23⟩) hHeld ?rest23
      case hy23 =>
        dsimp only at hS9
        obtain ⟨y0, y1⟩ := hS9
        go_simp
        try with_reducible rfl
      try simp only [Act.put, List.setIfInBounds_toArray, List.set_cons_zero, List.set_cons_succ]
      refine wpAnyH_done (by kernel_rfl) ?_ _
      have HR := HRa
      have hfin : ChR w_2 (chAns l0 l1 x2) w_2.heap.size b21 m21 d21 _ := HR.out
      generalize w_2.heap.size = g at hfin ⊢
      generalize hu3 : Value.slice qa_0 ka_0 ra_0 = u3
      generalize hu5 : Value.slice qa_1 ka_1 ra_1 = u5
      exact ⟨g, u3, u5, ta_2, b21, m21, d21, rfl, hfin⟩
  intro ga u3 u5 u7 b21 m21 d21 Wa hR
  obtain ⟨w_3, hwv⟩ : ∃ u, u = Wa := ⟨_, rfl⟩
  subst hwv
  obtain ⟨hb, hbox, hgp, loa, Sa, ho, hlo, hS, hgd⟩ := hR
  have HO21 := Lib.hid ho
  have HXN := Lib.hid hbox
  clear ho hbox
  have hs3 : w_2.heap.size ≤ w_3.heap.size := hb.size
  replace HXp2 := Lib.hid (((hb).block _ (by omega)).trans HXp2.out)
  replace HB := Lib.hid (HB.out.trans (hb.mono HB.out.size))
  clear hb
  have HX21 := HXN
  clear HXN
  obtain ⟨eap2, ebp2, -⟩ := two_cells HXp2.out
  obtain ⟨ea21, eb21, -⟩ := two_cells HX21.out
  go_wp2_with fail
  clear eap2 ebp2 ea21 eb21
  refine (toIntS_any a0 n0 c0 l0 _ (HK0.out.same HB.out) (by omega)).mono ?_
  rintro e w_4 ⟨b22, m22, d22, rfl, ho, hb⟩
  have hm22 : m22 ≤ 1048576 := by have hl := ho.len; have := HK0.out.len; omega
  have HN22 := Lib.hid ho
  have HS22 := Lib.hid ho.span
  have hs4 : w_3.heap.size ≤ w_4.heap.size := hb.size
  replace HO21 := Lib.hid (HO21.out.same hb)
  replace HXp2 := Lib.hid (((hb).block _ (by omega)).trans HXp2.out)
  replace HX21 := Lib.hid (((hb).block _ (by omega)).trans HX21.out)
  replace HB := Lib.hid (HB.out.trans (hb.mono HB.out.size))
  clear ho
  clear hb
  have HO22 := HN22
  clear HN22
  obtain ⟨eap2, ebp2, -⟩ := two_cells HXp2.out
  obtain ⟨ea21, eb21, -⟩ := two_cells HX21.out
  go_wp2_with fail
  clear eap2 ebp2 ea21 eb21
  refine (toIntS_any a1 n1 c1 l1 _ (HK1.out.same HB.out) (by omega)).mono ?_
  rintro e w_5 ⟨b23, m23, d23, rfl, ho, hb⟩
  have hm23 : m23 ≤ 1048576 := by have hl := ho.len; have := HK1.out.len; omega
  have HN23 := Lib.hid ho
  have HS23 := Lib.hid ho.span
  have hs5 : w_4.heap.size ≤ w_5.heap.size := hb.size
  replace HO21 := Lib.hid (HO21.out.same hb)
  replace HO22 := Lib.hid (HO22.out.same hb)
  replace HXp2 := Lib.hid (((hb).block _ (by omega)).trans HXp2.out)
  replace HX21 := Lib.hid (((hb).block _ (by omega)).trans HX21.out)
  replace HB := Lib.hid (HB.out.trans (hb.mono HB.out.size))
  clear ho
  clear hb
  have HO23 := HN23
  clear HN23
  obtain ⟨eap2, ebp2, -⟩ := two_cells HXp2.out
  obtain ⟨ea21, eb21, -⟩ := two_cells HX21.out
  go_wp2_with fail
  clear eap2 ebp2 ea21 eb21
  refine (toHello_any (HK2.out.same HB.out) (by omega)).mono ?_
  rintro e w_6 ⟨v24, rfl, ho, hb⟩
  have HN24 := Lib.hid ho
  have hs6 : w_5.heap.size ≤ w_6.heap.size := hb.size
  replace HO21 := Lib.hid (HO21.out.same hb)
  replace HO22 := Lib.hid (HO22.out.same hb)
  replace HO23 := Lib.hid (HO23.out.same hb)
  replace HXp2 := Lib.hid (((hb).block _ (by omega)).trans HXp2.out)
  replace HX21 := Lib.hid (((hb).block _ (by omega)).trans HX21.out)
  replace HB := Lib.hid (HB.out.trans (hb.mono HB.out.size))
  clear ho
  clear hb
  have HO24 := HN24
  clear HN24
  obtain ⟨a24, n24, c24, b24, m24, d24, rfl⟩ := HO24.out.shape
  have HAL := Lib.hid (alloc_same w_6 (.cells #[.slice a24 n24 c24, .slice b24 m24 d24] 27))
  have HX24 := Lib.hid (heap_alloc_new w_6 (.cells #[.slice a24 n24 c24, .slice b24 m24 d24] 27 (0, 0)))
  change Hid ((World.alloc w_6 (.cells #[.slice a24 n24 c24, .slice b24 m24 d24] 27)).heap[w_6.heap.size]? = _) at HX24
  replace HO21 := Lib.hid (HO21.out.same HAL.out)
  replace HO22 := Lib.hid (HO22.out.same HAL.out)
  replace HO23 := Lib.hid (HO23.out.same HAL.out)
  replace HO24 := Lib.hid (HO24.out.same HAL.out)
  replace HXp2 := Lib.hid (((HAL.out).block _ (by omega)).trans HXp2.out)
  replace HX21 := Lib.hid (((HAL.out).block _ (by omega)).trans HX21.out)
  replace HB := Lib.hid (HB.out.trans (HAL.out.mono HB.out.size))
  have hs7 : w_6.heap.size < (World.alloc w_6 (.cells #[.slice a24 n24 c24, .slice b24 m24 d24] 27)).heap.size := by simp
  obtain ⟨eap2, ebp2, -⟩ := two_cells HXp2.out
  obtain ⟨ea21, eb21, -⟩ := two_cells HX21.out
  obtain ⟨ea24, eb24, -⟩ := two_cells HX24.out
  clear HAL
  go_wp2_with fail
  clear eap2 ebp2 ea21 eb21 ea24 eb24
  generalize hgen : World.alloc w_6 (.cells #[.slice a24 n24 c24, .slice b24 m24 d24] 27) = w_7 at *
  clear hgen
  refine (chooseAnswer_any HO22.out.nums HO23.out.nums HO24.out.hel HF1.out (by omega) (by omega)).mono ?_
  rintro e w_8 ⟨v25, rfl, ho, hb⟩
  have HN25 := Lib.hid ho
  have hs8 : w_7.heap.size ≤ w_8.heap.size := hb.size
  replace HO21 := Lib.hid (HO21.out.same hb)
  replace HO22 := Lib.hid (HO22.out.same hb)
  replace HO23 := Lib.hid (HO23.out.same hb)
  replace HO24 := Lib.hid (HO24.out.same hb)
  replace HXp2 := Lib.hid (((hb).block _ (by omega)).trans HXp2.out)
  replace HX21 := Lib.hid (((hb).block _ (by omega)).trans HX21.out)
  replace HX24 := Lib.hid (((hb).block _ (by omega)).trans HX24.out)
  replace HB := Lib.hid (HB.out.trans (hb.mono HB.out.size))
  clear ho
  clear hb
  have HO25 := HN25
  clear HN25
  obtain ⟨b25, m25, d25, rfl⟩ := HO25.out.shape
  have HAL := Lib.hid (alloc_same w_8 (.cells #[.int .i64 (chAns l0 l1 x2).ver, .slice b25 m25 d25] 39))
  have HX25 := Lib.hid (heap_alloc_new w_8 (.cells #[.int .i64 (chAns l0 l1 x2).ver, .slice b25 m25 d25] 39 (0, 0)))
  change Hid ((World.alloc w_8 (.cells #[.int .i64 (chAns l0 l1 x2).ver, .slice b25 m25 d25] 39)).heap[w_8.heap.size]? = _) at HX25
  replace HO21 := Lib.hid (HO21.out.same HAL.out)
  replace HO22 := Lib.hid (HO22.out.same HAL.out)
  replace HO23 := Lib.hid (HO23.out.same HAL.out)
  replace HO24 := Lib.hid (HO24.out.same HAL.out)
  replace HO25 := Lib.hid (HO25.out.same HAL.out)
  replace HXp2 := Lib.hid (((HAL.out).block _ (by omega)).trans HXp2.out)
  replace HX21 := Lib.hid (((HAL.out).block _ (by omega)).trans HX21.out)
  replace HX24 := Lib.hid (((HAL.out).block _ (by omega)).trans HX24.out)
  replace HB := Lib.hid (HB.out.trans (HAL.out.mono HB.out.size))
  have hs9 : w_8.heap.size < (World.alloc w_8 (.cells #[.int .i64 (chAns l0 l1 x2).ver, .slice b25 m25 d25] 39)).heap.size := by simp
  obtain ⟨eap2, ebp2, -⟩ := two_cells HXp2.out
  obtain ⟨ea21, eb21, -⟩ := two_cells HX21.out
  obtain ⟨ea24, eb24, -⟩ := two_cells HX24.out
  obtain ⟨ea25, eb25, -⟩ := two_cells HX25.out
  clear HAL
  go_wp2_with fail
  clear eap2 ebp2 ea21 eb21 ea24 eb24 ea25 eb25
  generalize hgen : World.alloc w_8 (.cells #[.int .i64 (chAns l0 l1 x2).ver, .slice b25 m25 d25] 39) = w_9 at *
  clear hgen
  refine (eqAnswer_yes HO25.out.ans HO21.out.ans).mono ?_
  rintro e w_10 ⟨rfl, hb⟩
  have hs10 : w_9.heap.size ≤ w_10.heap.size := hb.size
  replace HO21 := Lib.hid (HO21.out.same hb)
  replace HO22 := Lib.hid (HO22.out.same hb)
  replace HO23 := Lib.hid (HO23.out.same hb)
  replace HO24 := Lib.hid (HO24.out.same hb)
  replace HO25 := Lib.hid (HO25.out.same hb)
  replace HXp2 := Lib.hid (((hb).block _ (by omega)).trans HXp2.out)
  replace HX21 := Lib.hid (((hb).block _ (by omega)).trans HX21.out)
  replace HX24 := Lib.hid (((hb).block _ (by omega)).trans HX24.out)
  replace HX25 := Lib.hid (((hb).block _ (by omega)).trans HX25.out)
  replace HB := Lib.hid (HB.out.trans (hb.mono HB.out.size))
  clear hb
  obtain ⟨eap2, ebp2, -⟩ := two_cells HXp2.out
  obtain ⟨ea21, eb21, -⟩ := two_cells HX21.out
  obtain ⟨ea24, eb24, -⟩ := two_cells HX24.out
  obtain ⟨ea25, eb25, -⟩ := two_cells HX25.out
  go_wp2_with fail
  clear eap2 ebp2 ea21 eb21 ea24 eb24 ea25 eb25
  refine (toIntS_any a0 n0 c0 l0 _ (HK0.out.same HB.out) (by omega)).mono ?_
  rintro e w_11 ⟨b26, m26, d26, rfl, ho, hb⟩
  have hm26 : m26 ≤ 1048576 := by have hl := ho.len; have := HK0.out.len; omega
  have HN26 := Lib.hid ho
  have HS26 := Lib.hid ho.span
  have hs11 : w_10.heap.size ≤ w_11.heap.size := hb.size
  replace HO21 := Lib.hid (HO21.out.same hb)
  replace HO22 := Lib.hid (HO22.out.same hb)
  replace HO23 := Lib.hid (HO23.out.same hb)
  replace HO24 := Lib.hid (HO24.out.same hb)
  replace HO25 := Lib.hid (HO25.out.same hb)
  replace HXp2 := Lib.hid (((hb).block _ (by omega)).trans HXp2.out)
  replace HX21 := Lib.hid (((hb).block _ (by omega)).trans HX21.out)
  replace HX24 := Lib.hid (((hb).block _ (by omega)).trans HX24.out)
  replace HX25 := Lib.hid (((hb).block _ (by omega)).trans HX25.out)
  replace HB := Lib.hid (HB.out.trans (hb.mono HB.out.size))
  clear ho
  clear hb
  have HO26 := HN26
  clear HN26
  obtain ⟨eap2, ebp2, -⟩ := two_cells HXp2.out
  obtain ⟨ea21, eb21, -⟩ := two_cells HX21.out
  obtain ⟨ea24, eb24, -⟩ := two_cells HX24.out
  obtain ⟨ea25, eb25, -⟩ := two_cells HX25.out
  go_wp2_with fail
  clear eap2 ebp2 ea21 eb21 ea24 eb24 ea25 eb25
  refine (eqIntS_yes b22 b26 m22 m26 d22 d26 _ _ HO22.out.nums HO26.out.nums).mono ?_
  rintro e w_12 ⟨rfl, hb⟩
  have hs12 : w_11.heap.size ≤ w_12.heap.size := hb.size
  replace HO21 := Lib.hid (HO21.out.same hb)
  replace HO22 := Lib.hid (HO22.out.same hb)
  replace HO23 := Lib.hid (HO23.out.same hb)
  replace HO24 := Lib.hid (HO24.out.same hb)
  replace HO25 := Lib.hid (HO25.out.same hb)
  replace HO26 := Lib.hid (HO26.out.same hb)
  replace HXp2 := Lib.hid (((hb).block _ (by omega)).trans HXp2.out)
  replace HX21 := Lib.hid (((hb).block _ (by omega)).trans HX21.out)
  replace HX24 := Lib.hid (((hb).block _ (by omega)).trans HX24.out)
  replace HX25 := Lib.hid (((hb).block _ (by omega)).trans HX25.out)
  replace HB := Lib.hid (HB.out.trans (hb.mono HB.out.size))
  clear hb
  clear HO26
  obtain ⟨eap2, ebp2, -⟩ := two_cells HXp2.out
  obtain ⟨ea21, eb21, -⟩ := two_cells HX21.out
  obtain ⟨ea24, eb24, -⟩ := two_cells HX24.out
  obtain ⟨ea25, eb25, -⟩ := two_cells HX25.out
  go_wp2_with fail
  clear eap2 ebp2 ea21 eb21 ea24 eb24 ea25 eb25
  refine (toIntS_any a1 n1 c1 l1 _ (HK1.out.same HB.out) (by omega)).mono ?_
  rintro e w_13 ⟨b27, m27, d27, rfl, ho, hb⟩
  have hm27 : m27 ≤ 1048576 := by have hl := ho.len; have := HK1.out.len; omega
  have HN27 := Lib.hid ho
  have HS27 := Lib.hid ho.span
  have hs13 : w_12.heap.size ≤ w_13.heap.size := hb.size
  replace HO21 := Lib.hid (HO21.out.same hb)
  replace HO22 := Lib.hid (HO22.out.same hb)
  replace HO23 := Lib.hid (HO23.out.same hb)
  replace HO24 := Lib.hid (HO24.out.same hb)
  replace HO25 := Lib.hid (HO25.out.same hb)
  replace HXp2 := Lib.hid (((hb).block _ (by omega)).trans HXp2.out)
  replace HX21 := Lib.hid (((hb).block _ (by omega)).trans HX21.out)
  replace HX24 := Lib.hid (((hb).block _ (by omega)).trans HX24.out)
  replace HX25 := Lib.hid (((hb).block _ (by omega)).trans HX25.out)
  replace HB := Lib.hid (HB.out.trans (hb.mono HB.out.size))
  clear ho
  clear hb
  have HO27 := HN27
  clear HN27
  obtain ⟨eap2, ebp2, -⟩ := two_cells HXp2.out
  obtain ⟨ea21, eb21, -⟩ := two_cells HX21.out
  obtain ⟨ea24, eb24, -⟩ := two_cells HX24.out
  obtain ⟨ea25, eb25, -⟩ := two_cells HX25.out
  go_wp2_with fail
  clear eap2 ebp2 ea21 eb21 ea24 eb24 ea25 eb25
  refine (eqIntS_yes b23 b27 m23 m27 d23 d27 _ _ HO23.out.nums HO27.out.nums).mono ?_
  rintro e w_14 ⟨rfl, hb⟩
  have hs14 : w_13.heap.size ≤ w_14.heap.size := hb.size
  replace HO21 := Lib.hid (HO21.out.same hb)
  replace HO22 := Lib.hid (HO22.out.same hb)
  replace HO23 := Lib.hid (HO23.out.same hb)
  replace HO24 := Lib.hid (HO24.out.same hb)
  replace HO25 := Lib.hid (HO25.out.same hb)
  replace HO27 := Lib.hid (HO27.out.same hb)
  replace HXp2 := Lib.hid (((hb).block _ (by omega)).trans HXp2.out)
  replace HX21 := Lib.hid (((hb).block _ (by omega)).trans HX21.out)
  replace HX24 := Lib.hid (((hb).block _ (by omega)).trans HX24.out)
  replace HX25 := Lib.hid (((hb).block _ (by omega)).trans HX25.out)
  replace HB := Lib.hid (HB.out.trans (hb.mono HB.out.size))
  clear hb
  clear HO27
  obtain ⟨eap2, ebp2, -⟩ := two_cells HXp2.out
  obtain ⟨ea21, eb21, -⟩ := two_cells HX21.out
  obtain ⟨ea24, eb24, -⟩ := two_cells HX24.out
  obtain ⟨ea25, eb25, -⟩ := two_cells HX25.out
  go_wp2_with fail
  clear eap2 ebp2 ea21 eb21 ea24 eb24 ea25 eb25
  have CX24 := Lib.hid (two_cells HX24.out)
  have CXp2 := Lib.hid (two_cells HXp2.out)
  have HBd : Hid (Below w_14.heap.size w_14 w_14.drew) := Lib.hid (Below.refl _ _).drew
  refine wp_region_held_drew (S := fun w9 => w9.cell? ⟨w_6.heap.size, 0, none⟩ = some (.slice a24 n24 c24) ∧ w9.cell? ⟨w_6.heap.size, 1, none⟩ = some (.slice b24 m24 d24) ∧ w9.cell? ⟨w.heap.size, 0, none⟩ = some (.slice a92 n92 c92) ∧ w9.cell? ⟨w.heap.size, 1, none⟩ = some (.slice b92 m92 d92)) (by kernel_rfl) ⟨cell_stay CX24.out.1 HBd.out, cell_stay CX24.out.2.1 HBd.out, cell_stay CXp2.out.1 HBd.out, cell_stay CXp2.out.2.1 HBd.out⟩ (fun hHeld => ?_)
  refine wpAnyH_take (i := 0) (v := ?v2001) (by simp only [List.getElem?_toArray, List.getElem?_cons_succ, List.getElem?_cons_zero]; rfl) (by kernel_rfl) (by kernel_rfl) (by kernel_rfl) (by exact fun _ _ _ h => h) (Or.inl ⟨by rfl, fun w9 hS9 => ?hy2001⟩) hHeld ?rest2001
  case hy2001 =>
    dsimp only at hS9
    obtain ⟨z0, z1, z2, z3⟩ := hS9
    go_simp
    try with_reducible rfl
  try simp only [Act.put, List.setIfInBounds_toArray, List.set_cons_zero, List.set_cons_succ]
  refine wpAnyH_take (i := 1) (v := ?v2002) (by simp only [List.getElem?_toArray, List.getElem?_cons_succ, List.getElem?_cons_zero]; rfl) (by kernel_rfl) (by kernel_rfl) (by kernel_rfl) (by exact fun _ _ _ h => h) (Or.inl ⟨by rfl, fun w9 hS9 => ?hy2002⟩) hHeld ?rest2002
  case hy2002 =>
    dsimp only at hS9
    obtain ⟨z0, z1, z2, z3⟩ := hS9
    go_simp
    try with_reducible rfl
  try simp only [Act.put, List.setIfInBounds_toArray, List.set_cons_zero, List.set_cons_succ]
  refine wpAnyH_ready (rs := [2]) (by kernel_rfl) (by simp) (AllReadyH.cons (by simp only [List.getElem?_toArray, List.getElem?_cons_succ, List.getElem?_cons_zero]; rfl) (fun K hK => ?_) AllReadyH.nil)
  go_simp
  refine (toHello_any (HK2.out.same (HB.out.trans (HBd.out.mono HB.out.size))) (by omega)).mono ?_
  rintro e w1 ⟨b9, rfl, ho1, hb1⟩
  have HB1 : Hid (Below w_14.heap.size w_14 w1) := Lib.hid (HBd.out.trans (hb1.mono HBd.out.size))
  have HO9 := Lib.hid ho1.hel
  clear ho1
  clear hb1
  go_wp2_with fail
  refine hK.out _ _ ⟨cell_stay CX24.out.1 HB1.out, cell_stay CX24.out.2.1 HB1.out, cell_stay CXp2.out.1 HB1.out, cell_stay CXp2.out.2.1 HB1.out⟩ (fun hHeld => ?_)
  clear hK K
  try simp only [Act.put, List.setIfInBounds_toArray, List.set_cons_zero, List.set_cons_succ]
  refine wpAnyH_ready (rs := [3]) (by kernel_rfl) (by simp) (AllReadyH.cons (by simp only [List.getElem?_toArray, List.getElem?_cons_succ, List.getElem?_cons_zero]; rfl) (fun K hK => ?_) AllReadyH.nil)
  go_simp
  refine (eqHello_yes (HO24.out.hel.same HB1.out) HO9.out).mono ?_
  rintro e w2 ⟨rfl, hb2⟩
  have HB2 : Hid (Below w_14.heap.size w_14 w2) := Lib.hid (HB1.out.trans (hb2.mono HB1.out.size))
  clear hb2
  go_wp2_with fail
  refine hK.out _ _ ⟨cell_stay CX24.out.1 HB2.out, cell_stay CX24.out.2.1 HB2.out, cell_stay CXp2.out.1 HB2.out, cell_stay CXp2.out.2.1 HB2.out⟩ (fun hHeld => ?_)
  clear hK K
  try simp only [Act.put, List.setIfInBounds_toArray, List.set_cons_zero, List.set_cons_succ]
  refine wpAnyH_take (i := 4) (v := ?v2003) (by simp only [List.getElem?_toArray, List.getElem?_cons_succ, List.getElem?_cons_zero]; rfl) (by kernel_rfl) (by kernel_rfl) (by kernel_rfl) (by exact fun _ _ _ h => h) (Or.inl ⟨by rfl, fun w9 hS9 => ?hy2003⟩) hHeld ?rest2003
  case hy2003 =>
    dsimp only at hS9
    obtain ⟨z0, z1, z2, z3⟩ := hS9
    go_simp
    try with_reducible rfl
  try simp only [Act.put, List.setIfInBounds_toArray, List.set_cons_zero, List.set_cons_succ]
  refine wpAnyH_done (by kernel_rfl) ?_ _
  obtain ⟨w_15, hwv⟩ : ∃ u, u = w2 := ⟨w2, rfl⟩
  subst hwv
  have hs15 : w_14.heap.size ≤ w_15.heap.size := HB2.out.size
  replace HO21 := Lib.hid (HO21.out.same HB2.out)
  replace HO22 := Lib.hid (HO22.out.same HB2.out)
  replace HO23 := Lib.hid (HO23.out.same HB2.out)
  replace HO24 := Lib.hid (HO24.out.same HB2.out)
  replace HO25 := Lib.hid (HO25.out.same HB2.out)
  replace HXp2 := Lib.hid (((HB2.out).block _ (by omega)).trans HXp2.out)
  replace HX21 := Lib.hid (((HB2.out).block _ (by omega)).trans HX21.out)
  replace HX24 := Lib.hid (((HB2.out).block _ (by omega)).trans HX24.out)
  replace HX25 := Lib.hid (((HB2.out).block _ (by omega)).trans HX25.out)
  replace HB := Lib.hid (HB.out.trans (HB2.out.mono HB.out.size))
  clear CX24 CXp2
  obtain ⟨eap2, ebp2, -⟩ := two_cells HXp2.out
  obtain ⟨ea21, eb21, -⟩ := two_cells HX21.out
  obtain ⟨ea24, eb24, -⟩ := two_cells HX24.out
  obtain ⟨ea25, eb25, -⟩ := two_cells HX25.out
  go_wp2_with fail
  clear eap2 ebp2 ea21 eb21 ea24 eb24 ea25 eb25
  refine (markIntS_any _ b22 m22 d22 (1) l0 _ HO22.out (by omega) (by omega)).mono ?_
  rintro e w_16 ⟨rfl, ho, hg0⟩
  have hg : Inside w_3.heap.size w_4.heap.size w_15 w_16 := Inside.row hg0 fun r e => by obtain ⟨ad, e1, rfl⟩ := block_of e; exact HS22.out ad e1
  have hs16 : w_15.heap.size ≤ w_16.heap.size := hg.size
  replace HO21 := Lib.hid (HO21.out.aside hg (by omega))
  replace HO23 := Lib.hid (HO23.out.aside hg HS23.out (by omega))
  replace HO24 := Lib.hid (HO24.out.aside hg (by omega))
  replace HO25 := Lib.hid (HO25.out.aside hg (by omega))
  replace HXp2 := Lib.hid ((hg.block _ (by omega) (by omega)).trans HXp2.out)
  replace HX21 := Lib.hid ((hg.block _ (by omega) (by omega)).trans HX21.out)
  replace HX24 := Lib.hid ((hg.block _ (by omega) (by omega)).trans HX24.out)
  replace HX25 := Lib.hid ((hg.block _ (by omega) (by omega)).trans HX25.out)
  replace HO22 := Lib.hid ho
  replace HB := Lib.hid (hg.to HB.out (by omega) HB.out.size)
  clear ho hg hg0
  obtain ⟨eap2, ebp2, -⟩ := two_cells HXp2.out
  obtain ⟨ea21, eb21, -⟩ := two_cells HX21.out
  obtain ⟨ea24, eb24, -⟩ := two_cells HX24.out
  obtain ⟨ea25, eb25, -⟩ := two_cells HX25.out
  go_wp2_with fail
  clear eap2 ebp2 ea21 eb21 ea24 eb24 ea25 eb25
  refine (markIntS_any _ b23 m23 d23 (1 + m22) l1 _ HO23.out (by omega) (by omega)).mono ?_
  rintro e w_17 ⟨rfl, ho, hg0⟩
  have hg : Inside w_4.heap.size w_5.heap.size w_16 w_17 := Inside.row hg0 fun r e => by obtain ⟨ad, e1, rfl⟩ := block_of e; exact HS23.out ad e1
  have hs17 : w_16.heap.size ≤ w_17.heap.size := hg.size
  replace HO21 := Lib.hid (HO21.out.aside hg (by omega))
  replace HO22 := Lib.hid (HO22.out.aside hg HS22.out (by omega))
  replace HO24 := Lib.hid (HO24.out.aside hg (by omega))
  replace HO25 := Lib.hid (HO25.out.aside hg (by omega))
  replace HXp2 := Lib.hid ((hg.block _ (by omega) (by omega)).trans HXp2.out)
  replace HX21 := Lib.hid ((hg.block _ (by omega) (by omega)).trans HX21.out)
  replace HX24 := Lib.hid ((hg.block _ (by omega) (by omega)).trans HX24.out)
  replace HX25 := Lib.hid ((hg.block _ (by omega) (by omega)).trans HX25.out)
  replace HO23 := Lib.hid ho
  replace HB := Lib.hid (hg.to HB.out (by omega) HB.out.size)
  clear ho hg hg0
  obtain ⟨eap2, ebp2, -⟩ := two_cells HXp2.out
  obtain ⟨ea21, eb21, -⟩ := two_cells HX21.out
  obtain ⟨ea24, eb24, -⟩ := two_cells HX24.out
  obtain ⟨ea25, eb25, -⟩ := two_cells HX25.out
  go_wp2_with fail
  clear eap2 ebp2 ea21 eb21 ea24 eb24 ea25 eb25
  refine (markHello_any (k := 1 + m22 + m23) HO24.out (by omega) (by omega)).mono ?_
  rintro e w_18 ⟨rfl, ho, hg⟩
  have hs18 : w_17.heap.size ≤ w_18.heap.size := hg.size
  replace HO21 := Lib.hid (HO21.out.aside hg (by omega))
  replace HO22 := Lib.hid (HO22.out.aside hg HS22.out (by omega))
  replace HO23 := Lib.hid (HO23.out.aside hg HS23.out (by omega))
  replace HO25 := Lib.hid (HO25.out.aside hg (by omega))
  replace HXp2 := Lib.hid ((hg.block _ (by omega) (by omega)).trans HXp2.out)
  replace HX21 := Lib.hid ((hg.block _ (by omega) (by omega)).trans HX21.out)
  replace HX24 := Lib.hid ((hg.block _ (by omega) (by omega)).trans HX24.out)
  replace HX25 := Lib.hid ((hg.block _ (by omega) (by omega)).trans HX25.out)
  replace HO24 := Lib.hid ho
  replace HB := Lib.hid (hg.to HB.out (by omega) HB.out.size)
  clear ho hg
  obtain ⟨eap2, ebp2, -⟩ := two_cells HXp2.out
  obtain ⟨ea21, eb21, -⟩ := two_cells HX21.out
  obtain ⟨ea24, eb24, -⟩ := two_cells HX24.out
  obtain ⟨ea25, eb25, -⟩ := two_cells HX25.out
  go_wp2_with fail
  clear eap2 ebp2 ea21 eb21 ea24 eb24 ea25 eb25
  refine (eqAnswer_yes HO25.out.ans HO21.out.ans).mono ?_
  rintro e w_19 ⟨rfl, hb⟩
  have hs19 : w_18.heap.size ≤ w_19.heap.size := hb.size
  replace HO21 := Lib.hid (HO21.out.same hb)
  replace HO22 := Lib.hid (HO22.out.same hb)
  replace HO23 := Lib.hid (HO23.out.same hb)
  replace HO24 := Lib.hid (HO24.out.same hb)
  replace HO25 := Lib.hid (HO25.out.same hb)
  replace HXp2 := Lib.hid (((hb).block _ (by omega)).trans HXp2.out)
  replace HX21 := Lib.hid (((hb).block _ (by omega)).trans HX21.out)
  replace HX24 := Lib.hid (((hb).block _ (by omega)).trans HX24.out)
  replace HX25 := Lib.hid (((hb).block _ (by omega)).trans HX25.out)
  replace HB := Lib.hid (HB.out.trans (hb.mono HB.out.size))
  clear hb
  obtain ⟨eap2, ebp2, -⟩ := two_cells HXp2.out
  obtain ⟨ea21, eb21, -⟩ := two_cells HX21.out
  obtain ⟨ea24, eb24, -⟩ := two_cells HX24.out
  obtain ⟨ea25, eb25, -⟩ := two_cells HX25.out
  go_wp2_with fail
  clear eap2 ebp2 ea21 eb21 ea24 eb24 ea25 eb25
  refine (markAnswer_any (k := 1) HO25.out (by omega) (by omega)).mono ?_
  rintro e w_20 ⟨rfl, ho, hg⟩
  have hs20 : w_19.heap.size ≤ w_20.heap.size := hg.size
  replace HO21 := Lib.hid (HO21.out.aside hg (by omega))
  replace HO22 := Lib.hid (HO22.out.aside hg HS22.out (by omega))
  replace HO23 := Lib.hid (HO23.out.aside hg HS23.out (by omega))
  replace HO24 := Lib.hid (HO24.out.aside hg (by omega))
  replace HXp2 := Lib.hid ((hg.block _ (by omega) (by omega)).trans HXp2.out)
  replace HX21 := Lib.hid ((hg.block _ (by omega) (by omega)).trans HX21.out)
  replace HX24 := Lib.hid ((hg.block _ (by omega) (by omega)).trans HX24.out)
  replace HX25 := Lib.hid ((hg.block _ (by omega) (by omega)).trans HX25.out)
  replace HO25 := Lib.hid ho
  replace HB := Lib.hid (hg.to HB.out (by omega) HB.out.size)
  clear ho hg
  obtain ⟨eap2, ebp2, -⟩ := two_cells HXp2.out
  obtain ⟨ea21, eb21, -⟩ := two_cells HX21.out
  obtain ⟨ea24, eb24, -⟩ := two_cells HX24.out
  obtain ⟨ea25, eb25, -⟩ := two_cells HX25.out
  go_wp2_with fail
  clear eap2 ebp2 ea21 eb21 ea24 eb24 ea25 eb25
  refine (heldAnswer_any (k := 1) (x := (chAns l0 l1 x2)) HO25.out.ans (by omega) (by omega)).mono ?_
  rintro e w_21 ⟨rfl, hb⟩
  have hs21 : w_20.heap.size ≤ w_21.heap.size := hb.size
  replace HO21 := Lib.hid (HO21.out.same hb)
  replace HO22 := Lib.hid (HO22.out.same hb)
  replace HO23 := Lib.hid (HO23.out.same hb)
  replace HO24 := Lib.hid (HO24.out.same hb)
  replace HO25 := Lib.hid (HO25.out.same hb)
  replace HXp2 := Lib.hid (((hb).block _ (by omega)).trans HXp2.out)
  replace HX21 := Lib.hid (((hb).block _ (by omega)).trans HX21.out)
  replace HX24 := Lib.hid (((hb).block _ (by omega)).trans HX24.out)
  replace HX25 := Lib.hid (((hb).block _ (by omega)).trans HX25.out)
  replace HB := Lib.hid (HB.out.trans (hb.mono HB.out.size))
  clear hb
  obtain ⟨eap2, ebp2, -⟩ := two_cells HXp2.out
  obtain ⟨ea21, eb21, -⟩ := two_cells HX21.out
  obtain ⟨ea24, eb24, -⟩ := two_cells HX24.out
  obtain ⟨ea25, eb25, -⟩ := two_cells HX25.out
  go_wp2_with fail
  clear eap2 ebp2 ea21 eb21 ea24 eb24 ea25 eb25
  have CXb := Lib.hid (two_cells HXp2.out)
  have HBdb : Hid (Below w_21.heap.size w_21 w_21.drew) := Lib.hid (Below.refl _ _).drew
  apply ch_cut (ChR w_21 (chAns l0 l1 x2))
  case h =>
    refine wp_region_held_drew (S := fun w9 => w9.cell? ⟨w.heap.size, 0, none⟩ = some (.slice a92 n92 c92) ∧ w9.cell? ⟨w.heap.size, 1, none⟩ = some (.slice b92 m92 d92)) (by kernel_rfl) ⟨cell_stay CXb.out.1 HBdb.out, cell_stay CXb.out.2.1 HBdb.out⟩ (fun hHeld => ?_)
    refine wpAnyH_take (i := 0) (v := ?v24) (by simp only [List.getElem?_toArray, List.getElem?_cons_succ, List.getElem?_cons_zero]; rfl) (by kernel_rfl) (by kernel_rfl) (by kernel_rfl) (by exact fun _ _ _ h => h) (Or.inl ⟨by rfl, fun w9 hS9 => ?hy24⟩) hHeld ?rest24
    case hy24 =>
      dsimp only at hS9
      obtain ⟨y0, y1⟩ := hS9
      go_simp
      try with_reducible rfl
    try simp only [Act.put, List.setIfInBounds_toArray, List.set_cons_zero, List.set_cons_succ]
    refine wpAnyH_take (i := 2) (v := ?v25) (by simp only [List.getElem?_toArray, List.getElem?_cons_succ, List.getElem?_cons_zero]; rfl) (by kernel_rfl) (by kernel_rfl) (by kernel_rfl) (by exact fun _ _ _ h => h) (Or.inl ⟨by rfl, fun w9 hS9 => ?hy25⟩) hHeld ?rest25
    case hy25 =>
      dsimp only at hS9
      obtain ⟨y0, y1⟩ := hS9
      go_simp
      try with_reducible rfl
    try simp only [Act.put, List.setIfInBounds_toArray, List.set_cons_zero, List.set_cons_succ]
    refine wpAnyH_take (i := 4) (v := ?v26) (by simp only [List.getElem?_toArray, List.getElem?_cons_succ, List.getElem?_cons_zero]; rfl) (by kernel_rfl) (by kernel_rfl) (by kernel_rfl) (by exact fun _ _ _ h => h) (Or.inl ⟨by rfl, fun w9 hS9 => ?hy26⟩) hHeld ?rest26
    case hy26 =>
      dsimp only at hS9
      obtain ⟨y0, y1⟩ := hS9
      go_simp
      try with_reducible rfl
    try simp only [Act.put, List.setIfInBounds_toArray, List.set_cons_zero, List.set_cons_succ]
    refine wpAnyH_ready (rs := [1, 10]) (by kernel_rfl) (by simp) (AllReadyH.cons (by simp only [List.getElem?_toArray, List.getElem?_cons_succ, List.getElem?_cons_zero]; rfl) (fun K hK => ?_) (AllReadyH.cons (by simp only [List.getElem?_toArray, List.getElem?_cons_succ, List.getElem?_cons_zero]; rfl) (fun K hK => ?_) AllReadyH.nil))
    · skip
      go_simp
      refine (toIntS_any a0 n0 c0 l0 _ (HK0.out.same (HB.out.trans (HBdb.out.mono HB.out.size))) (by omega)).mono ?_
      rintro e vb_1 ⟨qb_0, kb_0, rb_0, rfl, ho, hb⟩
      have HBb_1 : Hid (Below w_21.heap.size w_21 vb_1) := Lib.hid (HBdb.out.trans (hb.mono HBdb.out.size))
      have hklb_0 : kb_0 ≤ 1048576 := by have hl := ho.len; have := HK0.out.len; omega
      have HNb_0 := Lib.hid ho.nums
      clear ho
      clear hb
      go_wp2_with fail
      refine hK.out _ _ ⟨cell_stay CXb.out.1 HBb_1.out, cell_stay CXb.out.2.1 HBb_1.out⟩ (fun hHeld => ?_)
      clear hK K
      try simp only [Act.put, List.setIfInBounds_toArray, List.set_cons_zero, List.set_cons_succ]
      refine wpAnyH_ready (rs := [3, 10]) (by kernel_rfl) (by simp) (AllReadyH.cons (by simp only [List.getElem?_toArray, List.getElem?_cons_succ, List.getElem?_cons_zero]; rfl) (fun K hK => ?_) (AllReadyH.cons (by simp only [List.getElem?_toArray, List.getElem?_cons_succ, List.getElem?_cons_zero]; rfl) (fun K hK => ?_) AllReadyH.nil))
      · skip
        go_simp
        refine (toIntS_any a1 n1 c1 l1 _ (HK1.out.same (HB.out.trans (HBb_1.out.mono HB.out.size))) (by omega)).mono ?_
        rintro e vb_2 ⟨qb_1, kb_1, rb_1, rfl, ho, hb⟩
        have HBb_2 : Hid (Below w_21.heap.size w_21 vb_2) := Lib.hid (HBb_1.out.trans (hb.mono HBb_1.out.size))
        replace HNb_0 := Lib.hid (HNb_0.out.same hb)
        have hklb_1 : kb_1 ≤ 1048576 := by have hl := ho.len; have := HK1.out.len; omega
        have HNb_1 := Lib.hid ho.nums
        clear ho
        clear hb
        go_wp2_with fail
        refine hK.out _ _ ⟨cell_stay CXb.out.1 HBb_2.out, cell_stay CXb.out.2.1 HBb_2.out⟩ (fun hHeld => ?_)
        clear hK K
        try simp only [Act.put, List.setIfInBounds_toArray, List.set_cons_zero, List.set_cons_succ]
        refine wpAnyH_ready (rs := [5, 10]) (by kernel_rfl) (by simp) (AllReadyH.cons (by simp only [List.getElem?_toArray, List.getElem?_cons_succ, List.getElem?_cons_zero]; rfl) (fun K hK => ?_) (AllReadyH.cons (by simp only [List.getElem?_toArray, List.getElem?_cons_succ, List.getElem?_cons_zero]; rfl) (fun K hK => ?_) AllReadyH.nil))
        · skip
          go_simp
          refine (toHello_any (HK2.out.same (HB.out.trans (HBb_2.out.mono HB.out.size))) (by omega)).mono ?_
          rintro e vb_3 ⟨tb_2, rfl, ho, hb⟩
          have HBb_3 : Hid (Below w_21.heap.size w_21 vb_3) := Lib.hid (HBb_2.out.trans (hb.mono HBb_2.out.size))
          replace HNb_0 := Lib.hid (HNb_0.out.same hb)
          replace HNb_1 := Lib.hid (HNb_1.out.same hb)
          have HNb_2 := Lib.hid ho.hel
          clear ho
          clear hb
          go_wp2_with fail
          refine hK.out _ _ ⟨cell_stay CXb.out.1 HBb_3.out, cell_stay CXb.out.2.1 HBb_3.out⟩ (fun hHeld => ?_)
          clear hK K
          try simp only [Act.put, List.setIfInBounds_toArray, List.set_cons_zero, List.set_cons_succ]
          refine wpAnyH_ready (rs := [6, 10]) (by kernel_rfl) (by simp) (AllReadyH.cons (by simp only [List.getElem?_toArray, List.getElem?_cons_succ, List.getElem?_cons_zero]; rfl) (fun K hK => ?_) (AllReadyH.cons (by simp only [List.getElem?_toArray, List.getElem?_cons_succ, List.getElem?_cons_zero]; rfl) (fun K hK => ?_) AllReadyH.nil))
          · skip
            go_simp
            refine (chooseAnswer_any HNb_0.out HNb_1.out HNb_2.out HF1.out (by omega) (by omega)).mono ?_
            rintro e vb_4 ⟨v28, rfl, ho, hb⟩
            have HBb_4 : Hid (Below w_21.heap.size w_21 vb_4) := Lib.hid (HBb_3.out.trans (hb.mono HBb_3.out.size))
            obtain ⟨b28, m28, d28, rfl⟩ := ho.shape
            have HoFb : Hid (OwnAns vb_4.heap.size vb_4 w_21.heap.size (.agg #[.int .i64 (chAns l0 l1 x2).ver, .slice b28 m28 d28]) (chAns l0 l1 x2)) := Lib.hid (ho.lower HBb_3.out.size)
            clear ho hb
            go_wp2_with fail
            refine hK.out _ _ ⟨cell_stay CXb.out.1 HBb_4.out, cell_stay CXb.out.2.1 HBb_4.out⟩ (fun hHeld => ?_)
            clear hK K
            try simp only [Act.put, List.setIfInBounds_toArray, List.set_cons_zero, List.set_cons_succ]
            refine wpAnyH_take (i := 7) (v := ?v27) (by simp only [List.getElem?_toArray, List.getElem?_cons_succ, List.getElem?_cons_zero]; rfl) (by kernel_rfl) (by kernel_rfl) (by kernel_rfl) (by exact fun _ _ _ h => h) (Or.inl ⟨by rfl, fun w9 hS9 => ?hy27⟩) hHeld ?rest27
            case hy27 =>
              dsimp only at hS9
              obtain ⟨y0, y1⟩ := hS9
              go_simp
              try with_reducible rfl
            try simp only [Act.put, List.setIfInBounds_toArray, List.set_cons_zero, List.set_cons_succ]
            refine wpAnyH_take (i := 8) (v := ?v28) (by simp only [List.getElem?_toArray, List.getElem?_cons_succ, List.getElem?_cons_zero]; rfl) (by kernel_rfl) (by kernel_rfl) (by kernel_rfl) (by exact fun _ _ _ h => h) (Or.inl ⟨by rfl, fun w9 hS9 => ?hy28⟩) hHeld ?rest28
            case hy28 =>
              dsimp only at hS9
              obtain ⟨y0, y1⟩ := hS9
              go_simp
              try with_reducible rfl
            try simp only [Act.put, List.setIfInBounds_toArray, List.set_cons_zero, List.set_cons_succ]
            refine wpAnyH_take (i := 9) (v := ?v29) (by simp only [List.getElem?_toArray, List.getElem?_cons_succ, List.getElem?_cons_zero]; rfl) (by kernel_rfl) (by kernel_rfl) (by kernel_rfl) (by exact fun _ _ _ h => h) (Or.inl ⟨by rfl, fun w9 hS9 => ?hy29⟩) hHeld ?rest29
            case hy29 =>
              dsimp only at hS9
              obtain ⟨y0, y1⟩ := hS9
              go_simp
              try with_reducible rfl
            try simp only [Act.put, List.setIfInBounds_toArray, List.set_cons_zero, List.set_cons_succ]
            refine wpAnyH_ready (rs := [10]) (by kernel_rfl) (by simp) (AllReadyH.cons (by simp only [List.getElem?_toArray, List.getElem?_cons_succ, List.getElem?_cons_zero]; rfl) (fun K hK => ?_) AllReadyH.nil)
            have HBb_5 : Hid (Below w_21.heap.size w_21 (World.alloc vb_4 (.cells #[.int .i64 0, .slice none 0 0] 39))) := Lib.hid (HBb_4.out.trans ((alloc_same vb_4 (.cells #[.int .i64 0, .slice none 0 0] 39)).mono HBb_4.out.size))
            go_simp
            refine hK.out _ _ ⟨cell_stay CXb.out.1 HBb_5.out, cell_stay CXb.out.2.1 HBb_5.out⟩ (fun hHeld => ?_)
            clear hK K
            try simp only [Act.put, List.setIfInBounds_toArray, List.set_cons_zero, List.set_cons_succ]
            refine wpAnyH_ready (rs := [11]) (by kernel_rfl) (by simp) (AllReadyH.cons (by simp only [List.getElem?_toArray, List.getElem?_cons_succ, List.getElem?_cons_zero]; rfl) (fun K hK => ?_) AllReadyH.nil)
            have HRb := Lib.hid (chR_alloc (L := chAns l0 l1 x2) HBb_4.out HoFb.out)
            have HBb_6 : Hid (Below w_21.heap.size w_21 (World.alloc vb_4 (.cells #[.int .i64 (chAns l0 l1 x2).ver, .slice b28 m28 d28] 39))) := Lib.hid HRb.out.1
            go_simp
            refine hK.out _ _ ⟨cell_stay CXb.out.1 HBb_6.out, cell_stay CXb.out.2.1 HBb_6.out⟩ (fun hHeld => ?_)
            clear hK K
            try simp only [Act.put, List.setIfInBounds_toArray, List.set_cons_zero, List.set_cons_succ]
            refine wpAnyH_take (i := 12) (v := ?v30) (by simp only [List.getElem?_toArray, List.getElem?_cons_succ, List.getElem?_cons_zero]; rfl) (by kernel_rfl) (by kernel_rfl) (by kernel_rfl) (by exact fun _ _ _ h => h) (Or.inl ⟨by rfl, fun w9 hS9 => ?hy30⟩) hHeld ?rest30
            case hy30 =>
              dsimp only at hS9
              obtain ⟨y0, y1⟩ := hS9
              go_simp
              try with_reducible rfl
            try simp only [Act.put, List.setIfInBounds_toArray, List.set_cons_zero, List.set_cons_succ]
            refine wpAnyH_done (by kernel_rfl) ?_ _
            have HR := HRb
            have hfin : ChR w_21 (chAns l0 l1 x2) vb_4.heap.size b28 m28 d28 _ := HR.out
            generalize vb_4.heap.size = g at hfin ⊢
            generalize hu3 : Value.slice qb_0 kb_0 rb_0 = u3
            generalize hu5 : Value.slice qb_1 kb_1 rb_1 = u5
            exact ⟨g, u3, u5, tb_2, b28, m28, d28, rfl, hfin⟩
          · skip
            have HBb_4 : Hid (Below w_21.heap.size w_21 (World.alloc vb_3 (.cells #[.int .i64 0, .slice none 0 0] 39))) := Lib.hid (HBb_3.out.trans ((alloc_same vb_3 (.cells #[.int .i64 0, .slice none 0 0] 39)).mono HBb_3.out.size))
            have HZb : Hid ((World.alloc vb_3 (.cells #[.int .i64 0, .slice none 0 0] 39)).heap[vb_3.heap.size]? = some (.cells #[.int .i64 0, .slice none 0 0] 39 (0, 0))) := Lib.hid (heap_alloc_new vb_3 _)
            have HgZb : Hid (vb_3.heap.size < (World.alloc vb_3 (.cells #[.int .i64 0, .slice none 0 0] 39)).heap.size) := Lib.hid (by simp)
            replace HNb_0 := Lib.hid (HNb_0.out.same (alloc_same vb_3 (.cells #[.int .i64 0, .slice none 0 0] 39)))
            replace HNb_1 := Lib.hid (HNb_1.out.same (alloc_same vb_3 (.cells #[.int .i64 0, .slice none 0 0] 39)))
            replace HNb_2 := Lib.hid (HNb_2.out.same (alloc_same vb_3 (.cells #[.int .i64 0, .slice none 0 0] 39)))
            go_simp
            refine hK.out _ _ ⟨cell_stay CXb.out.1 HBb_4.out, cell_stay CXb.out.2.1 HBb_4.out⟩ (fun hHeld => ?_)
            clear hK K
            try simp only [Act.put, List.setIfInBounds_toArray, List.set_cons_zero, List.set_cons_succ]
            refine wpAnyH_ready (rs := [6]) (by kernel_rfl) (by simp) (AllReadyH.cons (by simp only [List.getElem?_toArray, List.getElem?_cons_succ, List.getElem?_cons_zero]; rfl) (fun K hK => ?_) AllReadyH.nil)
            go_simp
            have HgLb := HgZb
            refine (chooseAnswer_any HNb_0.out HNb_1.out HNb_2.out HF1.out (by omega) (by omega)).mono ?_
            rintro e vb_5 ⟨v28, rfl, ho, hb⟩
            have HBb_5 : Hid (Below w_21.heap.size w_21 vb_5) := Lib.hid (HBb_4.out.trans (hb.mono HBb_4.out.size))
            obtain ⟨b28, m28, d28, rfl⟩ := ho.shape
            have HwVb := Lib.hid hb.size
            have HgPb : Hid (w_21.heap.size ≤ vb_3.heap.size) := Lib.hid (HBb_3.out.size)
            replace HZb := Lib.hid ((hb.block _ HgZb.out).trans HZb.out)
            have HoFb := Lib.hid ho
            clear ho hb
            go_wp2_with fail
            refine hK.out _ _ ⟨cell_stay CXb.out.1 HBb_5.out, cell_stay CXb.out.2.1 HBb_5.out⟩ (fun hHeld => ?_)
            clear hK K
            try simp only [Act.put, List.setIfInBounds_toArray, List.set_cons_zero, List.set_cons_succ]
            refine wpAnyH_take (i := 7) (v := ?v31) (by simp only [List.getElem?_toArray, List.getElem?_cons_succ, List.getElem?_cons_zero]; rfl) (by kernel_rfl) (by kernel_rfl) (by kernel_rfl) (by exact fun _ _ _ h => h) (Or.inl ⟨by rfl, fun w9 hS9 => ?hy31⟩) hHeld ?rest31
            case hy31 =>
              dsimp only at hS9
              obtain ⟨y0, y1⟩ := hS9
              go_simp
              try with_reducible rfl
            try simp only [Act.put, List.setIfInBounds_toArray, List.set_cons_zero, List.set_cons_succ]
            refine wpAnyH_take (i := 8) (v := ?v32) (by simp only [List.getElem?_toArray, List.getElem?_cons_succ, List.getElem?_cons_zero]; rfl) (by kernel_rfl) (by kernel_rfl) (by kernel_rfl) (by exact fun _ _ _ h => h) (Or.inl ⟨by rfl, fun w9 hS9 => ?hy32⟩) hHeld ?rest32
            case hy32 =>
              dsimp only at hS9
              obtain ⟨y0, y1⟩ := hS9
              go_simp
              try with_reducible rfl
            try simp only [Act.put, List.setIfInBounds_toArray, List.set_cons_zero, List.set_cons_succ]
            refine wpAnyH_take (i := 9) (v := ?v33) (by simp only [List.getElem?_toArray, List.getElem?_cons_succ, List.getElem?_cons_zero]; rfl) (by kernel_rfl) (by kernel_rfl) (by kernel_rfl) (by exact fun _ _ _ h => h) (Or.inl ⟨by rfl, fun w9 hS9 => ?hy33⟩) hHeld ?rest33
            case hy33 =>
              dsimp only at hS9
              obtain ⟨y0, y1⟩ := hS9
              go_simp
              try with_reducible rfl
            try simp only [Act.put, List.setIfInBounds_toArray, List.set_cons_zero, List.set_cons_succ]
            refine wpAnyH_ready (rs := [11]) (by kernel_rfl) (by simp) (AllReadyH.cons (by simp only [List.getElem?_toArray, List.getElem?_cons_succ, List.getElem?_cons_zero]; rfl) (fun K hK => ?_) AllReadyH.nil)
            have HRb := Lib.hid (chR_store (pw := w_21) (w := (World.alloc vb_3 (.cells #[.int .i64 0, .slice none 0 0] 39))) (L := chAns l0 l1 x2) HBb_5.out HgPb.out HZb.out HgLb.out HwVb.out HoFb.out)
            have HBb_6 : Hid (Below w_21.heap.size w_21 ((vb_5.setCell ⟨vb_3.heap.size, 0, none⟩ (.int .i64 (chAns l0 l1 x2).ver)).setCell ⟨vb_3.heap.size, 1, none⟩ (.slice b28 m28 d28))) := Lib.hid HRb.out.1
            obtain ⟨m0, m1, q0, q1⟩ := two_cells HZb.out
            obtain ⟨z0, z1, -⟩ := two_put HZb.out (.int .i64 (chAns l0 l1 x2).ver) (.slice b28 m28 d28)
            go_simp
            refine hK.out _ _ ⟨cell_stay CXb.out.1 HBb_6.out, cell_stay CXb.out.2.1 HBb_6.out⟩ (fun hHeld => ?_)
            clear hK K
            try simp only [Act.put, List.setIfInBounds_toArray, List.set_cons_zero, List.set_cons_succ]
            refine wpAnyH_take (i := 12) (v := ?v34) (by simp only [List.getElem?_toArray, List.getElem?_cons_succ, List.getElem?_cons_zero]; rfl) (by kernel_rfl) (by kernel_rfl) (by kernel_rfl) (by exact fun _ _ _ h => h) (Or.inl ⟨by rfl, fun w9 hS9 => ?hy34⟩) hHeld ?rest34
            case hy34 =>
              dsimp only at hS9
              obtain ⟨y0, y1⟩ := hS9
              go_simp
              try with_reducible rfl
            try simp only [Act.put, List.setIfInBounds_toArray, List.set_cons_zero, List.set_cons_succ]
            refine wpAnyH_done (by kernel_rfl) ?_ _
            have HR := HRb
            have hfin : ChR w_21 (chAns l0 l1 x2) vb_3.heap.size b28 m28 d28 _ := HR.out
            generalize vb_3.heap.size = g at hfin ⊢
            generalize hu3 : Value.slice qb_0 kb_0 rb_0 = u3
            generalize hu5 : Value.slice qb_1 kb_1 rb_1 = u5
            exact ⟨g, u3, u5, tb_2, b28, m28, d28, rfl, hfin⟩
        · skip
          have HBb_3 : Hid (Below w_21.heap.size w_21 (World.alloc vb_2 (.cells #[.int .i64 0, .slice none 0 0] 39))) := Lib.hid (HBb_2.out.trans ((alloc_same vb_2 (.cells #[.int .i64 0, .slice none 0 0] 39)).mono HBb_2.out.size))
          have HZb : Hid ((World.alloc vb_2 (.cells #[.int .i64 0, .slice none 0 0] 39)).heap[vb_2.heap.size]? = some (.cells #[.int .i64 0, .slice none 0 0] 39 (0, 0))) := Lib.hid (heap_alloc_new vb_2 _)
          have HgZb : Hid (vb_2.heap.size < (World.alloc vb_2 (.cells #[.int .i64 0, .slice none 0 0] 39)).heap.size) := Lib.hid (by simp)
          replace HNb_0 := Lib.hid (HNb_0.out.same (alloc_same vb_2 (.cells #[.int .i64 0, .slice none 0 0] 39)))
          replace HNb_1 := Lib.hid (HNb_1.out.same (alloc_same vb_2 (.cells #[.int .i64 0, .slice none 0 0] 39)))
          go_simp
          refine hK.out _ _ ⟨cell_stay CXb.out.1 HBb_3.out, cell_stay CXb.out.2.1 HBb_3.out⟩ (fun hHeld => ?_)
          clear hK K
          try simp only [Act.put, List.setIfInBounds_toArray, List.set_cons_zero, List.set_cons_succ]
          refine wpAnyH_ready (rs := [5]) (by kernel_rfl) (by simp) (AllReadyH.cons (by simp only [List.getElem?_toArray, List.getElem?_cons_succ, List.getElem?_cons_zero]; rfl) (fun K hK => ?_) AllReadyH.nil)
          go_simp
          refine (toHello_any (HK2.out.same (HB.out.trans (HBb_3.out.mono HB.out.size))) (by omega)).mono ?_
          rintro e vb_4 ⟨tb_2, rfl, ho, hb⟩
          have HBb_4 : Hid (Below w_21.heap.size w_21 vb_4) := Lib.hid (HBb_3.out.trans (hb.mono HBb_3.out.size))
          replace HNb_0 := Lib.hid (HNb_0.out.same hb)
          replace HNb_1 := Lib.hid (HNb_1.out.same hb)
          replace HZb := Lib.hid ((hb.block _ (by have := HgZb.out; omega)).trans HZb.out)
          replace HgZb := Lib.hid (Nat.lt_of_lt_of_le HgZb.out hb.size)
          have HNb_2 := Lib.hid ho.hel
          clear ho
          clear hb
          go_wp2_with fail
          refine hK.out _ _ ⟨cell_stay CXb.out.1 HBb_4.out, cell_stay CXb.out.2.1 HBb_4.out⟩ (fun hHeld => ?_)
          clear hK K
          try simp only [Act.put, List.setIfInBounds_toArray, List.set_cons_zero, List.set_cons_succ]
          refine wpAnyH_ready (rs := [6]) (by kernel_rfl) (by simp) (AllReadyH.cons (by simp only [List.getElem?_toArray, List.getElem?_cons_succ, List.getElem?_cons_zero]; rfl) (fun K hK => ?_) AllReadyH.nil)
          go_simp
          have HgLb := HgZb
          refine (chooseAnswer_any HNb_0.out HNb_1.out HNb_2.out HF1.out (by omega) (by omega)).mono ?_
          rintro e vb_5 ⟨v28, rfl, ho, hb⟩
          have HBb_5 : Hid (Below w_21.heap.size w_21 vb_5) := Lib.hid (HBb_4.out.trans (hb.mono HBb_4.out.size))
          obtain ⟨b28, m28, d28, rfl⟩ := ho.shape
          have HwVb := Lib.hid hb.size
          have HgPb : Hid (w_21.heap.size ≤ vb_2.heap.size) := Lib.hid (HBb_2.out.size)
          replace HZb := Lib.hid ((hb.block _ HgZb.out).trans HZb.out)
          have HoFb := Lib.hid ho
          clear ho hb
          go_wp2_with fail
          refine hK.out _ _ ⟨cell_stay CXb.out.1 HBb_5.out, cell_stay CXb.out.2.1 HBb_5.out⟩ (fun hHeld => ?_)
          clear hK K
          try simp only [Act.put, List.setIfInBounds_toArray, List.set_cons_zero, List.set_cons_succ]
          refine wpAnyH_take (i := 7) (v := ?v35) (by simp only [List.getElem?_toArray, List.getElem?_cons_succ, List.getElem?_cons_zero]; rfl) (by kernel_rfl) (by kernel_rfl) (by kernel_rfl) (by exact fun _ _ _ h => h) (Or.inl ⟨by rfl, fun w9 hS9 => ?hy35⟩) hHeld ?rest35
          case hy35 =>
            dsimp only at hS9
            obtain ⟨y0, y1⟩ := hS9
            go_simp
            try with_reducible rfl
          try simp only [Act.put, List.setIfInBounds_toArray, List.set_cons_zero, List.set_cons_succ]
          refine wpAnyH_take (i := 8) (v := ?v36) (by simp only [List.getElem?_toArray, List.getElem?_cons_succ, List.getElem?_cons_zero]; rfl) (by kernel_rfl) (by kernel_rfl) (by kernel_rfl) (by exact fun _ _ _ h => h) (Or.inl ⟨by rfl, fun w9 hS9 => ?hy36⟩) hHeld ?rest36
          case hy36 =>
            dsimp only at hS9
            obtain ⟨y0, y1⟩ := hS9
            go_simp
            try with_reducible rfl
          try simp only [Act.put, List.setIfInBounds_toArray, List.set_cons_zero, List.set_cons_succ]
          refine wpAnyH_take (i := 9) (v := ?v37) (by simp only [List.getElem?_toArray, List.getElem?_cons_succ, List.getElem?_cons_zero]; rfl) (by kernel_rfl) (by kernel_rfl) (by kernel_rfl) (by exact fun _ _ _ h => h) (Or.inl ⟨by rfl, fun w9 hS9 => ?hy37⟩) hHeld ?rest37
          case hy37 =>
            dsimp only at hS9
            obtain ⟨y0, y1⟩ := hS9
            go_simp
            try with_reducible rfl
          try simp only [Act.put, List.setIfInBounds_toArray, List.set_cons_zero, List.set_cons_succ]
          refine wpAnyH_ready (rs := [11]) (by kernel_rfl) (by simp) (AllReadyH.cons (by simp only [List.getElem?_toArray, List.getElem?_cons_succ, List.getElem?_cons_zero]; rfl) (fun K hK => ?_) AllReadyH.nil)
          have HRb := Lib.hid (chR_store (pw := w_21) (w := vb_4) (L := chAns l0 l1 x2) HBb_5.out HgPb.out HZb.out HgLb.out HwVb.out HoFb.out)
          have HBb_6 : Hid (Below w_21.heap.size w_21 ((vb_5.setCell ⟨vb_2.heap.size, 0, none⟩ (.int .i64 (chAns l0 l1 x2).ver)).setCell ⟨vb_2.heap.size, 1, none⟩ (.slice b28 m28 d28))) := Lib.hid HRb.out.1
          obtain ⟨m0, m1, q0, q1⟩ := two_cells HZb.out
          obtain ⟨z0, z1, -⟩ := two_put HZb.out (.int .i64 (chAns l0 l1 x2).ver) (.slice b28 m28 d28)
          go_simp
          refine hK.out _ _ ⟨cell_stay CXb.out.1 HBb_6.out, cell_stay CXb.out.2.1 HBb_6.out⟩ (fun hHeld => ?_)
          clear hK K
          try simp only [Act.put, List.setIfInBounds_toArray, List.set_cons_zero, List.set_cons_succ]
          refine wpAnyH_take (i := 12) (v := ?v38) (by simp only [List.getElem?_toArray, List.getElem?_cons_succ, List.getElem?_cons_zero]; rfl) (by kernel_rfl) (by kernel_rfl) (by kernel_rfl) (by exact fun _ _ _ h => h) (Or.inl ⟨by rfl, fun w9 hS9 => ?hy38⟩) hHeld ?rest38
          case hy38 =>
            dsimp only at hS9
            obtain ⟨y0, y1⟩ := hS9
            go_simp
            try with_reducible rfl
          try simp only [Act.put, List.setIfInBounds_toArray, List.set_cons_zero, List.set_cons_succ]
          refine wpAnyH_done (by kernel_rfl) ?_ _
          have HR := HRb
          have hfin : ChR w_21 (chAns l0 l1 x2) vb_2.heap.size b28 m28 d28 _ := HR.out
          generalize vb_2.heap.size = g at hfin ⊢
          generalize hu3 : Value.slice qb_0 kb_0 rb_0 = u3
          generalize hu5 : Value.slice qb_1 kb_1 rb_1 = u5
          exact ⟨g, u3, u5, tb_2, b28, m28, d28, rfl, hfin⟩
      · skip
        have HBb_2 : Hid (Below w_21.heap.size w_21 (World.alloc vb_1 (.cells #[.int .i64 0, .slice none 0 0] 39))) := Lib.hid (HBb_1.out.trans ((alloc_same vb_1 (.cells #[.int .i64 0, .slice none 0 0] 39)).mono HBb_1.out.size))
        have HZb : Hid ((World.alloc vb_1 (.cells #[.int .i64 0, .slice none 0 0] 39)).heap[vb_1.heap.size]? = some (.cells #[.int .i64 0, .slice none 0 0] 39 (0, 0))) := Lib.hid (heap_alloc_new vb_1 _)
        have HgZb : Hid (vb_1.heap.size < (World.alloc vb_1 (.cells #[.int .i64 0, .slice none 0 0] 39)).heap.size) := Lib.hid (by simp)
        replace HNb_0 := Lib.hid (HNb_0.out.same (alloc_same vb_1 (.cells #[.int .i64 0, .slice none 0 0] 39)))
        go_simp
        refine hK.out _ _ ⟨cell_stay CXb.out.1 HBb_2.out, cell_stay CXb.out.2.1 HBb_2.out⟩ (fun hHeld => ?_)
        clear hK K
        try simp only [Act.put, List.setIfInBounds_toArray, List.set_cons_zero, List.set_cons_succ]
        refine wpAnyH_ready (rs := [3]) (by kernel_rfl) (by simp) (AllReadyH.cons (by simp only [List.getElem?_toArray, List.getElem?_cons_succ, List.getElem?_cons_zero]; rfl) (fun K hK => ?_) AllReadyH.nil)
        go_simp
        refine (toIntS_any a1 n1 c1 l1 _ (HK1.out.same (HB.out.trans (HBb_2.out.mono HB.out.size))) (by omega)).mono ?_
        rintro e vb_3 ⟨qb_1, kb_1, rb_1, rfl, ho, hb⟩
        have HBb_3 : Hid (Below w_21.heap.size w_21 vb_3) := Lib.hid (HBb_2.out.trans (hb.mono HBb_2.out.size))
        replace HNb_0 := Lib.hid (HNb_0.out.same hb)
        replace HZb := Lib.hid ((hb.block _ (by have := HgZb.out; omega)).trans HZb.out)
        replace HgZb := Lib.hid (Nat.lt_of_lt_of_le HgZb.out hb.size)
        have hklb_1 : kb_1 ≤ 1048576 := by have hl := ho.len; have := HK1.out.len; omega
        have HNb_1 := Lib.hid ho.nums
        clear ho
        clear hb
        go_wp2_with fail
        refine hK.out _ _ ⟨cell_stay CXb.out.1 HBb_3.out, cell_stay CXb.out.2.1 HBb_3.out⟩ (fun hHeld => ?_)
        clear hK K
        try simp only [Act.put, List.setIfInBounds_toArray, List.set_cons_zero, List.set_cons_succ]
        refine wpAnyH_ready (rs := [5]) (by kernel_rfl) (by simp) (AllReadyH.cons (by simp only [List.getElem?_toArray, List.getElem?_cons_succ, List.getElem?_cons_zero]; rfl) (fun K hK => ?_) AllReadyH.nil)
        go_simp
        refine (toHello_any (HK2.out.same (HB.out.trans (HBb_3.out.mono HB.out.size))) (by omega)).mono ?_
        rintro e vb_4 ⟨tb_2, rfl, ho, hb⟩
        have HBb_4 : Hid (Below w_21.heap.size w_21 vb_4) := Lib.hid (HBb_3.out.trans (hb.mono HBb_3.out.size))
        replace HNb_0 := Lib.hid (HNb_0.out.same hb)
        replace HNb_1 := Lib.hid (HNb_1.out.same hb)
        replace HZb := Lib.hid ((hb.block _ (by have := HgZb.out; omega)).trans HZb.out)
        replace HgZb := Lib.hid (Nat.lt_of_lt_of_le HgZb.out hb.size)
        have HNb_2 := Lib.hid ho.hel
        clear ho
        clear hb
        go_wp2_with fail
        refine hK.out _ _ ⟨cell_stay CXb.out.1 HBb_4.out, cell_stay CXb.out.2.1 HBb_4.out⟩ (fun hHeld => ?_)
        clear hK K
        try simp only [Act.put, List.setIfInBounds_toArray, List.set_cons_zero, List.set_cons_succ]
        refine wpAnyH_ready (rs := [6]) (by kernel_rfl) (by simp) (AllReadyH.cons (by simp only [List.getElem?_toArray, List.getElem?_cons_succ, List.getElem?_cons_zero]; rfl) (fun K hK => ?_) AllReadyH.nil)
        go_simp
        have HgLb := HgZb
        refine (chooseAnswer_any HNb_0.out HNb_1.out HNb_2.out HF1.out (by omega) (by omega)).mono ?_
        rintro e vb_5 ⟨v28, rfl, ho, hb⟩
        have HBb_5 : Hid (Below w_21.heap.size w_21 vb_5) := Lib.hid (HBb_4.out.trans (hb.mono HBb_4.out.size))
        obtain ⟨b28, m28, d28, rfl⟩ := ho.shape
        have HwVb := Lib.hid hb.size
        have HgPb : Hid (w_21.heap.size ≤ vb_1.heap.size) := Lib.hid (HBb_1.out.size)
        replace HZb := Lib.hid ((hb.block _ HgZb.out).trans HZb.out)
        have HoFb := Lib.hid ho
        clear ho hb
        go_wp2_with fail
        refine hK.out _ _ ⟨cell_stay CXb.out.1 HBb_5.out, cell_stay CXb.out.2.1 HBb_5.out⟩ (fun hHeld => ?_)
        clear hK K
        try simp only [Act.put, List.setIfInBounds_toArray, List.set_cons_zero, List.set_cons_succ]
        refine wpAnyH_take (i := 7) (v := ?v39) (by simp only [List.getElem?_toArray, List.getElem?_cons_succ, List.getElem?_cons_zero]; rfl) (by kernel_rfl) (by kernel_rfl) (by kernel_rfl) (by exact fun _ _ _ h => h) (Or.inl ⟨by rfl, fun w9 hS9 => ?hy39⟩) hHeld ?rest39
        case hy39 =>
          dsimp only at hS9
          obtain ⟨y0, y1⟩ := hS9
          go_simp
          try with_reducible rfl
        try simp only [Act.put, List.setIfInBounds_toArray, List.set_cons_zero, List.set_cons_succ]
        refine wpAnyH_take (i := 8) (v := ?v40) (by simp only [List.getElem?_toArray, List.getElem?_cons_succ, List.getElem?_cons_zero]; rfl) (by kernel_rfl) (by kernel_rfl) (by kernel_rfl) (by exact fun _ _ _ h => h) (Or.inl ⟨by rfl, fun w9 hS9 => ?hy40⟩) hHeld ?rest40
        case hy40 =>
          dsimp only at hS9
          obtain ⟨y0, y1⟩ := hS9
          go_simp
          try with_reducible rfl
        try simp only [Act.put, List.setIfInBounds_toArray, List.set_cons_zero, List.set_cons_succ]
        refine wpAnyH_take (i := 9) (v := ?v41) (by simp only [List.getElem?_toArray, List.getElem?_cons_succ, List.getElem?_cons_zero]; rfl) (by kernel_rfl) (by kernel_rfl) (by kernel_rfl) (by exact fun _ _ _ h => h) (Or.inl ⟨by rfl, fun w9 hS9 => ?hy41⟩) hHeld ?rest41
        case hy41 =>
          dsimp only at hS9
          obtain ⟨y0, y1⟩ := hS9
          go_simp
          try with_reducible rfl
        try simp only [Act.put, List.setIfInBounds_toArray, List.set_cons_zero, List.set_cons_succ]
        refine wpAnyH_ready (rs := [11]) (by kernel_rfl) (by simp) (AllReadyH.cons (by simp only [List.getElem?_toArray, List.getElem?_cons_succ, List.getElem?_cons_zero]; rfl) (fun K hK => ?_) AllReadyH.nil)
        have HRb := Lib.hid (chR_store (pw := w_21) (w := vb_4) (L := chAns l0 l1 x2) HBb_5.out HgPb.out HZb.out HgLb.out HwVb.out HoFb.out)
        have HBb_6 : Hid (Below w_21.heap.size w_21 ((vb_5.setCell ⟨vb_1.heap.size, 0, none⟩ (.int .i64 (chAns l0 l1 x2).ver)).setCell ⟨vb_1.heap.size, 1, none⟩ (.slice b28 m28 d28))) := Lib.hid HRb.out.1
        obtain ⟨m0, m1, q0, q1⟩ := two_cells HZb.out
        obtain ⟨z0, z1, -⟩ := two_put HZb.out (.int .i64 (chAns l0 l1 x2).ver) (.slice b28 m28 d28)
        go_simp
        refine hK.out _ _ ⟨cell_stay CXb.out.1 HBb_6.out, cell_stay CXb.out.2.1 HBb_6.out⟩ (fun hHeld => ?_)
        clear hK K
        try simp only [Act.put, List.setIfInBounds_toArray, List.set_cons_zero, List.set_cons_succ]
        refine wpAnyH_take (i := 12) (v := ?v42) (by simp only [List.getElem?_toArray, List.getElem?_cons_succ, List.getElem?_cons_zero]; rfl) (by kernel_rfl) (by kernel_rfl) (by kernel_rfl) (by exact fun _ _ _ h => h) (Or.inl ⟨by rfl, fun w9 hS9 => ?hy42⟩) hHeld ?rest42
        case hy42 =>
          dsimp only at hS9
          obtain ⟨y0, y1⟩ := hS9
          go_simp
          try with_reducible rfl
        try simp only [Act.put, List.setIfInBounds_toArray, List.set_cons_zero, List.set_cons_succ]
        refine wpAnyH_done (by kernel_rfl) ?_ _
        have HR := HRb
        have hfin : ChR w_21 (chAns l0 l1 x2) vb_1.heap.size b28 m28 d28 _ := HR.out
        generalize vb_1.heap.size = g at hfin ⊢
        generalize hu3 : Value.slice qb_0 kb_0 rb_0 = u3
        generalize hu5 : Value.slice qb_1 kb_1 rb_1 = u5
        exact ⟨g, u3, u5, tb_2, b28, m28, d28, rfl, hfin⟩
    · skip
      have HBb_1 : Hid (Below w_21.heap.size w_21 (World.alloc w_21 (.cells #[.int .i64 0, .slice none 0 0] 39)).drew) := Lib.hid (alloc_same w_21 (.cells #[.int .i64 0, .slice none 0 0] 39)).drew
      have HZb : Hid ((World.alloc w_21 (.cells #[.int .i64 0, .slice none 0 0] 39)).drew.heap[w_21.heap.size]? = some (.cells #[.int .i64 0, .slice none 0 0] 39 (0, 0))) := Lib.hid (heap_alloc_new w_21 _)
      have HgZb : Hid (w_21.heap.size < (World.alloc w_21 (.cells #[.int .i64 0, .slice none 0 0] 39)).drew.heap.size) := Lib.hid (by simp)
      go_simp
      refine hK.out _ _ ⟨cell_stay CXb.out.1 HBb_1.out, cell_stay CXb.out.2.1 HBb_1.out⟩ (fun hHeld => ?_)
      clear hK K
      try simp only [Act.put, List.setIfInBounds_toArray, List.set_cons_zero, List.set_cons_succ]
      refine wpAnyH_ready (rs := [1]) (by kernel_rfl) (by simp) (AllReadyH.cons (by simp only [List.getElem?_toArray, List.getElem?_cons_succ, List.getElem?_cons_zero]; rfl) (fun K hK => ?_) AllReadyH.nil)
      go_simp
      refine (toIntS_any a0 n0 c0 l0 _ (HK0.out.same (HB.out.trans (HBb_1.out.mono HB.out.size))) (by omega)).mono ?_
      rintro e vb_2 ⟨qb_0, kb_0, rb_0, rfl, ho, hb⟩
      have HBb_2 : Hid (Below w_21.heap.size w_21 vb_2) := Lib.hid (HBb_1.out.trans (hb.mono HBb_1.out.size))
      replace HZb := Lib.hid ((hb.block _ (by have := HgZb.out; omega)).trans HZb.out)
      replace HgZb := Lib.hid (Nat.lt_of_lt_of_le HgZb.out hb.size)
      have hklb_0 : kb_0 ≤ 1048576 := by have hl := ho.len; have := HK0.out.len; omega
      have HNb_0 := Lib.hid ho.nums
      clear ho
      clear hb
      go_wp2_with fail
      refine hK.out _ _ ⟨cell_stay CXb.out.1 HBb_2.out, cell_stay CXb.out.2.1 HBb_2.out⟩ (fun hHeld => ?_)
      clear hK K
      try simp only [Act.put, List.setIfInBounds_toArray, List.set_cons_zero, List.set_cons_succ]
      refine wpAnyH_ready (rs := [3]) (by kernel_rfl) (by simp) (AllReadyH.cons (by simp only [List.getElem?_toArray, List.getElem?_cons_succ, List.getElem?_cons_zero]; rfl) (fun K hK => ?_) AllReadyH.nil)
      go_simp
      refine (toIntS_any a1 n1 c1 l1 _ (HK1.out.same (HB.out.trans (HBb_2.out.mono HB.out.size))) (by omega)).mono ?_
      rintro e vb_3 ⟨qb_1, kb_1, rb_1, rfl, ho, hb⟩
      have HBb_3 : Hid (Below w_21.heap.size w_21 vb_3) := Lib.hid (HBb_2.out.trans (hb.mono HBb_2.out.size))
      replace HNb_0 := Lib.hid (HNb_0.out.same hb)
      replace HZb := Lib.hid ((hb.block _ (by have := HgZb.out; omega)).trans HZb.out)
      replace HgZb := Lib.hid (Nat.lt_of_lt_of_le HgZb.out hb.size)
      have hklb_1 : kb_1 ≤ 1048576 := by have hl := ho.len; have := HK1.out.len; omega
      have HNb_1 := Lib.hid ho.nums
      clear ho
      clear hb
      go_wp2_with fail
      refine hK.out _ _ ⟨cell_stay CXb.out.1 HBb_3.out, cell_stay CXb.out.2.1 HBb_3.out⟩ (fun hHeld => ?_)
      clear hK K
      try simp only [Act.put, List.setIfInBounds_toArray, List.set_cons_zero, List.set_cons_succ]
      refine wpAnyH_ready (rs := [5]) (by kernel_rfl) (by simp) (AllReadyH.cons (by simp only [List.getElem?_toArray, List.getElem?_cons_succ, List.getElem?_cons_zero]; rfl) (fun K hK => ?_) AllReadyH.nil)
      go_simp
      refine (toHello_any (HK2.out.same (HB.out.trans (HBb_3.out.mono HB.out.size))) (by omega)).mono ?_
      rintro e vb_4 ⟨tb_2, rfl, ho, hb⟩
      have HBb_4 : Hid (Below w_21.heap.size w_21 vb_4) := Lib.hid (HBb_3.out.trans (hb.mono HBb_3.out.size))
      replace HNb_0 := Lib.hid (HNb_0.out.same hb)
      replace HNb_1 := Lib.hid (HNb_1.out.same hb)
      replace HZb := Lib.hid ((hb.block _ (by have := HgZb.out; omega)).trans HZb.out)
      replace HgZb := Lib.hid (Nat.lt_of_lt_of_le HgZb.out hb.size)
      have HNb_2 := Lib.hid ho.hel
      clear ho
      clear hb
      go_wp2_with fail
      refine hK.out _ _ ⟨cell_stay CXb.out.1 HBb_4.out, cell_stay CXb.out.2.1 HBb_4.out⟩ (fun hHeld => ?_)
      clear hK K
      try simp only [Act.put, List.setIfInBounds_toArray, List.set_cons_zero, List.set_cons_succ]
      refine wpAnyH_ready (rs := [6]) (by kernel_rfl) (by simp) (AllReadyH.cons (by simp only [List.getElem?_toArray, List.getElem?_cons_succ, List.getElem?_cons_zero]; rfl) (fun K hK => ?_) AllReadyH.nil)
      go_simp
      have HgLb := HgZb
      refine (chooseAnswer_any HNb_0.out HNb_1.out HNb_2.out HF1.out (by omega) (by omega)).mono ?_
      rintro e vb_5 ⟨v28, rfl, ho, hb⟩
      have HBb_5 : Hid (Below w_21.heap.size w_21 vb_5) := Lib.hid (HBb_4.out.trans (hb.mono HBb_4.out.size))
      obtain ⟨b28, m28, d28, rfl⟩ := ho.shape
      have HwVb := Lib.hid hb.size
      have HgPb : Hid (w_21.heap.size ≤ w_21.heap.size) := Lib.hid (Nat.le_refl _)
      replace HZb := Lib.hid ((hb.block _ HgZb.out).trans HZb.out)
      have HoFb := Lib.hid ho
      clear ho hb
      go_wp2_with fail
      refine hK.out _ _ ⟨cell_stay CXb.out.1 HBb_5.out, cell_stay CXb.out.2.1 HBb_5.out⟩ (fun hHeld => ?_)
      clear hK K
      try simp only [Act.put, List.setIfInBounds_toArray, List.set_cons_zero, List.set_cons_succ]
      refine wpAnyH_take (i := 7) (v := ?v43) (by simp only [List.getElem?_toArray, List.getElem?_cons_succ, List.getElem?_cons_zero]; rfl) (by kernel_rfl) (by kernel_rfl) (by kernel_rfl) (by exact fun _ _ _ h => h) (Or.inl ⟨by rfl, fun w9 hS9 => ?hy43⟩) hHeld ?rest43
      case hy43 =>
        dsimp only at hS9
        obtain ⟨y0, y1⟩ := hS9
        go_simp
        try with_reducible rfl
      try simp only [Act.put, List.setIfInBounds_toArray, List.set_cons_zero, List.set_cons_succ]
      refine wpAnyH_take (i := 8) (v := ?v44) (by simp only [List.getElem?_toArray, List.getElem?_cons_succ, List.getElem?_cons_zero]; rfl) (by kernel_rfl) (by kernel_rfl) (by kernel_rfl) (by exact fun _ _ _ h => h) (Or.inl ⟨by rfl, fun w9 hS9 => ?hy44⟩) hHeld ?rest44
      case hy44 =>
        dsimp only at hS9
        obtain ⟨y0, y1⟩ := hS9
        go_simp
        try with_reducible rfl
      try simp only [Act.put, List.setIfInBounds_toArray, List.set_cons_zero, List.set_cons_succ]
      refine wpAnyH_take (i := 9) (v := ?v45) (by simp only [List.getElem?_toArray, List.getElem?_cons_succ, List.getElem?_cons_zero]; rfl) (by kernel_rfl) (by kernel_rfl) (by kernel_rfl) (by exact fun _ _ _ h => h) (Or.inl ⟨by rfl, fun w9 hS9 => ?hy45⟩) hHeld ?rest45
      case hy45 =>
        dsimp only at hS9
        obtain ⟨y0, y1⟩ := hS9
        go_simp
        try with_reducible rfl
      try simp only [Act.put, List.setIfInBounds_toArray, List.set_cons_zero, List.set_cons_succ]
      refine wpAnyH_ready (rs := [11]) (by kernel_rfl) (by simp) (AllReadyH.cons (by simp only [List.getElem?_toArray, List.getElem?_cons_succ, List.getElem?_cons_zero]; rfl) (fun K hK => ?_) AllReadyH.nil)
      have HRb := Lib.hid (chR_store (pw := w_21) (w := vb_4) (L := chAns l0 l1 x2) HBb_5.out HgPb.out HZb.out HgLb.out HwVb.out HoFb.out)
      have HBb_6 : Hid (Below w_21.heap.size w_21 ((vb_5.setCell ⟨w_21.heap.size, 0, none⟩ (.int .i64 (chAns l0 l1 x2).ver)).setCell ⟨w_21.heap.size, 1, none⟩ (.slice b28 m28 d28))) := Lib.hid HRb.out.1
      obtain ⟨m0, m1, q0, q1⟩ := two_cells HZb.out
      obtain ⟨z0, z1, -⟩ := two_put HZb.out (.int .i64 (chAns l0 l1 x2).ver) (.slice b28 m28 d28)
      go_simp
      refine hK.out _ _ ⟨cell_stay CXb.out.1 HBb_6.out, cell_stay CXb.out.2.1 HBb_6.out⟩ (fun hHeld => ?_)
      clear hK K
      try simp only [Act.put, List.setIfInBounds_toArray, List.set_cons_zero, List.set_cons_succ]
      refine wpAnyH_take (i := 12) (v := ?v46) (by simp only [List.getElem?_toArray, List.getElem?_cons_succ, List.getElem?_cons_zero]; rfl) (by kernel_rfl) (by kernel_rfl) (by kernel_rfl) (by exact fun _ _ _ h => h) (Or.inl ⟨by rfl, fun w9 hS9 => ?hy46⟩) hHeld ?rest46
      case hy46 =>
        dsimp only at hS9
        obtain ⟨y0, y1⟩ := hS9
        go_simp
        try with_reducible rfl
      try simp only [Act.put, List.setIfInBounds_toArray, List.set_cons_zero, List.set_cons_succ]
      refine wpAnyH_done (by kernel_rfl) ?_ _
      have HR := HRb
      have hfin : ChR w_21 (chAns l0 l1 x2) w_21.heap.size b28 m28 d28 _ := HR.out
      generalize w_21.heap.size = g at hfin ⊢
      generalize hu3 : Value.slice qb_0 kb_0 rb_0 = u3
      generalize hu5 : Value.slice qb_1 kb_1 rb_1 = u5
      exact ⟨g, u3, u5, tb_2, b28, m28, d28, rfl, hfin⟩
  intro gb u3 u5 u7 b28 m28 d28 Wb hR
  obtain ⟨w_22, hwv⟩ : ∃ u, u = Wb := ⟨_, rfl⟩
  subst hwv
  obtain ⟨hb, hbox, hgp, lob, Sb, ho, hlo, hS, hgd⟩ := hR
  have HO28 := Lib.hid ho
  have HXN := Lib.hid hbox
  clear ho hbox
  have hs22 : w_21.heap.size ≤ w_22.heap.size := hb.size
  replace HO21 := Lib.hid (HO21.out.same hb)
  replace HO22 := Lib.hid (HO22.out.same hb)
  replace HO23 := Lib.hid (HO23.out.same hb)
  replace HO24 := Lib.hid (HO24.out.same hb)
  replace HO25 := Lib.hid (HO25.out.same hb)
  replace HXp2 := Lib.hid (((hb).block _ (by omega)).trans HXp2.out)
  replace HX21 := Lib.hid (((hb).block _ (by omega)).trans HX21.out)
  replace HX24 := Lib.hid (((hb).block _ (by omega)).trans HX24.out)
  replace HX25 := Lib.hid (((hb).block _ (by omega)).trans HX25.out)
  replace HB := Lib.hid (HB.out.trans (hb.mono HB.out.size))
  clear hb
  have HX28 := HXN
  clear HXN
  obtain ⟨eap2, ebp2, -⟩ := two_cells HXp2.out
  obtain ⟨ea21, eb21, -⟩ := two_cells HX21.out
  obtain ⟨ea24, eb24, -⟩ := two_cells HX24.out
  obtain ⟨ea25, eb25, -⟩ := two_cells HX25.out
  obtain ⟨ea28, eb28, -⟩ := two_cells HX28.out
  go_wp2_with fail
  clear eap2 ebp2 ea21 eb21 ea24 eb24 ea25 eb25 ea28 eb28
  refine (eqAnswer_yes HO28.out.ans HO21.out.ans).mono ?_
  rintro e w_23 ⟨rfl, hb⟩
  have hs23 : w_22.heap.size ≤ w_23.heap.size := hb.size
  replace HO21 := Lib.hid (HO21.out.same hb)
  replace HO22 := Lib.hid (HO22.out.same hb)
  replace HO23 := Lib.hid (HO23.out.same hb)
  replace HO24 := Lib.hid (HO24.out.same hb)
  replace HO25 := Lib.hid (HO25.out.same hb)
  replace HO28 := Lib.hid (HO28.out.same hb)
  replace HXp2 := Lib.hid (((hb).block _ (by omega)).trans HXp2.out)
  replace HX21 := Lib.hid (((hb).block _ (by omega)).trans HX21.out)
  replace HX24 := Lib.hid (((hb).block _ (by omega)).trans HX24.out)
  replace HX25 := Lib.hid (((hb).block _ (by omega)).trans HX25.out)
  replace HX28 := Lib.hid (((hb).block _ (by omega)).trans HX28.out)
  replace HB := Lib.hid (HB.out.trans (hb.mono HB.out.size))
  clear hb
  obtain ⟨eap2, ebp2, -⟩ := two_cells HXp2.out
  obtain ⟨ea21, eb21, -⟩ := two_cells HX21.out
  obtain ⟨ea24, eb24, -⟩ := two_cells HX24.out
  obtain ⟨ea25, eb25, -⟩ := two_cells HX25.out
  obtain ⟨ea28, eb28, -⟩ := two_cells HX28.out
  go_wp2_with fail
  clear eap2 ebp2 ea21 eb21 ea24 eb24 ea25 eb25 ea28 eb28
  refine (heldAnswer_any (k := 1) (x := (chAns l0 l1 x2)) HO25.out.ans (by omega) (by omega)).mono ?_
  rintro e w_24 ⟨rfl, hb⟩
  have hs24 : w_23.heap.size ≤ w_24.heap.size := hb.size
  replace HO21 := Lib.hid (HO21.out.same hb)
  replace HO22 := Lib.hid (HO22.out.same hb)
  replace HO23 := Lib.hid (HO23.out.same hb)
  replace HO24 := Lib.hid (HO24.out.same hb)
  replace HO25 := Lib.hid (HO25.out.same hb)
  replace HO28 := Lib.hid (HO28.out.same hb)
  replace HXp2 := Lib.hid (((hb).block _ (by omega)).trans HXp2.out)
  replace HX21 := Lib.hid (((hb).block _ (by omega)).trans HX21.out)
  replace HX24 := Lib.hid (((hb).block _ (by omega)).trans HX24.out)
  replace HX25 := Lib.hid (((hb).block _ (by omega)).trans HX25.out)
  replace HX28 := Lib.hid (((hb).block _ (by omega)).trans HX28.out)
  replace HB := Lib.hid (HB.out.trans (hb.mono HB.out.size))
  clear hb
  obtain ⟨eap2, ebp2, -⟩ := two_cells HXp2.out
  obtain ⟨ea21, eb21, -⟩ := two_cells HX21.out
  obtain ⟨ea24, eb24, -⟩ := two_cells HX24.out
  obtain ⟨ea25, eb25, -⟩ := two_cells HX25.out
  obtain ⟨ea28, eb28, -⟩ := two_cells HX28.out
  go_wp2_with fail
  clear eap2 ebp2 ea21 eb21 ea24 eb24 ea25 eb25 ea28 eb28
  go_ret
  exact ⟨rfl, HB.out⟩

set_option maxRecDepth 100000 in
theorem lifted (os : Os) (started : os.Started) (H : Type) (enc : TypeId × Value → H) :
    ReturnsInHanded {} Try.checked os 9 .any (Rows.fnExactChooseAnswerSpec.pre6 enc Try.prog Try.f9 Rows.fnExactChooseAnswerRow.domain false) (Rows.fnExactChooseAnswerSpec.post enc Try.prog Try.f9 false true false false) := by
  refine returnsInHanded_of_change (C := Try.checked) own started (by kernel_rfl) Try.func9
    (ChangeSpec.witness6 (enc := enc) (C := Try.checked) false ⟨#[], #[.slice none 0 0, .slice none 0 0, .agg #[.slice none 0 0, .slice none 0 0]], []⟩ 8 (by kernel_rfl) (by kernel_rfl) (by kernel_rfl) (by kernel_rfl)) ?_
  intro W base args ds gs before hval0 hW hcnd _
  have hval : ∀ (j : Nat) t v, Try.f9.params[j]? = some t → args[j]? = some v → Value.okWide Try.prog W .any base t v := hval0
  have hW' := hW
  obtain ⟨p, q, hA0, hV, rfl, hfz, hnd⟩ := hW
  have hA : DataW.TrodAll enc Try.prog W 0 (fun _ => true) true Try.f9.params.toList args.toList ds p := hA0
  rw [Try.params9] at hA hval
  obtain ⟨v0, vs0, d0, ds0, p0, q0, hargs, rfl, rfl, h0, r0⟩ := trodAll_cons hA
  obtain ⟨v1, vs1, d1, ds1, p1, q1, rfl, rfl, rfl, h1, r1⟩ := trodAll_cons r0
  obtain ⟨v2, vs2, d2, ds2, p2, q2, rfl, rfl, rfl, h2, r2⟩ := trodAll_cons r1
  obtain ⟨rfl, rfl, rfl⟩ := trodAll_nil r2
  obtain rfl : args = #[v0, v1, v2] := by cases args; simp_all
  obtain ⟨rfl, rfl⟩ := trodVars_none hV
  have h0k := h0
  have hlt0 : ∀ x ∈ p0, x.block < W.heap.size := fun x hx => by simpa using hW'.lt x (by simp [hx])
  obtain ⟨a0, n0, c0, l0, rfl, K0, F0, R0⟩ := open_nums Try.underlying24 Try.underlying3 int_cells (hval 0 24 v0 rfl rfl) h0
  have h1k := h1
  have hlt1 : ∀ x ∈ p1, x.block < W.heap.size := fun x hx => by simpa using hW'.lt x (by simp [hx])
  obtain ⟨a1, n1, c1, l1, rfl, K1, F1, R1⟩ := open_nums Try.underlying24 Try.underlying3 int_cells (hval 1 24 v1 rfl rfl) h1
  have h2k := h2
  have hlt2 : ∀ x ∈ p2, x.block < W.heap.size := fun x hx => by simpa using hW'.lt x (by simp [hx])
  obtain ⟨x2, K2, F2⟩ := open_hel Try.underlying48 (by kernel_rfl) (by kernel_rfl) Try.underlying24 Try.underlying3 int_cells Try.underlying46 Try.underlying126 (by kernel_rfl) (by kernel_rfl) Try.underlying3 Try.underlying24 (hval 2 48 v2 rfl rfl) h2
  clear hA0 hval0
  simp only [List.append_nil] at hW'
  refine (walk a0 n0 c0 l0 a1 n1 c1 l1 v2 x2 W K0 F0 R0 K1 F1 R1 K2 F2).mono fun e W' ⟨he, hb⟩ => ?_
  subst he
  exact ⟨_, rfl, ⟨_, _, _, [], _, [], hW', (trodAll_cons_mk (shut_bool Try.underlying4 _) trodAll_mk0), (trodAll_cons_mk (Below.trod laidOut (by kernel_rfl) (of_decide_eq_true (by kernel_rfl)) h0k hb hlt0) (trodAll_cons_mk (Below.trod laidOut (by kernel_rfl) (of_decide_eq_true (by kernel_rfl)) h1k hb hlt1) (trodAll_cons_mk (Below.trod laidOut (by kernel_rfl) (of_decide_eq_true (by kernel_rfl)) h2k hb hlt2) trodAll_mk0))), rfl, hb.frame _, fun h => by cases h⟩⟩

theorem over : Rows.fnExactChooseAnswerRow.holds Try.pinned (OpenSpec.ofChange Rows.fnExactChooseAnswerSpec) :=
  OpenClaim.holds_of_wide 9 Try.f9 rfl rfl rfl rfl rfl rfl rfl ⟨rfl, rfl, rfl, rfl, rfl⟩ rfl rfl rfl rfl rfl (by kernel_rfl) Try.func9 (by kernel_rfl)
    (of_decide_eq_true (by kernel_rfl)) (by unfold Func.isWrapper; first | (rw [if_pos (by decide +kernel)]; kernel_rfl) | (rw [if_neg (by decide +kernel)]; exact ⟨rfl, rfl⟩))
    (fun os started H enc _ => lifted os started H enc)

theorem proved : Rows.FnExactChooseAnswerSaid :=
  over
end Go.Proofs.Ytcpnchjgklemgaa.fnExactChooseAnswer
