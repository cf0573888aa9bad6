/- Edits of answers: by the model. -/
import Derived.Test.YtcmjadfpifpknaaG22
import Derived.Test.YtcmjadfpifpknaaG23
import Derived.Test.YtcmjadfpifpknaaG11
namespace Go.Proofs.Ytcmjadfpifpknaa
open Go.ChangeShapes Go.WideShapes Go.ChangeAt Go.RowKit
set_option linter.unusedVariables false
set_option linter.unusedSimpArgs false

theorem specCopy_len {a : Option Addr} {n c : Nat} {l : List Vl} {w : World} (h : Vals w a n l) (hn : n ≤ 1048576) (hit : itemsOf l ≤ 1048576) :
    Calls Try.prog 32 #[.slice a n c] w (fun e w' => ∃ p q d, e = .returned (.slice p q d) ∧ OwnV 64 3 w' w.heap.size p q d l ∧ Below w.heap.size w w') :=
  (specCopy_any h hn hit).mono fun _ _ ⟨_, _, h1, h2, h3⟩ => ⟨_, _, _, h1, h2, h3⟩
set_option maxHeartbeats 4000000 in
set_option maxRecDepth 100000 in
theorem specEditA_0 {w : World} {v : Value} {x : Ans} {e : Et} (h : AnsW w v x) (hw : (Lit.int .i64 e.kind).wf = true) (hm : x.exts.length ≤ 1048576) (hit : itemsOf x.exts ≤ 1048576) (hk : ¬ e.kind = 4 ∧ ¬ e.kind = 5) :
    Calls Try.prog 15 #[v, .agg #[.int .i64 e.kind, .int .i64 e.n]] w (MadeAns w.heap.size (edA x e) w) := by
  have hed : edA x e = x := by
    unfold edA
    rw [if_neg hk.1, if_neg hk.2]
  rw [hed]
  obtain ⟨b, m, d, rfl, h2, hc2⟩ := h
  obtain ⟨hsz, hX, hE, hR, hB0⟩ := thrice w #[.int .i64 x.ver, .slice b m d] #[.int .i64 e.kind, .int .i64 e.n] #[.int .i64 0, .slice none 0 0] 43 34 43
  have hlm := h2.len
  have HV := Lib.hid (h2.same hB0)
  have CX := Lib.hid (two_cells hX)
  have CE := Lib.hid (two_cells hE)
  have HX := Lib.hid hX
  have HE := Lib.hid hE
  have HR0 := Lib.hid hR
  have HB := Lib.hid hB0
  have hk4 : (e.kind == 4) = false := by simpa using hk.1
  have hk5 : (e.kind == 5) = false := by simpa using hk.2
  clear h2 hed hk hX hE hR hB0
  unfold MadeAns
  go_enter Try.func15, Try.ntmps15
  go_wp2_with fail
  generalize (((w.alloc (.cells #[.int .i64 x.ver, .slice b m d] 43)).alloc (.cells #[.int .i64 e.kind, .int .i64 e.n] 34)).alloc (.cells #[.int .i64 0, .slice none 0 0] 43)) = W0 at *
  have HBd : Hid (Below W0.heap.size W0 W0.drew) := Lib.hid (Below.refl _ _).drew
  have hd0 : W0.heap.size ≤ W0.drew.heap.size := Nat.le_refl _
  apply ch_cut (ChR W0 x)
  case h =>
    refine wp_region_held_drew (S := fun w9 => (w9.cell? ⟨w.heap.size, 0, none⟩ = some (.int .i64 x.ver) ∧ w9.cell? ⟨w.heap.size, 1, none⟩ = some (.slice b m d)) ∧ w9.cell? ⟨w.heap.size + 1, 0, none⟩ = some (.int .i64 e.kind) ∧ w9.cell? ⟨w.heap.size + 1, 1, none⟩ = some (.int .i64 e.n)) (by kernel_rfl) ⟨⟨(cell_stay CX.out.1 HBd.out), (cell_stay CX.out.2.1 HBd.out)⟩, (cell_stay CE.out.1 HBd.out), (cell_stay CE.out.2.1 HBd.out)⟩ (fun hHeld => ?_)
    refine wpAnyH_take (i := 0) (v := ?v1) (by simp only [List.getElem?_toArray, List.getElem?_cons_succ, List.getElem?_cons_zero]; rfl) (by kernel_rfl) (by kernel_rfl) (by kernel_rfl) (by exact fun _ _ _ h => h) (Or.inl ⟨by rfl, fun w9 hS9 => ?hy1⟩) hHeld ?rest1
    case hy1 =>
      dsimp only at hS9
      obtain ⟨⟨y0, y1⟩, y2, y3⟩ := hS9
      go_simp
      try with_reducible rfl
    try simp only [Act.put, List.setIfInBounds_toArray, List.set_cons_zero, List.set_cons_succ]
    refine wpAnyH_take (i := 1) (v := ?v2) (by simp only [List.getElem?_toArray, List.getElem?_cons_succ, List.getElem?_cons_zero]; rfl) (by kernel_rfl) (by kernel_rfl) (by kernel_rfl) (by exact fun _ _ _ h => h) (Or.inl ⟨by rfl, fun w9 hS9 => ?hy2⟩) hHeld ?rest2
    case hy2 =>
      dsimp only at hS9
      obtain ⟨⟨y0, y1⟩, y2, y3⟩ := hS9
      go_simp
      try with_reducible rfl
    try simp only [Act.put, List.setIfInBounds_toArray, List.set_cons_zero, List.set_cons_succ]
    refine wpAnyH_take (i := 2) (v := ?v3) (by simp only [List.getElem?_toArray, List.getElem?_cons_succ, List.getElem?_cons_zero]; rfl) (by kernel_rfl) (by kernel_rfl) (by kernel_rfl) (by exact fun _ _ _ h => h) (Or.inl ⟨by rfl, fun w9 hS9 => ?hy3⟩) hHeld ?rest3
    case hy3 =>
      dsimp only at hS9
      obtain ⟨⟨y0, y1⟩, y2, y3⟩ := hS9
      go_simp
      try with_reducible rfl
    try simp only [Act.put, List.setIfInBounds_toArray, List.set_cons_zero, List.set_cons_succ]
    refine wpAnyH_take (i := 3) (v := ?v4) (by simp only [List.getElem?_toArray, List.getElem?_cons_succ, List.getElem?_cons_zero]; rfl) (by kernel_rfl) (by kernel_rfl) (by kernel_rfl) (by exact fun _ _ _ h => h) (Or.inl ⟨by rfl, fun w9 hS9 => ?hy4⟩) hHeld ?rest4
    case hy4 =>
      dsimp only at hS9
      obtain ⟨⟨y0, y1⟩, y2, y3⟩ := hS9
      go_simp
      try with_reducible rfl
    try simp only [Act.put, List.setIfInBounds_toArray, List.set_cons_zero, List.set_cons_succ]
    refine wpAnyH_ready (rs := [4, 6]) (by kernel_rfl) (by simp) (AllReadyH.cons (by simp only [List.getElem?_toArray, List.getElem?_cons_succ, List.getElem?_cons_zero]; rfl) (fun K hK => ?_) (AllReadyH.cons (by simp only [List.getElem?_toArray, List.getElem?_cons_succ, List.getElem?_cons_zero]; rfl) (fun K hK => ?_) AllReadyH.nil))
    · skip
      go_simp
      refine (specCopy_len (c := d) (HV.out.same HBd.out) (by omega) hit).mono ?_
      rintro e2 w2 ⟨b2, m2, d2, rfl, ho2, hb2⟩
      have HB2 : Hid (Below W0.heap.size W0 w2) := Lib.hid (HBd.out.trans (hb2.mono HBd.out.size))
      have HO2 : Hid (OwnAns w2.heap.size w2 W0.drew.heap.size (.agg #[.int .i64 x.ver, .slice b2 m2 d2]) x) := Lib.hid (own_ans ho2.lim (Nat.le_refl _) (Nat.le_refl _) (Nat.le_refl _))
      have hs2 : W0.drew.heap.size ≤ w2.heap.size := hb2.size
      clear ho2 hb2
      go_wp2_with fail
      refine hK.out _ _ ⟨⟨(cell_stay CX.out.1 HB2.out), (cell_stay CX.out.2.1 HB2.out)⟩, (cell_stay CE.out.1 HB2.out), (cell_stay CE.out.2.1 HB2.out)⟩ (fun hHeld => ?_)
      clear hK K
      try simp only [Act.put, List.setIfInBounds_toArray, List.set_cons_zero, List.set_cons_succ]
      refine wpAnyH_take (i := 5) (v := ?v5) (by simp only [List.getElem?_toArray, List.getElem?_cons_succ, List.getElem?_cons_zero]; rfl) (by kernel_rfl) (by kernel_rfl) (by kernel_rfl) (by exact fun _ _ _ h => h) (Or.inl ⟨by rfl, fun w9 hS9 => ?hy5⟩) hHeld ?rest5
      case hy5 =>
        dsimp only at hS9
        obtain ⟨⟨y0, y1⟩, y2, y3⟩ := hS9
        go_simp
        try with_reducible rfl
      try simp only [Act.put, List.setIfInBounds_toArray, List.set_cons_zero, List.set_cons_succ]
      refine wpAnyH_ready (rs := [6]) (by kernel_rfl) (by simp) (AllReadyH.cons (by simp only [List.getElem?_toArray, List.getElem?_cons_succ, List.getElem?_cons_zero]; rfl) (fun K hK => ?_) AllReadyH.nil)
      have HB4 : Hid (Below W0.heap.size W0 (World.alloc w2 (.cells #[.int .i64 0, .slice none 0 0] 43))) := Lib.hid (HB2.out.trans ((alloc_same w2 (.cells #[.int .i64 0, .slice none 0 0] 43)).mono HB2.out.size))
      go_simp
      refine hK.out _ _ ⟨⟨(cell_stay CX.out.1 HB4.out), (cell_stay CX.out.2.1 HB4.out)⟩, (cell_stay CE.out.1 HB4.out), (cell_stay CE.out.2.1 HB4.out)⟩ (fun hHeld => ?_)
      clear hK K
      try simp only [Act.put, List.setIfInBounds_toArray, List.set_cons_zero, List.set_cons_succ]
      refine wpAnyH_ready (rs := [7]) (by kernel_rfl) (by simp) (AllReadyH.cons (by simp only [List.getElem?_toArray, List.getElem?_cons_succ, List.getElem?_cons_zero]; rfl) (fun K hK => ?_) AllReadyH.nil)
      have HR := Lib.hid (chR_alloc (L := x) HB2.out ((HO2.out.lower hd0)))
      have HB6 : Hid (Below W0.heap.size W0 (World.alloc w2 (.cells #[.int .i64 x.ver, .slice b2 m2 d2] 43))) := Lib.hid HR.out.1
      go_simp
      refine hK.out _ _ ⟨⟨(cell_stay CX.out.1 HB6.out), (cell_stay CX.out.2.1 HB6.out)⟩, (cell_stay CE.out.1 HB6.out), (cell_stay CE.out.2.1 HB6.out)⟩ (fun hHeld => ?_)
      clear hK K
      try simp only [Act.put, List.setIfInBounds_toArray, List.set_cons_zero, List.set_cons_succ]
      refine wpAnyH_done (by kernel_rfl) ?_ _
      have HR9 := HR
      have hfin : ChR W0 x w2.heap.size b2 m2 d2 _ := HR9.out
      generalize w2.heap.size = g at hfin ⊢
      obtain ⟨u3, -⟩ : ∃ u : Value, u = undef := ⟨_, rfl⟩
      obtain ⟨u5, -⟩ : ∃ u : Value, u = undef := ⟨_, rfl⟩
      obtain ⟨u7, -⟩ : ∃ u : Value, u = undef := ⟨_, rfl⟩
      exact ⟨g, u3, u5, u7, b2, m2, d2, rfl, hfin⟩
    · skip
      have HB4 : Hid (Below W0.heap.size W0 (World.alloc W0 (.cells #[.int .i64 0, .slice none 0 0] 43)).drew) := Lib.hid (alloc_same W0 (.cells #[.int .i64 0, .slice none 0 0] 43)).drew
      have HZ : Hid ((World.alloc W0 (.cells #[.int .i64 0, .slice none 0 0] 43)).drew.heap[W0.heap.size]? = some (.cells #[.int .i64 0, .slice none 0 0] 43 (0, 0))) := Lib.hid (heap_alloc_new W0 _)
      have HgZ : Hid (W0.heap.size < (World.alloc W0 (.cells #[.int .i64 0, .slice none 0 0] 43)).drew.heap.size) := Lib.hid (by simp)
      go_simp
      refine hK.out _ _ ⟨⟨(cell_stay CX.out.1 HB4.out), (cell_stay CX.out.2.1 HB4.out)⟩, (cell_stay CE.out.1 HB4.out), (cell_stay CE.out.2.1 HB4.out)⟩ (fun hHeld => ?_)
      clear hK K
      try simp only [Act.put, List.setIfInBounds_toArray, List.set_cons_zero, List.set_cons_succ]
      refine wpAnyH_ready (rs := [4]) (by kernel_rfl) (by simp) (AllReadyH.cons (by simp only [List.getElem?_toArray, List.getElem?_cons_succ, List.getElem?_cons_zero]; rfl) (fun K hK => ?_) AllReadyH.nil)
      go_simp
      refine (specCopy_len (c := d) (HV.out.same HB4.out) (by omega) hit).mono ?_
      rintro e2 w2 ⟨b2, m2, d2, rfl, ho2, hb2⟩
      have HB2 : Hid (Below W0.heap.size W0 w2) := Lib.hid (HB4.out.trans (hb2.mono HB4.out.size))
      have HO2 : Hid (OwnAns w2.heap.size w2 (World.alloc W0 (.cells #[.int .i64 0, .slice none 0 0] 43)).drew.heap.size (.agg #[.int .i64 x.ver, .slice b2 m2 d2]) x) := Lib.hid (own_ans ho2.lim (Nat.le_refl _) (Nat.le_refl _) (Nat.le_refl _))
      have hs2 : (World.alloc W0 (.cells #[.int .i64 0, .slice none 0 0] 43)).drew.heap.size ≤ w2.heap.size := hb2.size
      replace HZ := Lib.hid ((hb2.block _ HgZ.out).trans HZ.out)
      clear ho2 hb2
      go_wp2_with fail
      refine hK.out _ _ ⟨⟨(cell_stay CX.out.1 HB2.out), (cell_stay CX.out.2.1 HB2.out)⟩, (cell_stay CE.out.1 HB2.out), (cell_stay CE.out.2.1 HB2.out)⟩ (fun hHeld => ?_)
      clear hK K
      try simp only [Act.put, List.setIfInBounds_toArray, List.set_cons_zero, List.set_cons_succ]
      refine wpAnyH_take (i := 5) (v := ?v6) (by simp only [List.getElem?_toArray, List.getElem?_cons_succ, List.getElem?_cons_zero]; rfl) (by kernel_rfl) (by kernel_rfl) (by kernel_rfl) (by exact fun _ _ _ h => h) (Or.inl ⟨by rfl, fun w9 hS9 => ?hy6⟩) hHeld ?rest6
      case hy6 =>
        dsimp only at hS9
        obtain ⟨⟨y0, y1⟩, y2, y3⟩ := hS9
        go_simp
        try with_reducible rfl
      try simp only [Act.put, List.setIfInBounds_toArray, List.set_cons_zero, List.set_cons_succ]
      refine wpAnyH_ready (rs := [7]) (by kernel_rfl) (by simp) (AllReadyH.cons (by simp only [List.getElem?_toArray, List.getElem?_cons_succ, List.getElem?_cons_zero]; rfl) (fun K hK => ?_) AllReadyH.nil)
      have HR := Lib.hid (chR_store (pw := W0) (w := (World.alloc W0 (.cells #[.int .i64 0, .slice none 0 0] 43)).drew) (L := x) HB2.out (Nat.le_refl _) HZ.out HgZ.out hs2 HO2.out)
      have HB6 : Hid (Below W0.heap.size W0 ((w2.setCell ⟨W0.heap.size, 0, none⟩ (.int .i64 x.ver)).setCell ⟨W0.heap.size, 1, none⟩ (.slice b2 m2 d2))) := Lib.hid HR.out.1
      obtain ⟨rm0, rm1, rq0, rq1⟩ := two_cells HZ.out
      obtain ⟨rz0, rz1, -⟩ := two_put HZ.out (.int .i64 x.ver) (.slice b2 m2 d2)
      go_simp
      refine hK.out _ _ ⟨⟨(cell_stay CX.out.1 HB6.out), (cell_stay CX.out.2.1 HB6.out)⟩, (cell_stay CE.out.1 HB6.out), (cell_stay CE.out.2.1 HB6.out)⟩ (fun hHeld => ?_)
      clear hK K
      try simp only [Act.put, List.setIfInBounds_toArray, List.set_cons_zero, List.set_cons_succ]
      refine wpAnyH_done (by kernel_rfl) ?_ _
      have HR9 := HR
      have hfin : ChR W0 x W0.heap.size b2 m2 d2 _ := HR9.out
      generalize W0.heap.size = g at hfin ⊢
      obtain ⟨u3, -⟩ : ∃ u : Value, u = undef := ⟨_, rfl⟩
      obtain ⟨u5, -⟩ : ∃ u : Value, u = undef := ⟨_, rfl⟩
      obtain ⟨u7, -⟩ : ∃ u : Value, u = undef := ⟨_, rfl⟩
      exact ⟨g, u3, u5, u7, b2, m2, d2, rfl, hfin⟩
  intro g u3 u5 u7 b2 m2 d2 W1 hR
  obtain ⟨hb, hbox, hgp, lo, S, ho, hlo, hS, hgd⟩ := hR
  obtain ⟨b9, m9, d9, lo1, hi1, heq, hov, hl1, hl2, hl3⟩ := ho
  obtain ⟨rfl, rfl, rfl⟩ : b2 = b9 ∧ m2 = m9 ∧ d2 = d9 := by simpa using heq
  have HBW := Lib.hid hb
  have hsW := hb.size
  have HG := Lib.hid hbox
  have O2 := Lib.hid hov
  have HXW := Lib.hid ((hb.block w.heap.size (by omega)).trans HX.out)
  have HEW := Lib.hid ((hb.block (w.heap.size + 1) (by omega)).trans HE.out)
  have HRW := Lib.hid ((hb.block (w.heap.size + 2) (by omega)).trans HR0.out)
  replace HV := Lib.hid (HV.out.same hb)
  clear hb hbox hov heq CX CE HX HE HR0 HBd
  obtain ⟨x0, x1, -⟩ := two_cells HXW.out
  obtain ⟨y0, y1, -⟩ := two_cells HEW.out
  obtain ⟨f0, f1, f2, f3⟩ := two_cells HG.out
  have HR9 := Lib.hid (HRW.out)
  obtain ⟨rm0, rm1, rq0, rq1⟩ := two_cells HR9.out
  obtain ⟨z0, z1, -⟩ := two_put HR9.out (.int .i64 x.ver) (.slice b2 m2 d2)
  have hgr := set2_grown W1 (w.heap.size + 2) (.int .i64 x.ver) (.slice b2 m2 d2)
  go_wp2_with fail
  (try simp only [Exit.inBlock, Exit.then])
  refine bodyPost_ret (by simp [results, Try.results15, go_sem, z0, z1]; try rfl) rfl ?_
  have hfin : OwnAns W1.heap.size W1 W0.heap.size (.agg #[.int .i64 x.ver, .slice b2 m2 d2]) _ := own_ans (lo := lo1) (hi := hi1) O2.out (by omega) (by omega) (Nat.le_refl _)
  exact ⟨_, rfl, ((hfin.aside (one_inside hgr) (Or.inl (by omega))).lower (by omega)).top (by simp) (Nat.le_refl _), (HB.out.trans (HBW.out.mono (by omega))).grown hgr (by first | omega | (simp; omega)) (fun r e => by cases e; omega)⟩
set_option maxHeartbeats 4000000 in
set_option maxRecDepth 100000 in
theorem specEditA_4n {w : World} {v : Value} {x : Ans} {e : Et} (h : AnsW w v x) (hw : (Lit.int .i64 e.kind).wf = true) (hm : x.exts.length ≤ 1048576) (hit : itemsOf x.exts ≤ 1048576) (hk : e.kind = 4) (hv : inBd e.n 1 9 = false) :
    Calls Try.prog 15 #[v, .agg #[.int .i64 e.kind, .int .i64 e.n]] w (MadeAns w.heap.size (edA x e) w) := by
  have hed : edA x e = x := by
    unfold edA setV
    rw [if_pos hk, if_neg (by rw [hv]; decide)]
  rw [hed]
  obtain ⟨b, m, d, rfl, h2, hc2⟩ := h
  obtain ⟨hsz, hX, hE, hR, hB0⟩ := thrice w #[.int .i64 x.ver, .slice b m d] #[.int .i64 e.kind, .int .i64 e.n] #[.int .i64 0, .slice none 0 0] 43 34 43
  have hlm := h2.len
  have HV := Lib.hid (h2.same hB0)
  have CX := Lib.hid (two_cells hX)
  have CE := Lib.hid (two_cells hE)
  have HX := Lib.hid hX
  have HE := Lib.hid hE
  have HR0 := Lib.hid hR
  have HB := Lib.hid hB0
  have hk4 : (e.kind == 4) = true := by rw [hk]; rfl
  have hk5 : (e.kind == 5) = false := by rw [hk]; rfl
  clear h2 hed hk hX hE hR hB0
  unfold MadeAns
  go_enter Try.func15, Try.ntmps15
  go_wp2_with fail
  generalize (((w.alloc (.cells #[.int .i64 x.ver, .slice b m d] 43)).alloc (.cells #[.int .i64 e.kind, .int .i64 e.n] 34)).alloc (.cells #[.int .i64 0, .slice none 0 0] 43)) = W0 at *
  have HBd : Hid (Below W0.heap.size W0 W0.drew) := Lib.hid (Below.refl _ _).drew
  have hd0 : W0.heap.size ≤ W0.drew.heap.size := Nat.le_refl _
  apply ch_cut (ChR W0 x)
  case h =>
    refine wp_region_held_drew (S := fun w9 => (w9.cell? ⟨w.heap.size, 0, none⟩ = some (.int .i64 x.ver) ∧ w9.cell? ⟨w.heap.size, 1, none⟩ = some (.slice b m d)) ∧ w9.cell? ⟨w.heap.size + 1, 0, none⟩ = some (.int .i64 e.kind) ∧ w9.cell? ⟨w.heap.size + 1, 1, none⟩ = some (.int .i64 e.n)) (by kernel_rfl) ⟨⟨(cell_stay CX.out.1 HBd.out), (cell_stay CX.out.2.1 HBd.out)⟩, (cell_stay CE.out.1 HBd.out), (cell_stay CE.out.2.1 HBd.out)⟩ (fun hHeld => ?_)
    refine wpAnyH_take (i := 0) (v := ?v7) (by simp only [List.getElem?_toArray, List.getElem?_cons_succ, List.getElem?_cons_zero]; rfl) (by kernel_rfl) (by kernel_rfl) (by kernel_rfl) (by exact fun _ _ _ h => h) (Or.inl ⟨by rfl, fun w9 hS9 => ?hy7⟩) hHeld ?rest7
    case hy7 =>
      dsimp only at hS9
      obtain ⟨⟨y0, y1⟩, y2, y3⟩ := hS9
      go_simp
      try with_reducible rfl
    try simp only [Act.put, List.setIfInBounds_toArray, List.set_cons_zero, List.set_cons_succ]
    refine wpAnyH_take (i := 1) (v := ?v8) (by simp only [List.getElem?_toArray, List.getElem?_cons_succ, List.getElem?_cons_zero]; rfl) (by kernel_rfl) (by kernel_rfl) (by kernel_rfl) (by exact fun _ _ _ h => h) (Or.inl ⟨by rfl, fun w9 hS9 => ?hy8⟩) hHeld ?rest8
    case hy8 =>
      dsimp only at hS9
      obtain ⟨⟨y0, y1⟩, y2, y3⟩ := hS9
      go_simp
      try with_reducible rfl
    try simp only [Act.put, List.setIfInBounds_toArray, List.set_cons_zero, List.set_cons_succ]
    refine wpAnyH_take (i := 2) (v := ?v9) (by simp only [List.getElem?_toArray, List.getElem?_cons_succ, List.getElem?_cons_zero]; rfl) (by kernel_rfl) (by kernel_rfl) (by kernel_rfl) (by exact fun _ _ _ h => h) (Or.inl ⟨by rfl, fun w9 hS9 => ?hy9⟩) hHeld ?rest9
    case hy9 =>
      dsimp only at hS9
      obtain ⟨⟨y0, y1⟩, y2, y3⟩ := hS9
      go_simp
      try with_reducible rfl
    try simp only [Act.put, List.setIfInBounds_toArray, List.set_cons_zero, List.set_cons_succ]
    refine wpAnyH_take (i := 3) (v := ?v10) (by simp only [List.getElem?_toArray, List.getElem?_cons_succ, List.getElem?_cons_zero]; rfl) (by kernel_rfl) (by kernel_rfl) (by kernel_rfl) (by exact fun _ _ _ h => h) (Or.inl ⟨by rfl, fun w9 hS9 => ?hy10⟩) hHeld ?rest10
    case hy10 =>
      dsimp only at hS9
      obtain ⟨⟨y0, y1⟩, y2, y3⟩ := hS9
      go_simp
      try with_reducible rfl
    try simp only [Act.put, List.setIfInBounds_toArray, List.set_cons_zero, List.set_cons_succ]
    refine wpAnyH_ready (rs := [4, 6]) (by kernel_rfl) (by simp) (AllReadyH.cons (by simp only [List.getElem?_toArray, List.getElem?_cons_succ, List.getElem?_cons_zero]; rfl) (fun K hK => ?_) (AllReadyH.cons (by simp only [List.getElem?_toArray, List.getElem?_cons_succ, List.getElem?_cons_zero]; rfl) (fun K hK => ?_) AllReadyH.nil))
    · skip
      go_simp
      refine (specCopy_len (c := d) (HV.out.same HBd.out) (by omega) hit).mono ?_
      rintro e2 w2 ⟨b2, m2, d2, rfl, ho2, hb2⟩
      have HB2 : Hid (Below W0.heap.size W0 w2) := Lib.hid (HBd.out.trans (hb2.mono HBd.out.size))
      have HO2 : Hid (OwnAns w2.heap.size w2 W0.drew.heap.size (.agg #[.int .i64 x.ver, .slice b2 m2 d2]) x) := Lib.hid (own_ans ho2.lim (Nat.le_refl _) (Nat.le_refl _) (Nat.le_refl _))
      have hs2 : W0.drew.heap.size ≤ w2.heap.size := hb2.size
      clear ho2 hb2
      go_wp2_with fail
      refine hK.out _ _ ⟨⟨(cell_stay CX.out.1 HB2.out), (cell_stay CX.out.2.1 HB2.out)⟩, (cell_stay CE.out.1 HB2.out), (cell_stay CE.out.2.1 HB2.out)⟩ (fun hHeld => ?_)
      clear hK K
      try simp only [Act.put, List.setIfInBounds_toArray, List.set_cons_zero, List.set_cons_succ]
      refine wpAnyH_take (i := 5) (v := ?v11) (by simp only [List.getElem?_toArray, List.getElem?_cons_succ, List.getElem?_cons_zero]; rfl) (by kernel_rfl) (by kernel_rfl) (by kernel_rfl) (by exact fun _ _ _ h => h) (Or.inl ⟨by rfl, fun w9 hS9 => ?hy11⟩) hHeld ?rest11
      case hy11 =>
        dsimp only at hS9
        obtain ⟨⟨y0, y1⟩, y2, y3⟩ := hS9
        go_simp
        try with_reducible rfl
      try simp only [Act.put, List.setIfInBounds_toArray, List.set_cons_zero, List.set_cons_succ]
      refine wpAnyH_ready (rs := [6]) (by kernel_rfl) (by simp) (AllReadyH.cons (by simp only [List.getElem?_toArray, List.getElem?_cons_succ, List.getElem?_cons_zero]; rfl) (fun K hK => ?_) AllReadyH.nil)
      have HB4 : Hid (Below W0.heap.size W0 (World.alloc w2 (.cells #[.int .i64 0, .slice none 0 0] 43))) := Lib.hid (HB2.out.trans ((alloc_same w2 (.cells #[.int .i64 0, .slice none 0 0] 43)).mono HB2.out.size))
      go_simp
      refine hK.out _ _ ⟨⟨(cell_stay CX.out.1 HB4.out), (cell_stay CX.out.2.1 HB4.out)⟩, (cell_stay CE.out.1 HB4.out), (cell_stay CE.out.2.1 HB4.out)⟩ (fun hHeld => ?_)
      clear hK K
      try simp only [Act.put, List.setIfInBounds_toArray, List.set_cons_zero, List.set_cons_succ]
      refine wpAnyH_ready (rs := [7]) (by kernel_rfl) (by simp) (AllReadyH.cons (by simp only [List.getElem?_toArray, List.getElem?_cons_succ, List.getElem?_cons_zero]; rfl) (fun K hK => ?_) AllReadyH.nil)
      have HR := Lib.hid (chR_alloc (L := x) HB2.out ((HO2.out.lower hd0)))
      have HB6 : Hid (Below W0.heap.size W0 (World.alloc w2 (.cells #[.int .i64 x.ver, .slice b2 m2 d2] 43))) := Lib.hid HR.out.1
      go_simp
      refine hK.out _ _ ⟨⟨(cell_stay CX.out.1 HB6.out), (cell_stay CX.out.2.1 HB6.out)⟩, (cell_stay CE.out.1 HB6.out), (cell_stay CE.out.2.1 HB6.out)⟩ (fun hHeld => ?_)
      clear hK K
      try simp only [Act.put, List.setIfInBounds_toArray, List.set_cons_zero, List.set_cons_succ]
      refine wpAnyH_done (by kernel_rfl) ?_ _
      have HR9 := HR
      have hfin : ChR W0 x w2.heap.size b2 m2 d2 _ := HR9.out
      generalize w2.heap.size = g at hfin ⊢
      obtain ⟨u3, -⟩ : ∃ u : Value, u = undef := ⟨_, rfl⟩
      obtain ⟨u5, -⟩ : ∃ u : Value, u = undef := ⟨_, rfl⟩
      obtain ⟨u7, -⟩ : ∃ u : Value, u = undef := ⟨_, rfl⟩
      exact ⟨g, u3, u5, u7, b2, m2, d2, rfl, hfin⟩
    · skip
      have HB4 : Hid (Below W0.heap.size W0 (World.alloc W0 (.cells #[.int .i64 0, .slice none 0 0] 43)).drew) := Lib.hid (alloc_same W0 (.cells #[.int .i64 0, .slice none 0 0] 43)).drew
      have HZ : Hid ((World.alloc W0 (.cells #[.int .i64 0, .slice none 0 0] 43)).drew.heap[W0.heap.size]? = some (.cells #[.int .i64 0, .slice none 0 0] 43 (0, 0))) := Lib.hid (heap_alloc_new W0 _)
      have HgZ : Hid (W0.heap.size < (World.alloc W0 (.cells #[.int .i64 0, .slice none 0 0] 43)).drew.heap.size) := Lib.hid (by simp)
      go_simp
      refine hK.out _ _ ⟨⟨(cell_stay CX.out.1 HB4.out), (cell_stay CX.out.2.1 HB4.out)⟩, (cell_stay CE.out.1 HB4.out), (cell_stay CE.out.2.1 HB4.out)⟩ (fun hHeld => ?_)
      clear hK K
      try simp only [Act.put, List.setIfInBounds_toArray, List.set_cons_zero, List.set_cons_succ]
      refine wpAnyH_ready (rs := [4]) (by kernel_rfl) (by simp) (AllReadyH.cons (by simp only [List.getElem?_toArray, List.getElem?_cons_succ, List.getElem?_cons_zero]; rfl) (fun K hK => ?_) AllReadyH.nil)
      go_simp
      refine (specCopy_len (c := d) (HV.out.same HB4.out) (by omega) hit).mono ?_
      rintro e2 w2 ⟨b2, m2, d2, rfl, ho2, hb2⟩
      have HB2 : Hid (Below W0.heap.size W0 w2) := Lib.hid (HB4.out.trans (hb2.mono HB4.out.size))
      have HO2 : Hid (OwnAns w2.heap.size w2 (World.alloc W0 (.cells #[.int .i64 0, .slice none 0 0] 43)).drew.heap.size (.agg #[.int .i64 x.ver, .slice b2 m2 d2]) x) := Lib.hid (own_ans ho2.lim (Nat.le_refl _) (Nat.le_refl _) (Nat.le_refl _))
      have hs2 : (World.alloc W0 (.cells #[.int .i64 0, .slice none 0 0] 43)).drew.heap.size ≤ w2.heap.size := hb2.size
      replace HZ := Lib.hid ((hb2.block _ HgZ.out).trans HZ.out)
      clear ho2 hb2
      go_wp2_with fail
      refine hK.out _ _ ⟨⟨(cell_stay CX.out.1 HB2.out), (cell_stay CX.out.2.1 HB2.out)⟩, (cell_stay CE.out.1 HB2.out), (cell_stay CE.out.2.1 HB2.out)⟩ (fun hHeld => ?_)
      clear hK K
      try simp only [Act.put, List.setIfInBounds_toArray, List.set_cons_zero, List.set_cons_succ]
      refine wpAnyH_take (i := 5) (v := ?v12) (by simp only [List.getElem?_toArray, List.getElem?_cons_succ, List.getElem?_cons_zero]; rfl) (by kernel_rfl) (by kernel_rfl) (by kernel_rfl) (by exact fun _ _ _ h => h) (Or.inl ⟨by rfl, fun w9 hS9 => ?hy12⟩) hHeld ?rest12
      case hy12 =>
        dsimp only at hS9
        obtain ⟨⟨y0, y1⟩, y2, y3⟩ := hS9
        go_simp
        try with_reducible rfl
      try simp only [Act.put, List.setIfInBounds_toArray, List.set_cons_zero, List.set_cons_succ]
      refine wpAnyH_ready (rs := [7]) (by kernel_rfl) (by simp) (AllReadyH.cons (by simp only [List.getElem?_toArray, List.getElem?_cons_succ, List.getElem?_cons_zero]; rfl) (fun K hK => ?_) AllReadyH.nil)
      have HR := Lib.hid (chR_store (pw := W0) (w := (World.alloc W0 (.cells #[.int .i64 0, .slice none 0 0] 43)).drew) (L := x) HB2.out (Nat.le_refl _) HZ.out HgZ.out hs2 HO2.out)
      have HB6 : Hid (Below W0.heap.size W0 ((w2.setCell ⟨W0.heap.size, 0, none⟩ (.int .i64 x.ver)).setCell ⟨W0.heap.size, 1, none⟩ (.slice b2 m2 d2))) := Lib.hid HR.out.1
      obtain ⟨rm0, rm1, rq0, rq1⟩ := two_cells HZ.out
      obtain ⟨rz0, rz1, -⟩ := two_put HZ.out (.int .i64 x.ver) (.slice b2 m2 d2)
      go_simp
      refine hK.out _ _ ⟨⟨(cell_stay CX.out.1 HB6.out), (cell_stay CX.out.2.1 HB6.out)⟩, (cell_stay CE.out.1 HB6.out), (cell_stay CE.out.2.1 HB6.out)⟩ (fun hHeld => ?_)
      clear hK K
      try simp only [Act.put, List.setIfInBounds_toArray, List.set_cons_zero, List.set_cons_succ]
      refine wpAnyH_done (by kernel_rfl) ?_ _
      have HR9 := HR
      have hfin : ChR W0 x W0.heap.size b2 m2 d2 _ := HR9.out
      generalize W0.heap.size = g at hfin ⊢
      obtain ⟨u3, -⟩ : ∃ u : Value, u = undef := ⟨_, rfl⟩
      obtain ⟨u5, -⟩ : ∃ u : Value, u = undef := ⟨_, rfl⟩
      obtain ⟨u7, -⟩ : ∃ u : Value, u = undef := ⟨_, rfl⟩
      exact ⟨g, u3, u5, u7, b2, m2, d2, rfl, hfin⟩
  intro g u3 u5 u7 b2 m2 d2 W1 hR
  obtain ⟨hb, hbox, hgp, lo, S, ho, hlo, hS, hgd⟩ := hR
  obtain ⟨b9, m9, d9, lo1, hi1, heq, hov, hl1, hl2, hl3⟩ := ho
  obtain ⟨rfl, rfl, rfl⟩ : b2 = b9 ∧ m2 = m9 ∧ d2 = d9 := by simpa using heq
  have HBW := Lib.hid hb
  have hsW := hb.size
  have HG := Lib.hid hbox
  have O2 := Lib.hid hov
  have HXW := Lib.hid ((hb.block w.heap.size (by omega)).trans HX.out)
  have HEW := Lib.hid ((hb.block (w.heap.size + 1) (by omega)).trans HE.out)
  have HRW := Lib.hid ((hb.block (w.heap.size + 2) (by omega)).trans HR0.out)
  replace HV := Lib.hid (HV.out.same hb)
  clear hb hbox hov heq CX CE HX HE HR0 HBd
  obtain ⟨x0, x1, -⟩ := two_cells HXW.out
  obtain ⟨y0, y1, -⟩ := two_cells HEW.out
  obtain ⟨f0, f1, f2, f3⟩ := two_cells HG.out
  have HL : Hid (Calls Try.prog 46 #[.int .i64 e.n, .int .i64 1, .int .i64 9] W1 fun e w' => e = .returned (.bool false) ∧ w' = W1) := Lib.hid (hv ▸ l1R_b e.n 1 9 W1)
  go_wp2_with fail
  refine HL.out.mono ?_
  rintro e5 w5 ⟨rfl, hw5⟩
  subst hw5
  have HR9 := Lib.hid (HRW.out)
  obtain ⟨rm0, rm1, rq0, rq1⟩ := two_cells HR9.out
  obtain ⟨z0, z1, -⟩ := two_put HR9.out (.int .i64 x.ver) (.slice b2 m2 d2)
  have hgr := set2_grown w5 (w.heap.size + 2) (.int .i64 x.ver) (.slice b2 m2 d2)
  go_wp2_with fail
  (try simp only [Exit.inBlock, Exit.then])
  refine bodyPost_ret (by simp [results, Try.results15, go_sem, z0, z1]; try rfl) rfl ?_
  have hfin : OwnAns w5.heap.size w5 W0.heap.size (.agg #[.int .i64 x.ver, .slice b2 m2 d2]) _ := own_ans (lo := lo1) (hi := hi1) O2.out (by omega) (by omega) (Nat.le_refl _)
  exact ⟨_, rfl, ((hfin.aside (one_inside hgr) (Or.inl (by omega))).lower (by omega)).top (by simp) (Nat.le_refl _), (HB.out.trans (HBW.out.mono (by omega))).grown hgr (by first | omega | (simp; omega)) (fun r e => by cases e; omega)⟩
set_option maxHeartbeats 4000000 in
set_option maxRecDepth 100000 in
theorem specEditA_4y {w : World} {v : Value} {x : Ans} {e : Et} (h : AnsW w v x) (hw : (Lit.int .i64 e.kind).wf = true) (hm : x.exts.length ≤ 1048576) (hit : itemsOf x.exts ≤ 1048576) (hk : e.kind = 4) (hv : inBd e.n 1 9 = true) :
    Calls Try.prog 15 #[v, .agg #[.int .i64 e.kind, .int .i64 e.n]] w (MadeAns w.heap.size (edA x e) w) := by
  have hed : edA x e = (⟨e.n, x.exts⟩ : Ans) := by
    unfold edA setV
    rw [if_pos hk, if_pos hv]
  rw [hed]
  obtain ⟨b, m, d, rfl, h2, hc2⟩ := h
  obtain ⟨hsz, hX, hE, hR, hB0⟩ := thrice w #[.int .i64 x.ver, .slice b m d] #[.int .i64 e.kind, .int .i64 e.n] #[.int .i64 0, .slice none 0 0] 43 34 43
  have hlm := h2.len
  have HV := Lib.hid (h2.same hB0)
  have CX := Lib.hid (two_cells hX)
  have CE := Lib.hid (two_cells hE)
  have HX := Lib.hid hX
  have HE := Lib.hid hE
  have HR0 := Lib.hid hR
  have HB := Lib.hid hB0
  have hk4 : (e.kind == 4) = true := by rw [hk]; rfl
  have hk5 : (e.kind == 5) = false := by rw [hk]; rfl
  clear h2 hed hk hX hE hR hB0
  unfold MadeAns
  go_enter Try.func15, Try.ntmps15
  go_wp2_with fail
  generalize (((w.alloc (.cells #[.int .i64 x.ver, .slice b m d] 43)).alloc (.cells #[.int .i64 e.kind, .int .i64 e.n] 34)).alloc (.cells #[.int .i64 0, .slice none 0 0] 43)) = W0 at *
  have HBd : Hid (Below W0.heap.size W0 W0.drew) := Lib.hid (Below.refl _ _).drew
  have hd0 : W0.heap.size ≤ W0.drew.heap.size := Nat.le_refl _
  apply ch_cut (ChR W0 x)
  case h =>
    refine wp_region_held_drew (S := fun w9 => (w9.cell? ⟨w.heap.size, 0, none⟩ = some (.int .i64 x.ver) ∧ w9.cell? ⟨w.heap.size, 1, none⟩ = some (.slice b m d)) ∧ w9.cell? ⟨w.heap.size + 1, 0, none⟩ = some (.int .i64 e.kind) ∧ w9.cell? ⟨w.heap.size + 1, 1, none⟩ = some (.int .i64 e.n)) (by kernel_rfl) ⟨⟨(cell_stay CX.out.1 HBd.out), (cell_stay CX.out.2.1 HBd.out)⟩, (cell_stay CE.out.1 HBd.out), (cell_stay CE.out.2.1 HBd.out)⟩ (fun hHeld => ?_)
    refine wpAnyH_take (i := 0) (v := ?v13) (by simp only [List.getElem?_toArray, List.getElem?_cons_succ, List.getElem?_cons_zero]; rfl) (by kernel_rfl) (by kernel_rfl) (by kernel_rfl) (by exact fun _ _ _ h => h) (Or.inl ⟨by rfl, fun w9 hS9 => ?hy13⟩) hHeld ?rest13
    case hy13 =>
      dsimp only at hS9
      obtain ⟨⟨y0, y1⟩, y2, y3⟩ := hS9
      go_simp
      try with_reducible rfl
    try simp only [Act.put, List.setIfInBounds_toArray, List.set_cons_zero, List.set_cons_succ]
    refine wpAnyH_take (i := 1) (v := ?v14) (by simp only [List.getElem?_toArray, List.getElem?_cons_succ, List.getElem?_cons_zero]; rfl) (by kernel_rfl) (by kernel_rfl) (by kernel_rfl) (by exact fun _ _ _ h => h) (Or.inl ⟨by rfl, fun w9 hS9 => ?hy14⟩) hHeld ?rest14
    case hy14 =>
      dsimp only at hS9
      obtain ⟨⟨y0, y1⟩, y2, y3⟩ := hS9
      go_simp
      try with_reducible rfl
    try simp only [Act.put, List.setIfInBounds_toArray, List.set_cons_zero, List.set_cons_succ]
    refine wpAnyH_take (i := 2) (v := ?v15) (by simp only [List.getElem?_toArray, List.getElem?_cons_succ, List.getElem?_cons_zero]; rfl) (by kernel_rfl) (by kernel_rfl) (by kernel_rfl) (by exact fun _ _ _ h => h) (Or.inl ⟨by rfl, fun w9 hS9 => ?hy15⟩) hHeld ?rest15
    case hy15 =>
      dsimp only at hS9
      obtain ⟨⟨y0, y1⟩, y2, y3⟩ := hS9
      go_simp
      try with_reducible rfl
    try simp only [Act.put, List.setIfInBounds_toArray, List.set_cons_zero, List.set_cons_succ]
    refine wpAnyH_take (i := 3) (v := ?v16) (by simp only [List.getElem?_toArray, List.getElem?_cons_succ, List.getElem?_cons_zero]; rfl) (by kernel_rfl) (by kernel_rfl) (by kernel_rfl) (by exact fun _ _ _ h => h) (Or.inl ⟨by rfl, fun w9 hS9 => ?hy16⟩) hHeld ?rest16
    case hy16 =>
      dsimp only at hS9
      obtain ⟨⟨y0, y1⟩, y2, y3⟩ := hS9
      go_simp
      try with_reducible rfl
    try simp only [Act.put, List.setIfInBounds_toArray, List.set_cons_zero, List.set_cons_succ]
    refine wpAnyH_ready (rs := [4, 6]) (by kernel_rfl) (by simp) (AllReadyH.cons (by simp only [List.getElem?_toArray, List.getElem?_cons_succ, List.getElem?_cons_zero]; rfl) (fun K hK => ?_) (AllReadyH.cons (by simp only [List.getElem?_toArray, List.getElem?_cons_succ, List.getElem?_cons_zero]; rfl) (fun K hK => ?_) AllReadyH.nil))
    · skip
      go_simp
      refine (specCopy_len (c := d) (HV.out.same HBd.out) (by omega) hit).mono ?_
      rintro e2 w2 ⟨b2, m2, d2, rfl, ho2, hb2⟩
      have HB2 : Hid (Below W0.heap.size W0 w2) := Lib.hid (HBd.out.trans (hb2.mono HBd.out.size))
      have HO2 : Hid (OwnAns w2.heap.size w2 W0.drew.heap.size (.agg #[.int .i64 x.ver, .slice b2 m2 d2]) x) := Lib.hid (own_ans ho2.lim (Nat.le_refl _) (Nat.le_refl _) (Nat.le_refl _))
      have hs2 : W0.drew.heap.size ≤ w2.heap.size := hb2.size
      clear ho2 hb2
      go_wp2_with fail
      refine hK.out _ _ ⟨⟨(cell_stay CX.out.1 HB2.out), (cell_stay CX.out.2.1 HB2.out)⟩, (cell_stay CE.out.1 HB2.out), (cell_stay CE.out.2.1 HB2.out)⟩ (fun hHeld => ?_)
      clear hK K
      try simp only [Act.put, List.setIfInBounds_toArray, List.set_cons_zero, List.set_cons_succ]
      refine wpAnyH_take (i := 5) (v := ?v17) (by simp only [List.getElem?_toArray, List.getElem?_cons_succ, List.getElem?_cons_zero]; rfl) (by kernel_rfl) (by kernel_rfl) (by kernel_rfl) (by exact fun _ _ _ h => h) (Or.inl ⟨by rfl, fun w9 hS9 => ?hy17⟩) hHeld ?rest17
      case hy17 =>
        dsimp only at hS9
        obtain ⟨⟨y0, y1⟩, y2, y3⟩ := hS9
        go_simp
        try with_reducible rfl
      try simp only [Act.put, List.setIfInBounds_toArray, List.set_cons_zero, List.set_cons_succ]
      refine wpAnyH_ready (rs := [6]) (by kernel_rfl) (by simp) (AllReadyH.cons (by simp only [List.getElem?_toArray, List.getElem?_cons_succ, List.getElem?_cons_zero]; rfl) (fun K hK => ?_) AllReadyH.nil)
      have HB4 : Hid (Below W0.heap.size W0 (World.alloc w2 (.cells #[.int .i64 0, .slice none 0 0] 43))) := Lib.hid (HB2.out.trans ((alloc_same w2 (.cells #[.int .i64 0, .slice none 0 0] 43)).mono HB2.out.size))
      go_simp
      refine hK.out _ _ ⟨⟨(cell_stay CX.out.1 HB4.out), (cell_stay CX.out.2.1 HB4.out)⟩, (cell_stay CE.out.1 HB4.out), (cell_stay CE.out.2.1 HB4.out)⟩ (fun hHeld => ?_)
      clear hK K
      try simp only [Act.put, List.setIfInBounds_toArray, List.set_cons_zero, List.set_cons_succ]
      refine wpAnyH_ready (rs := [7]) (by kernel_rfl) (by simp) (AllReadyH.cons (by simp only [List.getElem?_toArray, List.getElem?_cons_succ, List.getElem?_cons_zero]; rfl) (fun K hK => ?_) AllReadyH.nil)
      have HR := Lib.hid (chR_alloc (L := x) HB2.out ((HO2.out.lower hd0)))
      have HB6 : Hid (Below W0.heap.size W0 (World.alloc w2 (.cells #[.int .i64 x.ver, .slice b2 m2 d2] 43))) := Lib.hid HR.out.1
      go_simp
      refine hK.out _ _ ⟨⟨(cell_stay CX.out.1 HB6.out), (cell_stay CX.out.2.1 HB6.out)⟩, (cell_stay CE.out.1 HB6.out), (cell_stay CE.out.2.1 HB6.out)⟩ (fun hHeld => ?_)
      clear hK K
      try simp only [Act.put, List.setIfInBounds_toArray, List.set_cons_zero, List.set_cons_succ]
      refine wpAnyH_done (by kernel_rfl) ?_ _
      have HR9 := HR
      have hfin : ChR W0 x w2.heap.size b2 m2 d2 _ := HR9.out
      generalize w2.heap.size = g at hfin ⊢
      obtain ⟨u3, -⟩ : ∃ u : Value, u = undef := ⟨_, rfl⟩
      obtain ⟨u5, -⟩ : ∃ u : Value, u = undef := ⟨_, rfl⟩
      obtain ⟨u7, -⟩ : ∃ u : Value, u = undef := ⟨_, rfl⟩
      exact ⟨g, u3, u5, u7, b2, m2, d2, rfl, hfin⟩
    · skip
      have HB4 : Hid (Below W0.heap.size W0 (World.alloc W0 (.cells #[.int .i64 0, .slice none 0 0] 43)).drew) := Lib.hid (alloc_same W0 (.cells #[.int .i64 0, .slice none 0 0] 43)).drew
      have HZ : Hid ((World.alloc W0 (.cells #[.int .i64 0, .slice none 0 0] 43)).drew.heap[W0.heap.size]? = some (.cells #[.int .i64 0, .slice none 0 0] 43 (0, 0))) := Lib.hid (heap_alloc_new W0 _)
      have HgZ : Hid (W0.heap.size < (World.alloc W0 (.cells #[.int .i64 0, .slice none 0 0] 43)).drew.heap.size) := Lib.hid (by simp)
      go_simp
      refine hK.out _ _ ⟨⟨(cell_stay CX.out.1 HB4.out), (cell_stay CX.out.2.1 HB4.out)⟩, (cell_stay CE.out.1 HB4.out), (cell_stay CE.out.2.1 HB4.out)⟩ (fun hHeld => ?_)
      clear hK K
      try simp only [Act.put, List.setIfInBounds_toArray, List.set_cons_zero, List.set_cons_succ]
      refine wpAnyH_ready (rs := [4]) (by kernel_rfl) (by simp) (AllReadyH.cons (by simp only [List.getElem?_toArray, List.getElem?_cons_succ, List.getElem?_cons_zero]; rfl) (fun K hK => ?_) AllReadyH.nil)
      go_simp
      refine (specCopy_len (c := d) (HV.out.same HB4.out) (by omega) hit).mono ?_
      rintro e2 w2 ⟨b2, m2, d2, rfl, ho2, hb2⟩
      have HB2 : Hid (Below W0.heap.size W0 w2) := Lib.hid (HB4.out.trans (hb2.mono HB4.out.size))
      have HO2 : Hid (OwnAns w2.heap.size w2 (World.alloc W0 (.cells #[.int .i64 0, .slice none 0 0] 43)).drew.heap.size (.agg #[.int .i64 x.ver, .slice b2 m2 d2]) x) := Lib.hid (own_ans ho2.lim (Nat.le_refl _) (Nat.le_refl _) (Nat.le_refl _))
      have hs2 : (World.alloc W0 (.cells #[.int .i64 0, .slice none 0 0] 43)).drew.heap.size ≤ w2.heap.size := hb2.size
      replace HZ := Lib.hid ((hb2.block _ HgZ.out).trans HZ.out)
      clear ho2 hb2
      go_wp2_with fail
      refine hK.out _ _ ⟨⟨(cell_stay CX.out.1 HB2.out), (cell_stay CX.out.2.1 HB2.out)⟩, (cell_stay CE.out.1 HB2.out), (cell_stay CE.out.2.1 HB2.out)⟩ (fun hHeld => ?_)
      clear hK K
      try simp only [Act.put, List.setIfInBounds_toArray, List.set_cons_zero, List.set_cons_succ]
      refine wpAnyH_take (i := 5) (v := ?v18) (by simp only [List.getElem?_toArray, List.getElem?_cons_succ, List.getElem?_cons_zero]; rfl) (by kernel_rfl) (by kernel_rfl) (by kernel_rfl) (by exact fun _ _ _ h => h) (Or.inl ⟨by rfl, fun w9 hS9 => ?hy18⟩) hHeld ?rest18
      case hy18 =>
        dsimp only at hS9
        obtain ⟨⟨y0, y1⟩, y2, y3⟩ := hS9
        go_simp
        try with_reducible rfl
      try simp only [Act.put, List.setIfInBounds_toArray, List.set_cons_zero, List.set_cons_succ]
      refine wpAnyH_ready (rs := [7]) (by kernel_rfl) (by simp) (AllReadyH.cons (by simp only [List.getElem?_toArray, List.getElem?_cons_succ, List.getElem?_cons_zero]; rfl) (fun K hK => ?_) AllReadyH.nil)
      have HR := Lib.hid (chR_store (pw := W0) (w := (World.alloc W0 (.cells #[.int .i64 0, .slice none 0 0] 43)).drew) (L := x) HB2.out (Nat.le_refl _) HZ.out HgZ.out hs2 HO2.out)
      have HB6 : Hid (Below W0.heap.size W0 ((w2.setCell ⟨W0.heap.size, 0, none⟩ (.int .i64 x.ver)).setCell ⟨W0.heap.size, 1, none⟩ (.slice b2 m2 d2))) := Lib.hid HR.out.1
      obtain ⟨rm0, rm1, rq0, rq1⟩ := two_cells HZ.out
      obtain ⟨rz0, rz1, -⟩ := two_put HZ.out (.int .i64 x.ver) (.slice b2 m2 d2)
      go_simp
      refine hK.out _ _ ⟨⟨(cell_stay CX.out.1 HB6.out), (cell_stay CX.out.2.1 HB6.out)⟩, (cell_stay CE.out.1 HB6.out), (cell_stay CE.out.2.1 HB6.out)⟩ (fun hHeld => ?_)
      clear hK K
      try simp only [Act.put, List.setIfInBounds_toArray, List.set_cons_zero, List.set_cons_succ]
      refine wpAnyH_done (by kernel_rfl) ?_ _
      have HR9 := HR
      have hfin : ChR W0 x W0.heap.size b2 m2 d2 _ := HR9.out
      generalize W0.heap.size = g at hfin ⊢
      obtain ⟨u3, -⟩ : ∃ u : Value, u = undef := ⟨_, rfl⟩
      obtain ⟨u5, -⟩ : ∃ u : Value, u = undef := ⟨_, rfl⟩
      obtain ⟨u7, -⟩ : ∃ u : Value, u = undef := ⟨_, rfl⟩
      exact ⟨g, u3, u5, u7, b2, m2, d2, rfl, hfin⟩
  intro g u3 u5 u7 b2 m2 d2 W1 hR
  obtain ⟨hb, hbox, hgp, lo, S, ho, hlo, hS, hgd⟩ := hR
  obtain ⟨b9, m9, d9, lo1, hi1, heq, hov, hl1, hl2, hl3⟩ := ho
  obtain ⟨rfl, rfl, rfl⟩ : b2 = b9 ∧ m2 = m9 ∧ d2 = d9 := by simpa using heq
  have HBW := Lib.hid hb
  have hsW := hb.size
  have HG := Lib.hid hbox
  have O2 := Lib.hid hov
  have HXW := Lib.hid ((hb.block w.heap.size (by omega)).trans HX.out)
  have HEW := Lib.hid ((hb.block (w.heap.size + 1) (by omega)).trans HE.out)
  have HRW := Lib.hid ((hb.block (w.heap.size + 2) (by omega)).trans HR0.out)
  replace HV := Lib.hid (HV.out.same hb)
  clear hb hbox hov heq CX CE HX HE HR0 HBd
  obtain ⟨x0, x1, -⟩ := two_cells HXW.out
  obtain ⟨y0, y1, -⟩ := two_cells HEW.out
  obtain ⟨f0, f1, f2, f3⟩ := two_cells HG.out
  have HL : Hid (Calls Try.prog 46 #[.int .i64 e.n, .int .i64 1, .int .i64 9] W1 fun e w' => e = .returned (.bool true) ∧ w' = W1) := Lib.hid (hv ▸ l1R_b e.n 1 9 W1)
  go_wp2_with fail
  refine HL.out.mono ?_
  rintro e5 w5 ⟨rfl, hw5⟩
  subst hw5
  have HG3 := Lib.hid (put_first HG.out (.int .i64 e.n))
  have hin := set_inside w5 g 0 (.int .i64 e.n)
  have hrc := (hin.block (w.heap.size + 2) (by omega) (Or.inl (by omega))).trans HRW.out
  clear f0 f1
  obtain ⟨f0, f1, -⟩ := two_cells HG.out
  obtain ⟨x2, x3, -⟩ := two_cells HG3.out
  have HR9 := Lib.hid (hrc)
  obtain ⟨rm0, rm1, rq0, rq1⟩ := two_cells HR9.out
  obtain ⟨z0, z1, -⟩ := two_put HR9.out (.int .i64 e.n) (.slice b2 m2 d2)
  have hgr := set2_grown (w5.setCell ⟨g, 0, none⟩ (.int .i64 e.n)) (w.heap.size + 2) (.int .i64 e.n) (.slice b2 m2 d2)
  go_wp2_with fail
  (try simp only [Exit.inBlock, Exit.then])
  refine bodyPost_ret (by simp [results, Try.results15, go_sem, z0, z1]; try rfl) rfl ?_
  have hfin : OwnAns (w5.setCell ⟨g, 0, none⟩ (.int .i64 e.n)).heap.size (w5.setCell ⟨g, 0, none⟩ (.int .i64 e.n)) W0.heap.size (.agg #[.int .i64 e.n, .slice b2 m2 d2]) _ := own_ans (lo := lo1) (hi := hi1) (O2.out.aside hin (by omega)) (by omega) (by simp; omega) (Nat.le_refl _)
  exact ⟨_, rfl, ((hfin.aside (one_inside hgr) (Or.inl (by omega))).lower (by omega)).top (by simp) (Nat.le_refl _), (HB.out.trans ((hin.to HBW.out (by omega) (by omega)).mono (by omega))).grown hgr (by first | omega | (simp; omega)) (fun r e => by cases e; omega)⟩
set_option maxHeartbeats 4000000 in
set_option maxRecDepth 100000 in
theorem specEditA_5 {w : World} {v : Value} {x : Ans} {e : Et} (h : AnsW w v x) (hw : (Lit.int .i64 e.kind).wf = true) (hm : x.exts.length ≤ 1048576) (hit : itemsOf x.exts ≤ 1048576) (hk : e.kind = 5) :
    Calls Try.prog 15 #[v, .agg #[.int .i64 e.kind, .int .i64 e.n]] w (MadeAns w.heap.size (edA x e) w) := by
  have hed : edA x e = (⟨x.ver, dropX e.n x.exts⟩ : Ans) := by
    unfold edA
    rw [hk]
    rw [if_neg (show ¬ (5 : Int) = 4 by decide), if_pos rfl]
  rw [hed]
  obtain ⟨b, m, d, rfl, h2, hc2⟩ := h
  obtain ⟨hsz, hX, hE, hR, hB0⟩ := thrice w #[.int .i64 x.ver, .slice b m d] #[.int .i64 e.kind, .int .i64 e.n] #[.int .i64 0, .slice none 0 0] 43 34 43
  have hlm := h2.len
  have HV := Lib.hid (h2.same hB0)
  have CX := Lib.hid (two_cells hX)
  have CE := Lib.hid (two_cells hE)
  have HX := Lib.hid hX
  have HE := Lib.hid hE
  have HR0 := Lib.hid hR
  have HB := Lib.hid hB0
  have hk4 : (e.kind == 4) = false := by rw [hk]; rfl
  have hk5 : (e.kind == 5) = true := by rw [hk]; rfl
  clear h2 hed hk hX hE hR hB0
  unfold MadeAns
  go_enter Try.func15, Try.ntmps15
  go_wp2_with fail
  generalize (((w.alloc (.cells #[.int .i64 x.ver, .slice b m d] 43)).alloc (.cells #[.int .i64 e.kind, .int .i64 e.n] 34)).alloc (.cells #[.int .i64 0, .slice none 0 0] 43)) = W0 at *
  have HBd : Hid (Below W0.heap.size W0 W0.drew) := Lib.hid (Below.refl _ _).drew
  have hd0 : W0.heap.size ≤ W0.drew.heap.size := Nat.le_refl _
  apply ch_cut (ChR W0 x)
  case h =>
    refine wp_region_held_drew (S := fun w9 => (w9.cell? ⟨w.heap.size, 0, none⟩ = some (.int .i64 x.ver) ∧ w9.cell? ⟨w.heap.size, 1, none⟩ = some (.slice b m d)) ∧ w9.cell? ⟨w.heap.size + 1, 0, none⟩ = some (.int .i64 e.kind) ∧ w9.cell? ⟨w.heap.size + 1, 1, none⟩ = some (.int .i64 e.n)) (by kernel_rfl) ⟨⟨(cell_stay CX.out.1 HBd.out), (cell_stay CX.out.2.1 HBd.out)⟩, (cell_stay CE.out.1 HBd.out), (cell_stay CE.out.2.1 HBd.out)⟩ (fun hHeld => ?_)
    refine wpAnyH_take (i := 0) (v := ?v19) (by simp only [List.getElem?_toArray, List.getElem?_cons_succ, List.getElem?_cons_zero]; rfl) (by kernel_rfl) (by kernel_rfl) (by kernel_rfl) (by exact fun _ _ _ h => h) (Or.inl ⟨by rfl, fun w9 hS9 => ?hy19⟩) hHeld ?rest19
    case hy19 =>
      dsimp only at hS9
      obtain ⟨⟨y0, y1⟩, y2, y3⟩ := hS9
      go_simp
      try with_reducible rfl
    try simp only [Act.put, List.setIfInBounds_toArray, List.set_cons_zero, List.set_cons_succ]
    refine wpAnyH_take (i := 1) (v := ?v20) (by simp only [List.getElem?_toArray, List.getElem?_cons_succ, List.getElem?_cons_zero]; rfl) (by kernel_rfl) (by kernel_rfl) (by kernel_rfl) (by exact fun _ _ _ h => h) (Or.inl ⟨by rfl, fun w9 hS9 => ?hy20⟩) hHeld ?rest20
    case hy20 =>
      dsimp only at hS9
      obtain ⟨⟨y0, y1⟩, y2, y3⟩ := hS9
      go_simp
      try with_reducible rfl
    try simp only [Act.put, List.setIfInBounds_toArray, List.set_cons_zero, List.set_cons_succ]
    refine wpAnyH_take (i := 2) (v := ?v21) (by simp only [List.getElem?_toArray, List.getElem?_cons_succ, List.getElem?_cons_zero]; rfl) (by kernel_rfl) (by kernel_rfl) (by kernel_rfl) (by exact fun _ _ _ h => h) (Or.inl ⟨by rfl, fun w9 hS9 => ?hy21⟩) hHeld ?rest21
    case hy21 =>
      dsimp only at hS9
      obtain ⟨⟨y0, y1⟩, y2, y3⟩ := hS9
      go_simp
      try with_reducible rfl
    try simp only [Act.put, List.setIfInBounds_toArray, List.set_cons_zero, List.set_cons_succ]
    refine wpAnyH_take (i := 3) (v := ?v22) (by simp only [List.getElem?_toArray, List.getElem?_cons_succ, List.getElem?_cons_zero]; rfl) (by kernel_rfl) (by kernel_rfl) (by kernel_rfl) (by exact fun _ _ _ h => h) (Or.inl ⟨by rfl, fun w9 hS9 => ?hy22⟩) hHeld ?rest22
    case hy22 =>
      dsimp only at hS9
      obtain ⟨⟨y0, y1⟩, y2, y3⟩ := hS9
      go_simp
      try with_reducible rfl
    try simp only [Act.put, List.setIfInBounds_toArray, List.set_cons_zero, List.set_cons_succ]
    refine wpAnyH_ready (rs := [4, 6]) (by kernel_rfl) (by simp) (AllReadyH.cons (by simp only [List.getElem?_toArray, List.getElem?_cons_succ, List.getElem?_cons_zero]; rfl) (fun K hK => ?_) (AllReadyH.cons (by simp only [List.getElem?_toArray, List.getElem?_cons_succ, List.getElem?_cons_zero]; rfl) (fun K hK => ?_) AllReadyH.nil))
    · skip
      go_simp
      refine (specCopy_len (c := d) (HV.out.same HBd.out) (by omega) hit).mono ?_
      rintro e2 w2 ⟨b2, m2, d2, rfl, ho2, hb2⟩
      have HB2 : Hid (Below W0.heap.size W0 w2) := Lib.hid (HBd.out.trans (hb2.mono HBd.out.size))
      have HO2 : Hid (OwnAns w2.heap.size w2 W0.drew.heap.size (.agg #[.int .i64 x.ver, .slice b2 m2 d2]) x) := Lib.hid (own_ans ho2.lim (Nat.le_refl _) (Nat.le_refl _) (Nat.le_refl _))
      have hs2 : W0.drew.heap.size ≤ w2.heap.size := hb2.size
      clear ho2 hb2
      go_wp2_with fail
      refine hK.out _ _ ⟨⟨(cell_stay CX.out.1 HB2.out), (cell_stay CX.out.2.1 HB2.out)⟩, (cell_stay CE.out.1 HB2.out), (cell_stay CE.out.2.1 HB2.out)⟩ (fun hHeld => ?_)
      clear hK K
      try simp only [Act.put, List.setIfInBounds_toArray, List.set_cons_zero, List.set_cons_succ]
      refine wpAnyH_take (i := 5) (v := ?v23) (by simp only [List.getElem?_toArray, List.getElem?_cons_succ, List.getElem?_cons_zero]; rfl) (by kernel_rfl) (by kernel_rfl) (by kernel_rfl) (by exact fun _ _ _ h => h) (Or.inl ⟨by rfl, fun w9 hS9 => ?hy23⟩) hHeld ?rest23
      case hy23 =>
        dsimp only at hS9
        obtain ⟨⟨y0, y1⟩, y2, y3⟩ := hS9
        go_simp
        try with_reducible rfl
      try simp only [Act.put, List.setIfInBounds_toArray, List.set_cons_zero, List.set_cons_succ]
      refine wpAnyH_ready (rs := [6]) (by kernel_rfl) (by simp) (AllReadyH.cons (by simp only [List.getElem?_toArray, List.getElem?_cons_succ, List.getElem?_cons_zero]; rfl) (fun K hK => ?_) AllReadyH.nil)
      have HB4 : Hid (Below W0.heap.size W0 (World.alloc w2 (.cells #[.int .i64 0, .slice none 0 0] 43))) := Lib.hid (HB2.out.trans ((alloc_same w2 (.cells #[.int .i64 0, .slice none 0 0] 43)).mono HB2.out.size))
      go_simp
      refine hK.out _ _ ⟨⟨(cell_stay CX.out.1 HB4.out), (cell_stay CX.out.2.1 HB4.out)⟩, (cell_stay CE.out.1 HB4.out), (cell_stay CE.out.2.1 HB4.out)⟩ (fun hHeld => ?_)
      clear hK K
      try simp only [Act.put, List.setIfInBounds_toArray, List.set_cons_zero, List.set_cons_succ]
      refine wpAnyH_ready (rs := [7]) (by kernel_rfl) (by simp) (AllReadyH.cons (by simp only [List.getElem?_toArray, List.getElem?_cons_succ, List.getElem?_cons_zero]; rfl) (fun K hK => ?_) AllReadyH.nil)
      have HR := Lib.hid (chR_alloc (L := x) HB2.out ((HO2.out.lower hd0)))
      have HB6 : Hid (Below W0.heap.size W0 (World.alloc w2 (.cells #[.int .i64 x.ver, .slice b2 m2 d2] 43))) := Lib.hid HR.out.1
      go_simp
      refine hK.out _ _ ⟨⟨(cell_stay CX.out.1 HB6.out), (cell_stay CX.out.2.1 HB6.out)⟩, (cell_stay CE.out.1 HB6.out), (cell_stay CE.out.2.1 HB6.out)⟩ (fun hHeld => ?_)
      clear hK K
      try simp only [Act.put, List.setIfInBounds_toArray, List.set_cons_zero, List.set_cons_succ]
      refine wpAnyH_done (by kernel_rfl) ?_ _
      have HR9 := HR
      have hfin : ChR W0 x w2.heap.size b2 m2 d2 _ := HR9.out
      generalize w2.heap.size = g at hfin ⊢
      obtain ⟨u3, -⟩ : ∃ u : Value, u = undef := ⟨_, rfl⟩
      obtain ⟨u5, -⟩ : ∃ u : Value, u = undef := ⟨_, rfl⟩
      obtain ⟨u7, -⟩ : ∃ u : Value, u = undef := ⟨_, rfl⟩
      exact ⟨g, u3, u5, u7, b2, m2, d2, rfl, hfin⟩
    · skip
      have HB4 : Hid (Below W0.heap.size W0 (World.alloc W0 (.cells #[.int .i64 0, .slice none 0 0] 43)).drew) := Lib.hid (alloc_same W0 (.cells #[.int .i64 0, .slice none 0 0] 43)).drew
      have HZ : Hid ((World.alloc W0 (.cells #[.int .i64 0, .slice none 0 0] 43)).drew.heap[W0.heap.size]? = some (.cells #[.int .i64 0, .slice none 0 0] 43 (0, 0))) := Lib.hid (heap_alloc_new W0 _)
      have HgZ : Hid (W0.heap.size < (World.alloc W0 (.cells #[.int .i64 0, .slice none 0 0] 43)).drew.heap.size) := Lib.hid (by simp)
      go_simp
      refine hK.out _ _ ⟨⟨(cell_stay CX.out.1 HB4.out), (cell_stay CX.out.2.1 HB4.out)⟩, (cell_stay CE.out.1 HB4.out), (cell_stay CE.out.2.1 HB4.out)⟩ (fun hHeld => ?_)
      clear hK K
      try simp only [Act.put, List.setIfInBounds_toArray, List.set_cons_zero, List.set_cons_succ]
      refine wpAnyH_ready (rs := [4]) (by kernel_rfl) (by simp) (AllReadyH.cons (by simp only [List.getElem?_toArray, List.getElem?_cons_succ, List.getElem?_cons_zero]; rfl) (fun K hK => ?_) AllReadyH.nil)
      go_simp
      refine (specCopy_len (c := d) (HV.out.same HB4.out) (by omega) hit).mono ?_
      rintro e2 w2 ⟨b2, m2, d2, rfl, ho2, hb2⟩
      have HB2 : Hid (Below W0.heap.size W0 w2) := Lib.hid (HB4.out.trans (hb2.mono HB4.out.size))
      have HO2 : Hid (OwnAns w2.heap.size w2 (World.alloc W0 (.cells #[.int .i64 0, .slice none 0 0] 43)).drew.heap.size (.agg #[.int .i64 x.ver, .slice b2 m2 d2]) x) := Lib.hid (own_ans ho2.lim (Nat.le_refl _) (Nat.le_refl _) (Nat.le_refl _))
      have hs2 : (World.alloc W0 (.cells #[.int .i64 0, .slice none 0 0] 43)).drew.heap.size ≤ w2.heap.size := hb2.size
      replace HZ := Lib.hid ((hb2.block _ HgZ.out).trans HZ.out)
      clear ho2 hb2
      go_wp2_with fail
      refine hK.out _ _ ⟨⟨(cell_stay CX.out.1 HB2.out), (cell_stay CX.out.2.1 HB2.out)⟩, (cell_stay CE.out.1 HB2.out), (cell_stay CE.out.2.1 HB2.out)⟩ (fun hHeld => ?_)
      clear hK K
      try simp only [Act.put, List.setIfInBounds_toArray, List.set_cons_zero, List.set_cons_succ]
      refine wpAnyH_take (i := 5) (v := ?v24) (by simp only [List.getElem?_toArray, List.getElem?_cons_succ, List.getElem?_cons_zero]; rfl) (by kernel_rfl) (by kernel_rfl) (by kernel_rfl) (by exact fun _ _ _ h => h) (Or.inl ⟨by rfl, fun w9 hS9 => ?hy24⟩) hHeld ?rest24
      case hy24 =>
        dsimp only at hS9
        obtain ⟨⟨y0, y1⟩, y2, y3⟩ := hS9
        go_simp
        try with_reducible rfl
      try simp only [Act.put, List.setIfInBounds_toArray, List.set_cons_zero, List.set_cons_succ]
      refine wpAnyH_ready (rs := [7]) (by kernel_rfl) (by simp) (AllReadyH.cons (by simp only [List.getElem?_toArray, List.getElem?_cons_succ, List.getElem?_cons_zero]; rfl) (fun K hK => ?_) AllReadyH.nil)
      have HR := Lib.hid (chR_store (pw := W0) (w := (World.alloc W0 (.cells #[.int .i64 0, .slice none 0 0] 43)).drew) (L := x) HB2.out (Nat.le_refl _) HZ.out HgZ.out hs2 HO2.out)
      have HB6 : Hid (Below W0.heap.size W0 ((w2.setCell ⟨W0.heap.size, 0, none⟩ (.int .i64 x.ver)).setCell ⟨W0.heap.size, 1, none⟩ (.slice b2 m2 d2))) := Lib.hid HR.out.1
      obtain ⟨rm0, rm1, rq0, rq1⟩ := two_cells HZ.out
      obtain ⟨rz0, rz1, -⟩ := two_put HZ.out (.int .i64 x.ver) (.slice b2 m2 d2)
      go_simp
      refine hK.out _ _ ⟨⟨(cell_stay CX.out.1 HB6.out), (cell_stay CX.out.2.1 HB6.out)⟩, (cell_stay CE.out.1 HB6.out), (cell_stay CE.out.2.1 HB6.out)⟩ (fun hHeld => ?_)
      clear hK K
      try simp only [Act.put, List.setIfInBounds_toArray, List.set_cons_zero, List.set_cons_succ]
      refine wpAnyH_done (by kernel_rfl) ?_ _
      have HR9 := HR
      have hfin : ChR W0 x W0.heap.size b2 m2 d2 _ := HR9.out
      generalize W0.heap.size = g at hfin ⊢
      obtain ⟨u3, -⟩ : ∃ u : Value, u = undef := ⟨_, rfl⟩
      obtain ⟨u5, -⟩ : ∃ u : Value, u = undef := ⟨_, rfl⟩
      obtain ⟨u7, -⟩ : ∃ u : Value, u = undef := ⟨_, rfl⟩
      exact ⟨g, u3, u5, u7, b2, m2, d2, rfl, hfin⟩
  intro g u3 u5 u7 b2 m2 d2 W1 hR
  obtain ⟨hb, hbox, hgp, lo, S, ho, hlo, hS, hgd⟩ := hR
  obtain ⟨b9, m9, d9, lo1, hi1, heq, hov, hl1, hl2, hl3⟩ := ho
  obtain ⟨rfl, rfl, rfl⟩ : b2 = b9 ∧ m2 = m9 ∧ d2 = d9 := by simpa using heq
  have HBW := Lib.hid hb
  have hsW := hb.size
  have HG := Lib.hid hbox
  have O2 := Lib.hid hov
  have HXW := Lib.hid ((hb.block w.heap.size (by omega)).trans HX.out)
  have HEW := Lib.hid ((hb.block (w.heap.size + 1) (by omega)).trans HE.out)
  have HRW := Lib.hid ((hb.block (w.heap.size + 2) (by omega)).trans HR0.out)
  replace HV := Lib.hid (HV.out.same hb)
  clear hb hbox hov heq CX CE HX HE HR0 HBd
  obtain ⟨x0, x1, -⟩ := two_cells HXW.out
  obtain ⟨y0, y1, -⟩ := two_cells HEW.out
  obtain ⟨f0, f1, f2, f3⟩ := two_cells HG.out
  have KD := Lib.hid (specDrop_any (c := d) e.n HV.out (by omega) hit)
  unfold MadeV at KD
  go_wp2_with fail
  refine KD.out.mono ?_
  rintro e2 w2 ⟨p, k, r, rfl, ho, hb2⟩
  have hs2 := hb2.size
  have HO := Lib.hid ho
  have HB2 : Hid (Below W0.heap.size W0 w2) := Lib.hid (HBW.out.trans (hb2.mono HBW.out.size))
  have HG2 := Lib.hid ((hb2.block g (by omega)).trans HG.out)
  have hrb : w2.heap[w.heap.size + 2]? = _ := (hb2.block (w.heap.size + 2) (by omega)).trans HRW.out
  clear ho hb2 x0 x1 y0 y1 KD f0 f1 f2 f3
  obtain ⟨x0, x1, f0, f1⟩ := two_cells HG2.out
  have HG3 := Lib.hid (put_second HG2.out (.slice p k r))
  have hin := set_inside w2 g 1 (.slice p k r)
  have hrc := (hin.block (w.heap.size + 2) (by omega) (Or.inl (by omega))).trans hrb
  obtain ⟨x2, x3, -⟩ := two_cells HG3.out
  have HR9 := Lib.hid (hrc)
  obtain ⟨rm0, rm1, rq0, rq1⟩ := two_cells HR9.out
  obtain ⟨z0, z1, -⟩ := two_put HR9.out (.int .i64 x.ver) (.slice p k r)
  have hgr := set2_grown (w2.setCell ⟨g, 1, none⟩ (.slice p k r)) (w.heap.size + 2) (.int .i64 x.ver) (.slice p k r)
  go_wp2_with fail
  (try simp only [Exit.inBlock, Exit.then])
  refine bodyPost_ret (by simp [results, Try.results15, go_sem, z0, z1]; try rfl) rfl ?_
  have hfin : OwnAns (w2.setCell ⟨g, 1, none⟩ (.slice p k r)).heap.size (w2.setCell ⟨g, 1, none⟩ (.slice p k r)) W0.heap.size (.agg #[.int .i64 x.ver, .slice p k r]) _ := own_ans (lo := W1.heap.size) (hi := w2.heap.size) (HO.out.lim.aside hin (by omega)) (by omega) (by simp) (Nat.le_refl _)
  exact ⟨_, rfl, ((hfin.aside (one_inside hgr) (Or.inl (by omega))).lower (by omega)).top (by simp) (Nat.le_refl _), (HB.out.trans ((hin.to HB2.out (by omega) (by omega)).mono (by omega))).grown hgr (by first | omega | (simp; omega)) (fun r e => by cases e; omega)⟩
theorem specEditAnswer_any {w : World} {v : Value} {x : Ans} {e : Et} (h : AnsW w v x) (hw : (Lit.int .i64 e.kind).wf = true) (hm : x.exts.length ≤ 1048576) (hit : itemsOf x.exts ≤ 1048576) :
    Calls Try.prog 15 #[v, .agg #[.int .i64 e.kind, .int .i64 e.n]] w (MadeAns w.heap.size (edA x e) w) := by
  by_cases h4 : e.kind = 4
  · cases hv : inBd e.n 1 9 with
    | true => exact specEditA_4y h hw hm hit h4 hv
    | false => exact specEditA_4n h hw hm hit h4 hv
  · by_cases h5 : e.kind = 5
    · exact specEditA_5 h hw hm hit h5
    · exact specEditA_0 h hw hm hit ⟨h4, h5⟩
end Go.Proofs.Ytcmjadfpifpknaa
