/- The pairs of states that follow if both machines make the same move: by the program. -/
import Derived.Test.YtckmgbobkffabaaNp
import Derived.BigRegion
namespace Go.Proofs.Ytckmgbobkffabaa
open Go.ChangeShapes Go.WideShapes Go.ChangeAt Go.RowKit
set_option linter.unusedVariables false
set_option linter.unusedSimpArgs false

set_option maxHeartbeats 8000000 in
set_option maxRecDepth 100000 in
theorem sameMoves_any {v v' : Value} {a b : Mac} (x y : Int) {w : World} (h : MacW w v a) (h' : MacW w v' b) (hz : ∀ z ∈ a.moves, Wmv z) (hz' : ∀ z ∈ b.moves, Wmv z) (hn : a.parts ≤ 10000000) (hn' : b.parts ≤ 10000000) :
    Calls Try.prog 83 #[v, v', .int .i64 x, .int .i64 y] w (MadeR w.heap.size (samesP a b x y) w) := by
  obtain ⟨p, np, cp, q, n, c, rfl⟩ := h.shape
  obtain ⟨p', np', cp', q', n', c', rfl⟩ := h'.shape
  obtain ⟨hB, hX, hY, hS⟩ := twice w #[.int .i64 a.st, .slice p np cp, .slice q n c] #[.int .i64 b.st, .slice p' np' cp', .slice q' n' c'] 27 27
  have HB := Lib.hid hB
  have HX := Lib.hid (three_cells hX)
  have HY := Lib.hid (three_cells hY)
  have HMA := Lib.hid h
  have HMB := Lib.hid h'
  have HZA := Lib.hid hz
  have HZB := Lib.hid hz'
  have HNAtrue : Hid (∀ W', Below w.heap.size w W' → Calls Try.prog 93 #[.agg #[.int .i64 a.st, .slice p np cp, .slice q n c, .int .i64 x], .bool true] W' fun e w' => ∃ g, e = .returned (.map (some g)) ∧ W'.heap.size ≤ g ∧ w'.ownsMap Try.prog 3 (plainElem (H := Unit) Try.prog 3) g a.moves.length (nx x true a.moves) ∧ Below W'.heap.size W' w') := Lib.hid fun W' hb => by
    have q := next_any x true (HMA.out.same hb) HZA.out (by omega)
    rw [party_eq] at q
    exact q
  have HNAfalse : Hid (∀ W', Below w.heap.size w W' → Calls Try.prog 93 #[.agg #[.int .i64 a.st, .slice p np cp, .slice q n c, .int .i64 x], .bool false] W' fun e w' => ∃ g, e = .returned (.map (some g)) ∧ W'.heap.size ≤ g ∧ w'.ownsMap Try.prog 3 (plainElem (H := Unit) Try.prog 3) g a.moves.length (nx x false a.moves) ∧ Below W'.heap.size W' w') := Lib.hid fun W' hb => by
    have q := next_any x false (HMA.out.same hb) HZA.out (by omega)
    rw [party_eq] at q
    exact q
  have HNBtrue : Hid (∀ W', Below w.heap.size w W' → Calls Try.prog 93 #[.agg #[.int .i64 b.st, .slice p' np' cp', .slice q' n' c', .int .i64 y], .bool true] W' fun e w' => ∃ g, e = .returned (.map (some g)) ∧ W'.heap.size ≤ g ∧ w'.ownsMap Try.prog 3 (plainElem (H := Unit) Try.prog 3) g b.moves.length (nx y true b.moves) ∧ Below W'.heap.size W' w') := Lib.hid fun W' hb => by
    have q := next_any y true (HMB.out.same hb) HZB.out (by omega)
    rw [party_eq] at q
    exact q
  have HNBfalse : Hid (∀ W', Below w.heap.size w W' → Calls Try.prog 93 #[.agg #[.int .i64 b.st, .slice p' np' cp', .slice q' n' c', .int .i64 y], .bool false] W' fun e w' => ∃ g, e = .returned (.map (some g)) ∧ W'.heap.size ≤ g ∧ w'.ownsMap Try.prog 3 (plainElem (H := Unit) Try.prog 3) g b.moves.length (nx y false b.moves) ∧ Below W'.heap.size W' w') := Lib.hid fun W' hb => by
    have q := next_any y false (HMB.out.same hb) HZB.out (by omega)
    rw [party_eq] at q
    exact q
  clear hB hX hY hS h h' hz hz'
  unfold MadeR
  go_enter Try.func83, Try.ntmps83
  obtain ⟨x0, x1, x2, -⟩ := HX.out
  obtain ⟨y0, y1, y2, -⟩ := HY.out
  go_wp2_with fail
  clear x0 x1 x2 y0 y1 y2
  generalize hW0 : ((w.alloc (.cells #[.int .i64 a.st, .slice p np cp, .slice q n c] 27)).alloc (.cells #[.int .i64 b.st, .slice p' np' cp', .slice q' n' c'] 27)) = W0 at *
  clear hW0
  refine wp_region_held_drew (S := fun w9 => Below W0.heap.size W0 w9) (by kernel_rfl) (Below.refl _ W0).drew (fun hHeld => ?_)
  refine wpAnyH_take (i := 0) (v := ?v1) (by simp only [List.getElem?_toArray, List.getElem?_cons_succ, List.getElem?_cons_zero]; rfl) (by kernel_rfl) (by kernel_rfl) (by kernel_rfl) (by exact fun _ _ _ h => h) (Or.inl ⟨by rfl, fun w9 hS9 => ?hy1⟩) hHeld ?rest1
  case hy1 =>
    dsimp only at hS9
    have q0 := cell_stay HX.out.1 hS9
    have q1 := cell_stay HX.out.2.1 hS9
    have q2 := cell_stay HX.out.2.2.1 hS9
    have q3 := cell_stay HY.out.1 hS9
    have q4 := cell_stay HY.out.2.1 hS9
    have q5 := cell_stay HY.out.2.2.1 hS9
    go_simp
    try with_reducible rfl
  try simp only [Act.put, List.setIfInBounds_toArray, List.set_cons_zero, List.set_cons_succ]
  refine wpAnyH_take (i := 1) (v := ?v2) (by simp only [List.getElem?_toArray, List.getElem?_cons_succ, List.getElem?_cons_zero]; rfl) (by kernel_rfl) (by kernel_rfl) (by kernel_rfl) (by exact fun _ _ _ h => h) (Or.inl ⟨by rfl, fun w9 hS9 => ?hy2⟩) hHeld ?rest2
  case hy2 =>
    dsimp only at hS9
    have q0 := cell_stay HX.out.1 hS9
    have q1 := cell_stay HX.out.2.1 hS9
    have q2 := cell_stay HX.out.2.2.1 hS9
    have q3 := cell_stay HY.out.1 hS9
    have q4 := cell_stay HY.out.2.1 hS9
    have q5 := cell_stay HY.out.2.2.1 hS9
    go_simp
    try with_reducible rfl
  try simp only [Act.put, List.setIfInBounds_toArray, List.set_cons_zero, List.set_cons_succ]
  refine wpAnyH_take (i := 2) (v := ?v3) (by simp only [List.getElem?_toArray, List.getElem?_cons_succ, List.getElem?_cons_zero]; rfl) (by kernel_rfl) (by kernel_rfl) (by kernel_rfl) (by exact fun _ _ _ h => h) (Or.inl ⟨by rfl, fun w9 hS9 => ?hy3⟩) hHeld ?rest3
  case hy3 =>
    dsimp only at hS9
    have q0 := cell_stay HX.out.1 hS9
    have q1 := cell_stay HX.out.2.1 hS9
    have q2 := cell_stay HX.out.2.2.1 hS9
    have q3 := cell_stay HY.out.1 hS9
    have q4 := cell_stay HY.out.2.1 hS9
    have q5 := cell_stay HY.out.2.2.1 hS9
    go_simp
    try with_reducible rfl
  try simp only [Act.put, List.setIfInBounds_toArray, List.set_cons_zero, List.set_cons_succ]
  refine wpAnyH_take (i := 3) (v := ?v4) (by simp only [List.getElem?_toArray, List.getElem?_cons_succ, List.getElem?_cons_zero]; rfl) (by kernel_rfl) (by kernel_rfl) (by kernel_rfl) (by exact fun _ _ _ h => h) (Or.inl ⟨by rfl, fun w9 hS9 => ?hy4⟩) hHeld ?rest4
  case hy4 =>
    dsimp only at hS9
    have q0 := cell_stay HX.out.1 hS9
    have q1 := cell_stay HX.out.2.1 hS9
    have q2 := cell_stay HX.out.2.2.1 hS9
    have q3 := cell_stay HY.out.1 hS9
    have q4 := cell_stay HY.out.2.1 hS9
    have q5 := cell_stay HY.out.2.2.1 hS9
    go_simp
    try with_reducible rfl
  try simp only [Act.put, List.setIfInBounds_toArray, List.set_cons_zero, List.set_cons_succ]
  refine wpAnyH_take (i := 4) (v := ?v5) (by simp only [List.getElem?_toArray, List.getElem?_cons_succ, List.getElem?_cons_zero]; rfl) (by kernel_rfl) (by kernel_rfl) (by kernel_rfl) (by exact fun _ _ _ h => h) (Or.inl ⟨by rfl, fun w9 hS9 => ?hy5⟩) hHeld ?rest5
  case hy5 =>
    dsimp only at hS9
    have q0 := cell_stay HX.out.1 hS9
    have q1 := cell_stay HX.out.2.1 hS9
    have q2 := cell_stay HX.out.2.2.1 hS9
    have q3 := cell_stay HY.out.1 hS9
    have q4 := cell_stay HY.out.2.1 hS9
    have q5 := cell_stay HY.out.2.2.1 hS9
    go_simp
    try with_reducible rfl
  try simp only [Act.put, List.setIfInBounds_toArray, List.set_cons_zero, List.set_cons_succ]
  refine wpAnyH_take (i := 5) (v := ?v6) (by simp only [List.getElem?_toArray, List.getElem?_cons_succ, List.getElem?_cons_zero]; rfl) (by kernel_rfl) (by kernel_rfl) (by kernel_rfl) (by exact fun _ _ _ h => h) (Or.inl ⟨by rfl, fun w9 hS9 => ?hy6⟩) hHeld ?rest6
  case hy6 =>
    dsimp only at hS9
    have q0 := cell_stay HX.out.1 hS9
    have q1 := cell_stay HX.out.2.1 hS9
    have q2 := cell_stay HX.out.2.2.1 hS9
    have q3 := cell_stay HY.out.1 hS9
    have q4 := cell_stay HY.out.2.1 hS9
    have q5 := cell_stay HY.out.2.2.1 hS9
    go_simp
    try with_reducible rfl
  try simp only [Act.put, List.setIfInBounds_toArray, List.set_cons_zero, List.set_cons_succ]
  refine wpAnyH_ready (rs := [6, 7]) (by kernel_rfl) (by simp) (AllReadyH.cons (by simp only [List.getElem?_toArray, List.getElem?_cons_succ, List.getElem?_cons_zero]; rfl) (fun K hK => ?_) (AllReadyH.cons (by simp only [List.getElem?_toArray, List.getElem?_cons_succ, List.getElem?_cons_zero]; rfl) (fun K hK => ?_) AllReadyH.nil))
  · skip
    go_simp
    refine hK.out _ _ ((Below.refl _ W0).drew.alloc (Nat.le_refl _) _) (fun hHeld => ?_)
    clear hK K
    try simp only [Act.put, List.setIfInBounds_toArray, List.set_cons_zero, List.set_cons_succ]
    refine wpAnyH_ready (rs := [7]) (by kernel_rfl) (by simp) (AllReadyH.cons (by simp only [List.getElem?_toArray, List.getElem?_cons_succ, List.getElem?_cons_zero]; rfl) (fun K hK => ?_) AllReadyH.nil)
    go_simp
    refine hK.out _ _ (((Below.refl _ W0).drew.alloc (Nat.le_refl _) _).alloc (by simp) _) (fun hHeld => ?_)
    clear hK K
    try simp only [Act.put, List.setIfInBounds_toArray, List.set_cons_zero, List.set_cons_succ]
    refine wpAnyH_ready (rs := [8]) (by kernel_rfl) (by simp) (AllReadyH.cons (by simp only [List.getElem?_toArray, List.getElem?_cons_succ, List.getElem?_cons_zero]; rfl) (fun K hK => ?_) AllReadyH.nil)
    go_simp
    refine hK.out _ _ (((Below.refl _ W0).alloc (Nat.le_refl _) _).alloc (by simp) _).drew (fun hHeld => ?_)
    clear hK K
    try simp only [Act.put, List.setIfInBounds_toArray, List.set_cons_zero, List.set_cons_succ]
    refine wpAnyH_ready (rs := [9]) (by kernel_rfl) (by simp) (AllReadyH.cons (by simp only [List.getElem?_toArray, List.getElem?_cons_succ, List.getElem?_cons_zero]; rfl) (fun K hK => ?_) AllReadyH.nil)
    go_simp
    refine hK.out _ _ (((Below.refl _ W0).alloc (Nat.le_refl _) _).alloc (by simp) _).drew (fun hHeld => ?_)
    clear hK K
    try simp only [Act.put, List.setIfInBounds_toArray, List.set_cons_zero, List.set_cons_succ]
    refine wpAnyH_done (by kernel_rfl) ?_ _
    obtain ⟨hB9, hX9, hY9, hS9⟩ := twice W0 #[.int .i64 a.st, .slice p np cp, .slice q n c, .int .i64 x] #[.int .i64 b.st, .slice p' np' cp', .slice q' n' c', .int .i64 y] 73 73
    have HGA : Hid (((W0.alloc (.cells #[.int .i64 a.st, .slice p np cp, .slice q n c, .int .i64 x] 73)).alloc (.cells #[.int .i64 b.st, .slice p' np' cp', .slice q' n' c', .int .i64 y] 73)).drew.heap[W0.heap.size]? = some (.cells #[.int .i64 a.st, .slice p np cp, .slice q n c, .int .i64 x] 73 (0, 0))) := Lib.hid hX9
    have HGB : Hid (((W0.alloc (.cells #[.int .i64 a.st, .slice p np cp, .slice q n c, .int .i64 x] 73)).alloc (.cells #[.int .i64 b.st, .slice p' np' cp', .slice q' n' c', .int .i64 y] 73)).drew.heap[W0.heap.size + 1]? = some (.cells #[.int .i64 b.st, .slice p' np' cp', .slice q' n' c', .int .i64 y] 73 (0, 0))) := Lib.hid hY9
    have HBF : Hid (Below W0.heap.size W0 ((W0.alloc (.cells #[.int .i64 a.st, .slice p np cp, .slice q n c, .int .i64 x] 73)).alloc (.cells #[.int .i64 b.st, .slice p' np' cp', .slice q' n' c', .int .i64 y] 73)).drew) := Lib.hid hB9.drew
    clear hB9 hX9 hY9 hS9
    generalize hW4 : ((W0.alloc (.cells #[.int .i64 a.st, .slice p np cp, .slice q n c, .int .i64 x] 73)).alloc (.cells #[.int .i64 b.st, .slice p' np' cp', .slice q' n' c', .int .i64 y] 73)).drew = W4 at *
    clear hW4
    obtain ⟨GB, hG2⟩ : ∃ r, r = W0.heap.size + 1 := ⟨_, rfl⟩
    obtain ⟨GA, hG1⟩ : ∃ r, r = W0.heap.size := ⟨_, rfl⟩
    rw [← hG2, ← hG1]
    replace HGA : Hid (W4.heap[GA]? = some (.cells #[.int .i64 a.st, .slice p np cp, .slice q n c, .int .i64 x] 73 (0, 0))) := Lib.hid (by rw [hG1]; exact HGA.out)
    replace HGB : Hid (W4.heap[GB]? = some (.cells #[.int .i64 b.st, .slice p' np' cp', .slice q' n' c', .int .i64 y] 73 (0, 0))) := Lib.hid (by rw [hG2]; exact HGB.out)
    clear hG1 hG2
    have HBW : Hid (Below w.heap.size w W4) := Lib.hid (HB.out.trans (HBF.out.mono HB.out.size))
    have ha0 : GA < W4.heap.size := (Array.getElem?_eq_some_iff.1 HGA.out).1
    have hb0 : GB < W4.heap.size := (Array.getElem?_eq_some_iff.1 HGB.out).1
    have hge : w.heap.size ≤ W4.heap.size := HBW.out.size
    have hxp : a.moves.length ≤ 100000000 := by unfold Mac.parts at hn; omega
    have hxq : a.moves.length ≤ 10000000 := by unfold Mac.parts at hn; omega
    obtain ⟨hAA, _, hBX, hSS⟩ := twice W4 #[] #[.slice (some ⟨W4.heap.size, 0, none⟩) 0 0] 31 76
    have hNL := ((OwnRs.nil (w := W4) (B := W4.heap.size) (Nat.le_refl _)).same (alloc_same _ (.cells #[.slice (some ⟨W4.heap.size, 0, none⟩) 0 0] 76))).upper (S' := ((W4.alloc (.cells #[] 31)).alloc (.cells #[.slice (some ⟨W4.heap.size, 0, none⟩) 0 0] 76)).heap.size) (by simp) (Nat.le_refl _)
    have HBOX : Hid (BoxR (W4.heap.size + 1) [] ((W4.alloc (.cells #[] 31)).alloc (.cells #[.slice (some ⟨W4.heap.size, 0, none⟩) 0 0] 76)) W4.heap.size W4.heap.size 0 0 []) := Lib.hid ⟨hBX, hNL, by omega, by simp, by omega⟩
    have HAA := Lib.hid hAA
    clear hAA hBX hSS hNL HX HY
    go_wp2_with fail
    generalize ((W4.alloc (.cells #[] 31)).alloc (.cells #[.slice (some ⟨W4.heap.size, 0, none⟩) 0 0] 76)) = W5 at *
    have HB5 : Hid (Below w.heap.size w W5) := Lib.hid (HBW.out.trans (HAA.out.mono HBW.out.size))
    have HBd : Hid (Below W5.heap.size W5 W5.drew) := Lib.hid (Below.refl _ _).drew
    refine wp_region_held_drew (S := fun w9 => Below W4.heap.size W4 w9) (by kernel_rfl) (HAA.out.trans (HBd.out.mono HAA.out.size)) (fun hHeld => ?_)
    refine wpAnyH_take (i := 0) (v := ?v1000) (by simp only [List.getElem?_toArray, List.getElem?_cons_succ, List.getElem?_cons_zero]; rfl) (by kernel_rfl) (by kernel_rfl) (by kernel_rfl) (by exact fun _ _ _ h => h) (Or.inl ⟨by rfl, fun w9 hS9 => ?hy1000⟩) hHeld ?rest1000
    case hy1000 =>
      dsimp only at hS9
      obtain ⟨⟨a0, a1, a2, a3⟩, _⟩ := party_cells ((hS9.block GA ha0).trans HGA.out)
      obtain ⟨⟨b0, b1, b2, b3⟩, _⟩ := party_cells ((hS9.block GB hb0).trans HGB.out)
      go_simp
      try with_reducible rfl
    try simp only [Act.put, List.setIfInBounds_toArray, List.set_cons_zero, List.set_cons_succ]
    refine wpAnyH_take (i := 2) (v := ?v1001) (by simp only [List.getElem?_toArray, List.getElem?_cons_succ, List.getElem?_cons_zero]; rfl) (by kernel_rfl) (by kernel_rfl) (by kernel_rfl) (by exact fun _ _ _ h => h) (Or.inl ⟨by rfl, fun w9 hS9 => ?hy1001⟩) hHeld ?rest1001
    case hy1001 =>
      dsimp only at hS9
      obtain ⟨⟨a0, a1, a2, a3⟩, _⟩ := party_cells ((hS9.block GA ha0).trans HGA.out)
      obtain ⟨⟨b0, b1, b2, b3⟩, _⟩ := party_cells ((hS9.block GB hb0).trans HGB.out)
      go_simp
      try with_reducible rfl
    try simp only [Act.put, List.setIfInBounds_toArray, List.set_cons_zero, List.set_cons_succ]
    refine wpAnyH_take (i := 4) (v := ?v1002) (by simp only [List.getElem?_toArray, List.getElem?_cons_succ, List.getElem?_cons_zero]; rfl) (by kernel_rfl) (by kernel_rfl) (by kernel_rfl) (by exact fun _ _ _ h => h) (Or.inl ⟨by rfl, fun w9 hS9 => ?hy1002⟩) hHeld ?rest1002
    case hy1002 =>
      dsimp only at hS9
      obtain ⟨⟨a0, a1, a2, a3⟩, _⟩ := party_cells ((hS9.block GA ha0).trans HGA.out)
      obtain ⟨⟨b0, b1, b2, b3⟩, _⟩ := party_cells ((hS9.block GB hb0).trans HGB.out)
      go_simp
      try with_reducible rfl
    try simp only [Act.put, List.setIfInBounds_toArray, List.set_cons_zero, List.set_cons_succ]
    refine wpAnyH_ready (rs := [1]) (by kernel_rfl) (by simp) (AllReadyH.cons (by simp only [List.getElem?_toArray, List.getElem?_cons_succ, List.getElem?_cons_zero]; rfl) (fun K hK => ?_) AllReadyH.nil)
    go_simp
    refine (HNAtrue.out _ (HB5.out.trans (HBd.out.mono HB5.out.size))).mono ?_
    rintro e w11 ⟨g11, rfl, hg11, hm11, hb11⟩
    have HB11 : Hid (Below W5.heap.size W5 w11) := Lib.hid (HBd.out.trans (hb11.mono HBd.out.size))
    have HMA11 := Lib.hid hm11
    clear hm11
    clear hb11
    go_wp2_with fail
    refine hK.out _ _ (HAA.out.trans (HB11.out.mono HAA.out.size)) (fun hHeld => ?_)
    clear hK K
    try simp only [Act.put, List.setIfInBounds_toArray, List.set_cons_zero, List.set_cons_succ]
    refine wpAnyH_ready (rs := [3]) (by kernel_rfl) (by simp) (AllReadyH.cons (by simp only [List.getElem?_toArray, List.getElem?_cons_succ, List.getElem?_cons_zero]; rfl) (fun K hK => ?_) AllReadyH.nil)
    go_simp
    refine (HNBtrue.out _ (HB5.out.trans (HB11.out.mono HB5.out.size))).mono ?_
    rintro e w12 ⟨g12, rfl, hg12, hm12, hb12⟩
    have HB12 : Hid (Below W5.heap.size W5 w12) := Lib.hid (HB11.out.trans (hb12.mono HB11.out.size))
    have HMB11 := Lib.hid hm12
    replace HMA11 := Lib.hid (HMA11.out.kept (grown_below hb12 none) (by simp))
    clear hm12
    clear hb12
    go_wp2_with fail
    refine hK.out _ _ (HAA.out.trans (HB12.out.mono HAA.out.size)) (fun hHeld => ?_)
    clear hK K
    try simp only [Act.put, List.setIfInBounds_toArray, List.set_cons_zero, List.set_cons_succ]
    have hdummy : True := trivial
    have q1 := HMA11.out.lt
    have q2 := HMB11.out.lt
    have q3 := HB12.out.size
    have q4 := HB11.out.size
    have q5 : W5.heap.size ≤ g11 := hg11
    have q6 : W5.heap.size ≤ g12 := Nat.le_trans HB11.out.size hg12
    have q7 := HBOX.out.rows.hi
    have q8 := HBOX.out.rows.lo
    have q9 := HBOX.out.lo
    have q10 := (Array.getElem?_eq_some_iff.1 HBOX.out.box).1
    have q11 := HAA.out.size
    refine wpAnyH_ready (rs := [5]) (by kernel_rfl) (by simp) (AllReadyH.cons (by simp only [List.getElem?_toArray, List.getElem?_cons_succ, List.getElem?_cons_zero]; rfl) (fun K hK => ?_) AllReadyH.nil)
    go_simp
    refine (sharedAdd_any x y true true HZA.out hxp HMA11.out HMB11.out (HBOX.out.same HB12.out) (by omega) (by omega) (by omega)).mono ?_
    rintro e W6 ⟨rfl, rs11, g311, n311, c311, hbx3, hbut, hn311, hg3⟩
    have HBX11 := Lib.hid hbx3
    have HAA11 : Hid (Below W4.heap.size W4 W6) := Lib.hid (hbut.below (HAA.out.trans (HB12.out.mono q11)) q8 q9 (by omega))
    clear hbx3 hbut hg3 q1 q2 q3 q4 q5 q6 q7 q8 q9 q10
    go_wp2_with fail
    refine hK.out _ _ HAA11.out (fun hHeld => ?_)
    clear hK K
    try simp only [Act.put, List.setIfInBounds_toArray, List.set_cons_zero, List.set_cons_succ]
    refine wpAnyH_done (by kernel_rfl) ?_ _
    go_wp2_with fail
    have HB6 : Hid (Below w.heap.size w W6) := Lib.hid (HBW.out.trans (HAA11.out.mono HBW.out.size))
    have HBd : Hid (Below W6.heap.size W6 W6.drew) := Lib.hid (Below.refl _ _).drew
    refine wp_region_held_drew (S := fun w9 => Below W4.heap.size W4 w9) (by kernel_rfl) (HAA11.out.trans (HBd.out.mono HAA11.out.size)) (fun hHeld => ?_)
    refine wpAnyH_take (i := 0) (v := ?v1003) (by simp only [List.getElem?_toArray, List.getElem?_cons_succ, List.getElem?_cons_zero]; rfl) (by kernel_rfl) (by kernel_rfl) (by kernel_rfl) (by exact fun _ _ _ h => h) (Or.inl ⟨by rfl, fun w9 hS9 => ?hy1003⟩) hHeld ?rest1003
    case hy1003 =>
      dsimp only at hS9
      obtain ⟨⟨a0, a1, a2, a3⟩, _⟩ := party_cells ((hS9.block GA ha0).trans HGA.out)
      obtain ⟨⟨b0, b1, b2, b3⟩, _⟩ := party_cells ((hS9.block GB hb0).trans HGB.out)
      go_simp
      try with_reducible rfl
    try simp only [Act.put, List.setIfInBounds_toArray, List.set_cons_zero, List.set_cons_succ]
    refine wpAnyH_take (i := 2) (v := ?v1004) (by simp only [List.getElem?_toArray, List.getElem?_cons_succ, List.getElem?_cons_zero]; rfl) (by kernel_rfl) (by kernel_rfl) (by kernel_rfl) (by exact fun _ _ _ h => h) (Or.inl ⟨by rfl, fun w9 hS9 => ?hy1004⟩) hHeld ?rest1004
    case hy1004 =>
      dsimp only at hS9
      obtain ⟨⟨a0, a1, a2, a3⟩, _⟩ := party_cells ((hS9.block GA ha0).trans HGA.out)
      obtain ⟨⟨b0, b1, b2, b3⟩, _⟩ := party_cells ((hS9.block GB hb0).trans HGB.out)
      go_simp
      try with_reducible rfl
    try simp only [Act.put, List.setIfInBounds_toArray, List.set_cons_zero, List.set_cons_succ]
    refine wpAnyH_take (i := 4) (v := ?v1005) (by simp only [List.getElem?_toArray, List.getElem?_cons_succ, List.getElem?_cons_zero]; rfl) (by kernel_rfl) (by kernel_rfl) (by kernel_rfl) (by exact fun _ _ _ h => h) (Or.inl ⟨by rfl, fun w9 hS9 => ?hy1005⟩) hHeld ?rest1005
    case hy1005 =>
      dsimp only at hS9
      obtain ⟨⟨a0, a1, a2, a3⟩, _⟩ := party_cells ((hS9.block GA ha0).trans HGA.out)
      obtain ⟨⟨b0, b1, b2, b3⟩, _⟩ := party_cells ((hS9.block GB hb0).trans HGB.out)
      go_simp
      try with_reducible rfl
    try simp only [Act.put, List.setIfInBounds_toArray, List.set_cons_zero, List.set_cons_succ]
    refine wpAnyH_ready (rs := [1]) (by kernel_rfl) (by simp) (AllReadyH.cons (by simp only [List.getElem?_toArray, List.getElem?_cons_succ, List.getElem?_cons_zero]; rfl) (fun K hK => ?_) AllReadyH.nil)
    go_simp
    refine (HNAfalse.out _ (HB6.out.trans (HBd.out.mono HB6.out.size))).mono ?_
    rintro e w21 ⟨g21, rfl, hg21, hm21, hb21⟩
    have HB21 : Hid (Below W6.heap.size W6 w21) := Lib.hid (HBd.out.trans (hb21.mono HBd.out.size))
    have HMA21 := Lib.hid hm21
    clear hm21
    clear hb21
    go_wp2_with fail
    refine hK.out _ _ (HAA11.out.trans (HB21.out.mono HAA11.out.size)) (fun hHeld => ?_)
    clear hK K
    try simp only [Act.put, List.setIfInBounds_toArray, List.set_cons_zero, List.set_cons_succ]
    refine wpAnyH_ready (rs := [3]) (by kernel_rfl) (by simp) (AllReadyH.cons (by simp only [List.getElem?_toArray, List.getElem?_cons_succ, List.getElem?_cons_zero]; rfl) (fun K hK => ?_) AllReadyH.nil)
    go_simp
    refine (HNBfalse.out _ (HB6.out.trans (HB21.out.mono HB6.out.size))).mono ?_
    rintro e w22 ⟨g22, rfl, hg22, hm22, hb22⟩
    have HB22 : Hid (Below W6.heap.size W6 w22) := Lib.hid (HB21.out.trans (hb22.mono HB21.out.size))
    have HMB21 := Lib.hid hm22
    replace HMA21 := Lib.hid (HMA21.out.kept (grown_below hb22 none) (by simp))
    clear hm22
    clear hb22
    go_wp2_with fail
    refine hK.out _ _ (HAA11.out.trans (HB22.out.mono HAA11.out.size)) (fun hHeld => ?_)
    clear hK K
    try simp only [Act.put, List.setIfInBounds_toArray, List.set_cons_zero, List.set_cons_succ]
    have hdummy : True := trivial
    have q1 := HMA21.out.lt
    have q2 := HMB21.out.lt
    have q3 := HB22.out.size
    have q4 := HB21.out.size
    have q5 : W6.heap.size ≤ g21 := hg21
    have q6 : W6.heap.size ≤ g22 := Nat.le_trans HB21.out.size hg22
    have q7 := HBX11.out.rows.hi
    have q8 := HBX11.out.rows.lo
    have q9 := HBX11.out.lo
    have q10 := (Array.getElem?_eq_some_iff.1 HBX11.out.box).1
    have q11 := HAA11.out.size
    refine wpAnyH_ready (rs := [5]) (by kernel_rfl) (by simp) (AllReadyH.cons (by simp only [List.getElem?_toArray, List.getElem?_cons_succ, List.getElem?_cons_zero]; rfl) (fun K hK => ?_) AllReadyH.nil)
    go_simp
    refine (sharedAdd_any x y false false HZA.out hxp HMA21.out HMB21.out (HBX11.out.same HB22.out) (by omega) (by omega) (by omega)).mono ?_
    rintro e W7 ⟨rfl, rs21, g321, n321, c321, hbx3, hbut, hn321, hg3⟩
    have HBX21 := Lib.hid hbx3
    have HAA21 : Hid (Below W4.heap.size W4 W7) := Lib.hid (hbut.below (HAA11.out.trans (HB22.out.mono q11)) q8 q9 (by omega))
    clear hbx3 hbut hg3 q1 q2 q3 q4 q5 q6 q7 q8 q9 q10
    go_wp2_with fail
    refine hK.out _ _ HAA21.out (fun hHeld => ?_)
    clear hK K
    try simp only [Act.put, List.setIfInBounds_toArray, List.set_cons_zero, List.set_cons_succ]
    refine wpAnyH_done (by kernel_rfl) ?_ _
    have HB7 : Hid (Below w.heap.size w W7) := Lib.hid (HBW.out.trans (HAA21.out.mono HBW.out.size))
    have z0 := (block_cell HBX21.out.box 0).trans rfl
    have h9 := HBX21.out.rows.lower hge
    rw [List.nil_append] at h9
    have H9 : Hid (OwnRs rs21 W7.heap.size W7 w.heap.size g321 n321 c321 (samesP a b x y)) := Lib.hid h9
    clear h9
    go_wp2_with fail
    go_ret
    exact ⟨_, _, _, rfl, ⟨rs21, H9.out⟩, HB7.out⟩
  · skip
    go_simp
    refine hK.out _ _ ((Below.refl _ W0).drew.alloc (Nat.le_refl _) _) (fun hHeld => ?_)
    clear hK K
    try simp only [Act.put, List.setIfInBounds_toArray, List.set_cons_zero, List.set_cons_succ]
    refine wpAnyH_ready (rs := [6]) (by kernel_rfl) (by simp) (AllReadyH.cons (by simp only [List.getElem?_toArray, List.getElem?_cons_succ, List.getElem?_cons_zero]; rfl) (fun K hK => ?_) AllReadyH.nil)
    go_simp
    refine hK.out _ _ (((Below.refl _ W0).drew.alloc (Nat.le_refl _) _).alloc (by simp) _) (fun hHeld => ?_)
    clear hK K
    try simp only [Act.put, List.setIfInBounds_toArray, List.set_cons_zero, List.set_cons_succ]
    refine wpAnyH_ready (rs := [8]) (by kernel_rfl) (by simp) (AllReadyH.cons (by simp only [List.getElem?_toArray, List.getElem?_cons_succ, List.getElem?_cons_zero]; rfl) (fun K hK => ?_) AllReadyH.nil)
    go_simp
    refine hK.out _ _ (((Below.refl _ W0).alloc (Nat.le_refl _) _).alloc (by simp) _).drew (fun hHeld => ?_)
    clear hK K
    try simp only [Act.put, List.setIfInBounds_toArray, List.set_cons_zero, List.set_cons_succ]
    refine wpAnyH_ready (rs := [9]) (by kernel_rfl) (by simp) (AllReadyH.cons (by simp only [List.getElem?_toArray, List.getElem?_cons_succ, List.getElem?_cons_zero]; rfl) (fun K hK => ?_) AllReadyH.nil)
    go_simp
    refine hK.out _ _ (((Below.refl _ W0).alloc (Nat.le_refl _) _).alloc (by simp) _).drew (fun hHeld => ?_)
    clear hK K
    try simp only [Act.put, List.setIfInBounds_toArray, List.set_cons_zero, List.set_cons_succ]
    refine wpAnyH_done (by kernel_rfl) ?_ _
    obtain ⟨hB9, hX9, hY9, hS9⟩ := twice W0 #[.int .i64 b.st, .slice p' np' cp', .slice q' n' c', .int .i64 y] #[.int .i64 a.st, .slice p np cp, .slice q n c, .int .i64 x] 73 73
    have HGB : Hid (((W0.alloc (.cells #[.int .i64 b.st, .slice p' np' cp', .slice q' n' c', .int .i64 y] 73)).alloc (.cells #[.int .i64 a.st, .slice p np cp, .slice q n c, .int .i64 x] 73)).drew.heap[W0.heap.size]? = some (.cells #[.int .i64 b.st, .slice p' np' cp', .slice q' n' c', .int .i64 y] 73 (0, 0))) := Lib.hid hX9
    have HGA : Hid (((W0.alloc (.cells #[.int .i64 b.st, .slice p' np' cp', .slice q' n' c', .int .i64 y] 73)).alloc (.cells #[.int .i64 a.st, .slice p np cp, .slice q n c, .int .i64 x] 73)).drew.heap[W0.heap.size + 1]? = some (.cells #[.int .i64 a.st, .slice p np cp, .slice q n c, .int .i64 x] 73 (0, 0))) := Lib.hid hY9
    have HBF : Hid (Below W0.heap.size W0 ((W0.alloc (.cells #[.int .i64 b.st, .slice p' np' cp', .slice q' n' c', .int .i64 y] 73)).alloc (.cells #[.int .i64 a.st, .slice p np cp, .slice q n c, .int .i64 x] 73)).drew) := Lib.hid hB9.drew
    clear hB9 hX9 hY9 hS9
    generalize hW4 : ((W0.alloc (.cells #[.int .i64 b.st, .slice p' np' cp', .slice q' n' c', .int .i64 y] 73)).alloc (.cells #[.int .i64 a.st, .slice p np cp, .slice q n c, .int .i64 x] 73)).drew = W4 at *
    clear hW4
    obtain ⟨GA, hG2⟩ : ∃ r, r = W0.heap.size + 1 := ⟨_, rfl⟩
    obtain ⟨GB, hG1⟩ : ∃ r, r = W0.heap.size := ⟨_, rfl⟩
    rw [← hG2, ← hG1]
    replace HGB : Hid (W4.heap[GB]? = some (.cells #[.int .i64 b.st, .slice p' np' cp', .slice q' n' c', .int .i64 y] 73 (0, 0))) := Lib.hid (by rw [hG1]; exact HGB.out)
    replace HGA : Hid (W4.heap[GA]? = some (.cells #[.int .i64 a.st, .slice p np cp, .slice q n c, .int .i64 x] 73 (0, 0))) := Lib.hid (by rw [hG2]; exact HGA.out)
    clear hG1 hG2
    have HBW : Hid (Below w.heap.size w W4) := Lib.hid (HB.out.trans (HBF.out.mono HB.out.size))
    have ha0 : GA < W4.heap.size := (Array.getElem?_eq_some_iff.1 HGA.out).1
    have hb0 : GB < W4.heap.size := (Array.getElem?_eq_some_iff.1 HGB.out).1
    have hge : w.heap.size ≤ W4.heap.size := HBW.out.size
    have hxp : a.moves.length ≤ 100000000 := by unfold Mac.parts at hn; omega
    have hxq : a.moves.length ≤ 10000000 := by unfold Mac.parts at hn; omega
    obtain ⟨hAA, _, hBX, hSS⟩ := twice W4 #[] #[.slice (some ⟨W4.heap.size, 0, none⟩) 0 0] 31 76
    have hNL := ((OwnRs.nil (w := W4) (B := W4.heap.size) (Nat.le_refl _)).same (alloc_same _ (.cells #[.slice (some ⟨W4.heap.size, 0, none⟩) 0 0] 76))).upper (S' := ((W4.alloc (.cells #[] 31)).alloc (.cells #[.slice (some ⟨W4.heap.size, 0, none⟩) 0 0] 76)).heap.size) (by simp) (Nat.le_refl _)
    have HBOX : Hid (BoxR (W4.heap.size + 1) [] ((W4.alloc (.cells #[] 31)).alloc (.cells #[.slice (some ⟨W4.heap.size, 0, none⟩) 0 0] 76)) W4.heap.size W4.heap.size 0 0 []) := Lib.hid ⟨hBX, hNL, by omega, by simp, by omega⟩
    have HAA := Lib.hid hAA
    clear hAA hBX hSS hNL HX HY
    go_wp2_with fail
    generalize ((W4.alloc (.cells #[] 31)).alloc (.cells #[.slice (some ⟨W4.heap.size, 0, none⟩) 0 0] 76)) = W5 at *
    have HB5 : Hid (Below w.heap.size w W5) := Lib.hid (HBW.out.trans (HAA.out.mono HBW.out.size))
    have HBd : Hid (Below W5.heap.size W5 W5.drew) := Lib.hid (Below.refl _ _).drew
    refine wp_region_held_drew (S := fun w9 => Below W4.heap.size W4 w9) (by kernel_rfl) (HAA.out.trans (HBd.out.mono HAA.out.size)) (fun hHeld => ?_)
    refine wpAnyH_take (i := 0) (v := ?v1006) (by simp only [List.getElem?_toArray, List.getElem?_cons_succ, List.getElem?_cons_zero]; rfl) (by kernel_rfl) (by kernel_rfl) (by kernel_rfl) (by exact fun _ _ _ h => h) (Or.inl ⟨by rfl, fun w9 hS9 => ?hy1006⟩) hHeld ?rest1006
    case hy1006 =>
      dsimp only at hS9
      obtain ⟨⟨a0, a1, a2, a3⟩, _⟩ := party_cells ((hS9.block GA ha0).trans HGA.out)
      obtain ⟨⟨b0, b1, b2, b3⟩, _⟩ := party_cells ((hS9.block GB hb0).trans HGB.out)
      go_simp
      try with_reducible rfl
    try simp only [Act.put, List.setIfInBounds_toArray, List.set_cons_zero, List.set_cons_succ]
    refine wpAnyH_take (i := 2) (v := ?v1007) (by simp only [List.getElem?_toArray, List.getElem?_cons_succ, List.getElem?_cons_zero]; rfl) (by kernel_rfl) (by kernel_rfl) (by kernel_rfl) (by exact fun _ _ _ h => h) (Or.inl ⟨by rfl, fun w9 hS9 => ?hy1007⟩) hHeld ?rest1007
    case hy1007 =>
      dsimp only at hS9
      obtain ⟨⟨a0, a1, a2, a3⟩, _⟩ := party_cells ((hS9.block GA ha0).trans HGA.out)
      obtain ⟨⟨b0, b1, b2, b3⟩, _⟩ := party_cells ((hS9.block GB hb0).trans HGB.out)
      go_simp
      try with_reducible rfl
    try simp only [Act.put, List.setIfInBounds_toArray, List.set_cons_zero, List.set_cons_succ]
    refine wpAnyH_take (i := 4) (v := ?v1008) (by simp only [List.getElem?_toArray, List.getElem?_cons_succ, List.getElem?_cons_zero]; rfl) (by kernel_rfl) (by kernel_rfl) (by kernel_rfl) (by exact fun _ _ _ h => h) (Or.inl ⟨by rfl, fun w9 hS9 => ?hy1008⟩) hHeld ?rest1008
    case hy1008 =>
      dsimp only at hS9
      obtain ⟨⟨a0, a1, a2, a3⟩, _⟩ := party_cells ((hS9.block GA ha0).trans HGA.out)
      obtain ⟨⟨b0, b1, b2, b3⟩, _⟩ := party_cells ((hS9.block GB hb0).trans HGB.out)
      go_simp
      try with_reducible rfl
    try simp only [Act.put, List.setIfInBounds_toArray, List.set_cons_zero, List.set_cons_succ]
    refine wpAnyH_ready (rs := [1]) (by kernel_rfl) (by simp) (AllReadyH.cons (by simp only [List.getElem?_toArray, List.getElem?_cons_succ, List.getElem?_cons_zero]; rfl) (fun K hK => ?_) AllReadyH.nil)
    go_simp
    refine (HNAtrue.out _ (HB5.out.trans (HBd.out.mono HB5.out.size))).mono ?_
    rintro e w11 ⟨g11, rfl, hg11, hm11, hb11⟩
    have HB11 : Hid (Below W5.heap.size W5 w11) := Lib.hid (HBd.out.trans (hb11.mono HBd.out.size))
    have HMA11 := Lib.hid hm11
    clear hm11
    clear hb11
    go_wp2_with fail
    refine hK.out _ _ (HAA.out.trans (HB11.out.mono HAA.out.size)) (fun hHeld => ?_)
    clear hK K
    try simp only [Act.put, List.setIfInBounds_toArray, List.set_cons_zero, List.set_cons_succ]
    refine wpAnyH_ready (rs := [3]) (by kernel_rfl) (by simp) (AllReadyH.cons (by simp only [List.getElem?_toArray, List.getElem?_cons_succ, List.getElem?_cons_zero]; rfl) (fun K hK => ?_) AllReadyH.nil)
    go_simp
    refine (HNBtrue.out _ (HB5.out.trans (HB11.out.mono HB5.out.size))).mono ?_
    rintro e w12 ⟨g12, rfl, hg12, hm12, hb12⟩
    have HB12 : Hid (Below W5.heap.size W5 w12) := Lib.hid (HB11.out.trans (hb12.mono HB11.out.size))
    have HMB11 := Lib.hid hm12
    replace HMA11 := Lib.hid (HMA11.out.kept (grown_below hb12 none) (by simp))
    clear hm12
    clear hb12
    go_wp2_with fail
    refine hK.out _ _ (HAA.out.trans (HB12.out.mono HAA.out.size)) (fun hHeld => ?_)
    clear hK K
    try simp only [Act.put, List.setIfInBounds_toArray, List.set_cons_zero, List.set_cons_succ]
    have hdummy : True := trivial
    have q1 := HMA11.out.lt
    have q2 := HMB11.out.lt
    have q3 := HB12.out.size
    have q4 := HB11.out.size
    have q5 : W5.heap.size ≤ g11 := hg11
    have q6 : W5.heap.size ≤ g12 := Nat.le_trans HB11.out.size hg12
    have q7 := HBOX.out.rows.hi
    have q8 := HBOX.out.rows.lo
    have q9 := HBOX.out.lo
    have q10 := (Array.getElem?_eq_some_iff.1 HBOX.out.box).1
    have q11 := HAA.out.size
    refine wpAnyH_ready (rs := [5]) (by kernel_rfl) (by simp) (AllReadyH.cons (by simp only [List.getElem?_toArray, List.getElem?_cons_succ, List.getElem?_cons_zero]; rfl) (fun K hK => ?_) AllReadyH.nil)
    go_simp
    refine (sharedAdd_any x y true true HZA.out hxp HMA11.out HMB11.out (HBOX.out.same HB12.out) (by omega) (by omega) (by omega)).mono ?_
    rintro e W6 ⟨rfl, rs11, g311, n311, c311, hbx3, hbut, hn311, hg3⟩
    have HBX11 := Lib.hid hbx3
    have HAA11 : Hid (Below W4.heap.size W4 W6) := Lib.hid (hbut.below (HAA.out.trans (HB12.out.mono q11)) q8 q9 (by omega))
    clear hbx3 hbut hg3 q1 q2 q3 q4 q5 q6 q7 q8 q9 q10
    go_wp2_with fail
    refine hK.out _ _ HAA11.out (fun hHeld => ?_)
    clear hK K
    try simp only [Act.put, List.setIfInBounds_toArray, List.set_cons_zero, List.set_cons_succ]
    refine wpAnyH_done (by kernel_rfl) ?_ _
    go_wp2_with fail
    have HB6 : Hid (Below w.heap.size w W6) := Lib.hid (HBW.out.trans (HAA11.out.mono HBW.out.size))
    have HBd : Hid (Below W6.heap.size W6 W6.drew) := Lib.hid (Below.refl _ _).drew
    refine wp_region_held_drew (S := fun w9 => Below W4.heap.size W4 w9) (by kernel_rfl) (HAA11.out.trans (HBd.out.mono HAA11.out.size)) (fun hHeld => ?_)
    refine wpAnyH_take (i := 0) (v := ?v1009) (by simp only [List.getElem?_toArray, List.getElem?_cons_succ, List.getElem?_cons_zero]; rfl) (by kernel_rfl) (by kernel_rfl) (by kernel_rfl) (by exact fun _ _ _ h => h) (Or.inl ⟨by rfl, fun w9 hS9 => ?hy1009⟩) hHeld ?rest1009
    case hy1009 =>
      dsimp only at hS9
      obtain ⟨⟨a0, a1, a2, a3⟩, _⟩ := party_cells ((hS9.block GA ha0).trans HGA.out)
      obtain ⟨⟨b0, b1, b2, b3⟩, _⟩ := party_cells ((hS9.block GB hb0).trans HGB.out)
      go_simp
      try with_reducible rfl
    try simp only [Act.put, List.setIfInBounds_toArray, List.set_cons_zero, List.set_cons_succ]
    refine wpAnyH_take (i := 2) (v := ?v1010) (by simp only [List.getElem?_toArray, List.getElem?_cons_succ, List.getElem?_cons_zero]; rfl) (by kernel_rfl) (by kernel_rfl) (by kernel_rfl) (by exact fun _ _ _ h => h) (Or.inl ⟨by rfl, fun w9 hS9 => ?hy1010⟩) hHeld ?rest1010
    case hy1010 =>
      dsimp only at hS9
      obtain ⟨⟨a0, a1, a2, a3⟩, _⟩ := party_cells ((hS9.block GA ha0).trans HGA.out)
      obtain ⟨⟨b0, b1, b2, b3⟩, _⟩ := party_cells ((hS9.block GB hb0).trans HGB.out)
      go_simp
      try with_reducible rfl
    try simp only [Act.put, List.setIfInBounds_toArray, List.set_cons_zero, List.set_cons_succ]
    refine wpAnyH_take (i := 4) (v := ?v1011) (by simp only [List.getElem?_toArray, List.getElem?_cons_succ, List.getElem?_cons_zero]; rfl) (by kernel_rfl) (by kernel_rfl) (by kernel_rfl) (by exact fun _ _ _ h => h) (Or.inl ⟨by rfl, fun w9 hS9 => ?hy1011⟩) hHeld ?rest1011
    case hy1011 =>
      dsimp only at hS9
      obtain ⟨⟨a0, a1, a2, a3⟩, _⟩ := party_cells ((hS9.block GA ha0).trans HGA.out)
      obtain ⟨⟨b0, b1, b2, b3⟩, _⟩ := party_cells ((hS9.block GB hb0).trans HGB.out)
      go_simp
      try with_reducible rfl
    try simp only [Act.put, List.setIfInBounds_toArray, List.set_cons_zero, List.set_cons_succ]
    refine wpAnyH_ready (rs := [1]) (by kernel_rfl) (by simp) (AllReadyH.cons (by simp only [List.getElem?_toArray, List.getElem?_cons_succ, List.getElem?_cons_zero]; rfl) (fun K hK => ?_) AllReadyH.nil)
    go_simp
    refine (HNAfalse.out _ (HB6.out.trans (HBd.out.mono HB6.out.size))).mono ?_
    rintro e w21 ⟨g21, rfl, hg21, hm21, hb21⟩
    have HB21 : Hid (Below W6.heap.size W6 w21) := Lib.hid (HBd.out.trans (hb21.mono HBd.out.size))
    have HMA21 := Lib.hid hm21
    clear hm21
    clear hb21
    go_wp2_with fail
    refine hK.out _ _ (HAA11.out.trans (HB21.out.mono HAA11.out.size)) (fun hHeld => ?_)
    clear hK K
    try simp only [Act.put, List.setIfInBounds_toArray, List.set_cons_zero, List.set_cons_succ]
    refine wpAnyH_ready (rs := [3]) (by kernel_rfl) (by simp) (AllReadyH.cons (by simp only [List.getElem?_toArray, List.getElem?_cons_succ, List.getElem?_cons_zero]; rfl) (fun K hK => ?_) AllReadyH.nil)
    go_simp
    refine (HNBfalse.out _ (HB6.out.trans (HB21.out.mono HB6.out.size))).mono ?_
    rintro e w22 ⟨g22, rfl, hg22, hm22, hb22⟩
    have HB22 : Hid (Below W6.heap.size W6 w22) := Lib.hid (HB21.out.trans (hb22.mono HB21.out.size))
    have HMB21 := Lib.hid hm22
    replace HMA21 := Lib.hid (HMA21.out.kept (grown_below hb22 none) (by simp))
    clear hm22
    clear hb22
    go_wp2_with fail
    refine hK.out _ _ (HAA11.out.trans (HB22.out.mono HAA11.out.size)) (fun hHeld => ?_)
    clear hK K
    try simp only [Act.put, List.setIfInBounds_toArray, List.set_cons_zero, List.set_cons_succ]
    have hdummy : True := trivial
    have q1 := HMA21.out.lt
    have q2 := HMB21.out.lt
    have q3 := HB22.out.size
    have q4 := HB21.out.size
    have q5 : W6.heap.size ≤ g21 := hg21
    have q6 : W6.heap.size ≤ g22 := Nat.le_trans HB21.out.size hg22
    have q7 := HBX11.out.rows.hi
    have q8 := HBX11.out.rows.lo
    have q9 := HBX11.out.lo
    have q10 := (Array.getElem?_eq_some_iff.1 HBX11.out.box).1
    have q11 := HAA11.out.size
    refine wpAnyH_ready (rs := [5]) (by kernel_rfl) (by simp) (AllReadyH.cons (by simp only [List.getElem?_toArray, List.getElem?_cons_succ, List.getElem?_cons_zero]; rfl) (fun K hK => ?_) AllReadyH.nil)
    go_simp
    refine (sharedAdd_any x y false false HZA.out hxp HMA21.out HMB21.out (HBX11.out.same HB22.out) (by omega) (by omega) (by omega)).mono ?_
    rintro e W7 ⟨rfl, rs21, g321, n321, c321, hbx3, hbut, hn321, hg3⟩
    have HBX21 := Lib.hid hbx3
    have HAA21 : Hid (Below W4.heap.size W4 W7) := Lib.hid (hbut.below (HAA11.out.trans (HB22.out.mono q11)) q8 q9 (by omega))
    clear hbx3 hbut hg3 q1 q2 q3 q4 q5 q6 q7 q8 q9 q10
    go_wp2_with fail
    refine hK.out _ _ HAA21.out (fun hHeld => ?_)
    clear hK K
    try simp only [Act.put, List.setIfInBounds_toArray, List.set_cons_zero, List.set_cons_succ]
    refine wpAnyH_done (by kernel_rfl) ?_ _
    have HB7 : Hid (Below w.heap.size w W7) := Lib.hid (HBW.out.trans (HAA21.out.mono HBW.out.size))
    have z0 := (block_cell HBX21.out.box 0).trans rfl
    have h9 := HBX21.out.rows.lower hge
    rw [List.nil_append] at h9
    have H9 : Hid (OwnRs rs21 W7.heap.size W7 w.heap.size g321 n321 c321 (samesP a b x y)) := Lib.hid h9
    clear h9
    go_wp2_with fail
    go_ret
    exact ⟨_, _, _, rfl, ⟨rs21, H9.out⟩, HB7.out⟩

end Go.Proofs.Ytckmgbobkffabaa
