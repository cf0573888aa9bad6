/- The pairs of states that follow if both machines make the same move: by the program. The pairs of states that two machines reach by the same moves: by the program. -/
import Derived.Test.YtckmgbobkffabaaG21
import Derived.BigRegion
import Derived.Test.YtckmgbobkffabaaG22
import Derived.Test.YtckmgbobkffabaaG1
namespace Go.Proofs.Ytckmgbobkffabaa
open Go.ChangeShapes Go.WideShapes Go.ChangeAt Go.RowKit
set_option linter.unusedVariables false
set_option linter.unusedSimpArgs false

set_option maxHeartbeats 8000000 in
set_option maxRecDepth 100000 in
theorem sameMoves_any {v v' : Value} {a b : Mac} (x y : Int) {w : World} (h : MacW w v a) (h' : MacW w v' b) (hz : ∀ z ∈ a.moves, Wmv z) (hz' : ∀ z ∈ b.moves, Wmv z) (hn : a.parts ≤ 10000000) (hn' : b.parts ≤ 10000000) :
  Calls Try.prog 83 #[v, v', .int .i64 x, .int .i64 y] w (MadeR w.heap.size (samesP a b x y) w) := by
 obtain ⟨p, np, cp, q, n, c, rfl⟩ := h.shape
 obtain ⟨p', np', cp', q', n', c', rfl⟩ := h'.shape
 obtain ⟨hB, hX, hY, hS⟩ := twice w #[.int .i64 a.st, .slice p np cp, .slice q n c] #[.int .i64 b.st, .slice p' np' cp', .slice q' n' c'] 27 27
 have HB := Lib.hid hB
 have HX := Lib.hid (three_cells hX)
 have HY := Lib.hid (three_cells hY)
 have HMA := Lib.hid h
 have HMB := Lib.hid h'
 have HZA := Lib.hid hz
 have HZB := Lib.hid hz'
 have HNAtrue : Hid (∀ W', Below w.heap.size w W' → Calls Try.prog 93 #[.agg #[.int .i64 a.st, .slice p np cp, .slice q n c, .int .i64 x], .bool true] W' fun e w' => ∃ g, e = .returned (.map (some g)) ∧ W'.heap.size ≤ g ∧ w'.ownsMap Try.prog 3 (plainElem (H := Unit) Try.prog 3) g a.moves.length (nx x true a.moves) ∧ Below W'.heap.size W' w') := Lib.hid fun W' hb => by
  have q := next_any x true (HMA.out.same hb) HZA.out (by omega)
  rw [party_eq] at q
  exact q
 have HNAfalse : Hid (∀ W', Below w.heap.size w W' → Calls Try.prog 93 #[.agg #[.int .i64 a.st, .slice p np cp, .slice q n c, .int .i64 x], .bool false] W' fun e w' => ∃ g, e = .returned (.map (some g)) ∧ W'.heap.size ≤ g ∧ w'.ownsMap Try.prog 3 (plainElem (H := Unit) Try.prog 3) g a.moves.length (nx x false a.moves) ∧ Below W'.heap.size W' w') := Lib.hid fun W' hb => by
  have q := next_any x false (HMA.out.same hb) HZA.out (by omega)
  rw [party_eq] at q
  exact q
 have HNBtrue : Hid (∀ W', Below w.heap.size w W' → Calls Try.prog 93 #[.agg #[.int .i64 b.st, .slice p' np' cp', .slice q' n' c', .int .i64 y], .bool true] W' fun e w' => ∃ g, e = .returned (.map (some g)) ∧ W'.heap.size ≤ g ∧ w'.ownsMap Try.prog 3 (plainElem (H := Unit) Try.prog 3) g b.moves.length (nx y true b.moves) ∧ Below W'.heap.size W' w') := Lib.hid fun W' hb => by
  have q := next_any y true (HMB.out.same hb) HZB.out (by omega)
  rw [party_eq] at q
  exact q
 have HNBfalse : Hid (∀ W', Below w.heap.size w W' → Calls Try.prog 93 #[.agg #[.int .i64 b.st, .slice p' np' cp', .slice q' n' c', .int .i64 y], .bool false] W' fun e w' => ∃ g, e = .returned (.map (some g)) ∧ W'.heap.size ≤ g ∧ w'.ownsMap Try.prog 3 (plainElem (H := Unit) Try.prog 3) g b.moves.length (nx y false b.moves) ∧ Below W'.heap.size W' w') := Lib.hid fun W' hb => by
  have q := next_any y false (HMB.out.same hb) HZB.out (by omega)
  rw [party_eq] at q
  exact q
 clear hB hX hY hS h h' hz hz'
 unfold MadeR
 go_enter Try.func83, Try.ntmps83
 obtain ⟨x0, x1, x2, -⟩ := HX.out
 obtain ⟨y0, y1, y2, -⟩ := HY.out
 go_wp2_with fail
 clear x0 x1 x2 y0 y1 y2
 generalize hW0 : ((w.alloc (.cells #[.int .i64 a.st, .slice p np cp, .slice q n c] 27)).alloc (.cells #[.int .i64 b.st, .slice p' np' cp', .slice q' n' c'] 27)) = W0 at *
 clear hW0
 refine wp_region_held_drew (S := fun w9 => Below W0.heap.size W0 w9) (by kernel_rfl) (Below.refl _ W0).drew (fun hHeld => ?_)
 refine wpAnyH_take (i := 0) (v := ?v1) (by simp only [get9]; rfl) (by kernel_rfl) (by kernel_rfl) (by kernel_rfl) (by exact fun _ _ _ h => h) (Or.inl ⟨by rfl, fun w9 hS9 => ?hy1⟩) hHeld ?rest1
 case hy1 =>
  dsimp only at hS9
  have q0 := cell_stay HX.out.1 hS9
  have q1 := cell_stay HX.out.2.1 hS9
  have q2 := cell_stay HX.out.2.2.1 hS9
  have q3 := cell_stay HY.out.1 hS9
  have q4 := cell_stay HY.out.2.1 hS9
  have q5 := cell_stay HY.out.2.2.1 hS9
  go_simp
  try with_reducible rfl
 try simp only [Act.put, set9]
 refine wpAnyH_take (i := 1) (v := ?v2) (by simp only [get9]; rfl) (by kernel_rfl) (by kernel_rfl) (by kernel_rfl) (by exact fun _ _ _ h => h) (Or.inl ⟨by rfl, fun w9 hS9 => ?hy2⟩) hHeld ?rest2
 case hy2 =>
  dsimp only at hS9
  have q0 := cell_stay HX.out.1 hS9
  have q1 := cell_stay HX.out.2.1 hS9
  have q2 := cell_stay HX.out.2.2.1 hS9
  have q3 := cell_stay HY.out.1 hS9
  have q4 := cell_stay HY.out.2.1 hS9
  have q5 := cell_stay HY.out.2.2.1 hS9
  go_simp
  try with_reducible rfl
 try simp only [Act.put, set9]
 refine wpAnyH_take (i := 2) (v := ?v3) (by simp only [get9]; rfl) (by kernel_rfl) (by kernel_rfl) (by kernel_rfl) (by exact fun _ _ _ h => h) (Or.inl ⟨by rfl, fun w9 hS9 => ?hy3⟩) hHeld ?rest3
 case hy3 =>
  dsimp only at hS9
  have q0 := cell_stay HX.out.1 hS9
  have q1 := cell_stay HX.out.2.1 hS9
  have q2 := cell_stay HX.out.2.2.1 hS9
  have q3 := cell_stay HY.out.1 hS9
  have q4 := cell_stay HY.out.2.1 hS9
  have q5 := cell_stay HY.out.2.2.1 hS9
  go_simp
  try with_reducible rfl
 try simp only [Act.put, set9]
 refine wpAnyH_take (i := 3) (v := ?v4) (by simp only [get9]; rfl) (by kernel_rfl) (by kernel_rfl) (by kernel_rfl) (by exact fun _ _ _ h => h) (Or.inl ⟨by rfl, fun w9 hS9 => ?hy4⟩) hHeld ?rest4
 case hy4 =>
  dsimp only at hS9
  have q0 := cell_stay HX.out.1 hS9
  have q1 := cell_stay HX.out.2.1 hS9
  have q2 := cell_stay HX.out.2.2.1 hS9
  have q3 := cell_stay HY.out.1 hS9
  have q4 := cell_stay HY.out.2.1 hS9
  have q5 := cell_stay HY.out.2.2.1 hS9
  go_simp
  try with_reducible rfl
 try simp only [Act.put, set9]
 refine wpAnyH_take (i := 4) (v := ?v5) (by simp only [get9]; rfl) (by kernel_rfl) (by kernel_rfl) (by kernel_rfl) (by exact fun _ _ _ h => h) (Or.inl ⟨by rfl, fun w9 hS9 => ?hy5⟩) hHeld ?rest5
 case hy5 =>
  dsimp only at hS9
  have q0 := cell_stay HX.out.1 hS9
  have q1 := cell_stay HX.out.2.1 hS9
  have q2 := cell_stay HX.out.2.2.1 hS9
  have q3 := cell_stay HY.out.1 hS9
  have q4 := cell_stay HY.out.2.1 hS9
  have q5 := cell_stay HY.out.2.2.1 hS9
  go_simp
  try with_reducible rfl
 try simp only [Act.put, set9]
 refine wpAnyH_take (i := 5) (v := ?v6) (by simp only [get9]; rfl) (by kernel_rfl) (by kernel_rfl) (by kernel_rfl) (by exact fun _ _ _ h => h) (Or.inl ⟨by rfl, fun w9 hS9 => ?hy6⟩) hHeld ?rest6
 case hy6 =>
  dsimp only at hS9
  have q0 := cell_stay HX.out.1 hS9
  have q1 := cell_stay HX.out.2.1 hS9
  have q2 := cell_stay HX.out.2.2.1 hS9
  have q3 := cell_stay HY.out.1 hS9
  have q4 := cell_stay HY.out.2.1 hS9
  have q5 := cell_stay HY.out.2.2.1 hS9
  go_simp
  try with_reducible rfl
 try simp only [Act.put, set9]
 refine wpAnyH_ready (rs := [6, 7]) (by kernel_rfl) (by simp) (AllReadyH.cons (by simp only [get9]; rfl) (fun K hK => ?_) (AllReadyH.cons (by simp only [get9]; rfl) (fun K hK => ?_) AllReadyH.nil))
 ·skip
  go_simp
  refine hK.out _ _ ((Below.refl _ W0).drew.alloc (Nat.le_refl _) _) (fun hHeld => ?_)
  clear hK K
  try simp only [Act.put, set9]
  refine wpAnyH_ready (rs := [7]) (by kernel_rfl) (by simp) (AllReadyH.cons (by simp only [get9]; rfl) (fun K hK => ?_) AllReadyH.nil)
  go_simp
  refine hK.out _ _ (((Below.refl _ W0).drew.alloc (Nat.le_refl _) _).alloc (by simp) _) (fun hHeld => ?_)
  clear hK K
  try simp only [Act.put, set9]
  refine wpAnyH_ready (rs := [8]) (by kernel_rfl) (by simp) (AllReadyH.cons (by simp only [get9]; rfl) (fun K hK => ?_) AllReadyH.nil)
  go_simp
  refine hK.out _ _ (((Below.refl _ W0).alloc (Nat.le_refl _) _).alloc (by simp) _).drew (fun hHeld => ?_)
  clear hK K
  try simp only [Act.put, set9]
  refine wpAnyH_ready (rs := [9]) (by kernel_rfl) (by simp) (AllReadyH.cons (by simp only [get9]; rfl) (fun K hK => ?_) AllReadyH.nil)
  go_simp
  refine hK.out _ _ (((Below.refl _ W0).alloc (Nat.le_refl _) _).alloc (by simp) _).drew (fun hHeld => ?_)
  clear hK K
  try simp only [Act.put, set9]
  refine wpAnyH_done (by kernel_rfl) ?_ _
  obtain ⟨hB9, hX9, hY9, hS9⟩ := twice W0 #[.int .i64 a.st, .slice p np cp, .slice q n c, .int .i64 x] #[.int .i64 b.st, .slice p' np' cp', .slice q' n' c', .int .i64 y] 73 73
  have HGA : Hid (((W0.alloc (.cells #[.int .i64 a.st, .slice p np cp, .slice q n c, .int .i64 x] 73)).alloc (.cells #[.int .i64 b.st, .slice p' np' cp', .slice q' n' c', .int .i64 y] 73)).drew.heap[W0.heap.size]? = some (.cells #[.int .i64 a.st, .slice p np cp, .slice q n c, .int .i64 x] 73 (0, 0))) := Lib.hid hX9
  have HGB : Hid (((W0.alloc (.cells #[.int .i64 a.st, .slice p np cp, .slice q n c, .int .i64 x] 73)).alloc (.cells #[.int .i64 b.st, .slice p' np' cp', .slice q' n' c', .int .i64 y] 73)).drew.heap[W0.heap.size + 1]? = some (.cells #[.int .i64 b.st, .slice p' np' cp', .slice q' n' c', .int .i64 y] 73 (0, 0))) := Lib.hid hY9
  have HBF : Hid (Below W0.heap.size W0 ((W0.alloc (.cells #[.int .i64 a.st, .slice p np cp, .slice q n c, .int .i64 x] 73)).alloc (.cells #[.int .i64 b.st, .slice p' np' cp', .slice q' n' c', .int .i64 y] 73)).drew) := Lib.hid hB9.drew
  clear hB9 hX9 hY9 hS9
  generalize hW4 : ((W0.alloc (.cells #[.int .i64 a.st, .slice p np cp, .slice q n c, .int .i64 x] 73)).alloc (.cells #[.int .i64 b.st, .slice p' np' cp', .slice q' n' c', .int .i64 y] 73)).drew = W4 at *
  clear hW4
  obtain ⟨GB, hG2⟩ : ∃ r, r = W0.heap.size + 1 := ⟨_, rfl⟩
  obtain ⟨GA, hG1⟩ : ∃ r, r = W0.heap.size := ⟨_, rfl⟩
  rw [← hG2, ← hG1]
  replace HGA : Hid (W4.heap[GA]? = some (.cells #[.int .i64 a.st, .slice p np cp, .slice q n c, .int .i64 x] 73 (0, 0))) := Lib.hid (by rw [hG1]; exact HGA.out)
  replace HGB : Hid (W4.heap[GB]? = some (.cells #[.int .i64 b.st, .slice p' np' cp', .slice q' n' c', .int .i64 y] 73 (0, 0))) := Lib.hid (by rw [hG2]; exact HGB.out)
  clear hG1 hG2
  have HBW : Hid (Below w.heap.size w W4) := Lib.hid (HB.out.trans (HBF.out.mono HB.out.size))
  have ha0 : GA < W4.heap.size := (Array.getElem?_eq_some_iff.1 HGA.out).1
  have hb0 : GB < W4.heap.size := (Array.getElem?_eq_some_iff.1 HGB.out).1
  have hge : w.heap.size ≤ W4.heap.size := HBW.out.size
  have hxp : a.moves.length ≤ 100000000 := by unfold Mac.parts at hn; omega
  have hxq : a.moves.length ≤ 10000000 := by unfold Mac.parts at hn; omega
  obtain ⟨hAA, _, hBX, hSS⟩ := twice W4 #[] #[.slice (some ⟨W4.heap.size, 0, none⟩) 0 0] 31 76
  have hNL := ((OwnRs.nil (w := W4) (B := W4.heap.size) (Nat.le_refl _)).same (alloc_same _ (.cells #[.slice (some ⟨W4.heap.size, 0, none⟩) 0 0] 76))).upper (S' := ((W4.alloc (.cells #[] 31)).alloc (.cells #[.slice (some ⟨W4.heap.size, 0, none⟩) 0 0] 76)).heap.size) (by simp) (Nat.le_refl _)
  have HBOX : Hid (BoxR (W4.heap.size + 1) [] ((W4.alloc (.cells #[] 31)).alloc (.cells #[.slice (some ⟨W4.heap.size, 0, none⟩) 0 0] 76)) W4.heap.size W4.heap.size 0 0 []) := Lib.hid ⟨hBX, hNL, by omega, by simp, by omega⟩
  have HAA := Lib.hid hAA
  clear hAA hBX hSS hNL HX HY
  go_wp2_with fail
  generalize ((W4.alloc (.cells #[] 31)).alloc (.cells #[.slice (some ⟨W4.heap.size, 0, none⟩) 0 0] 76)) = W5 at *
  have HB5 : Hid (Below w.heap.size w W5) := Lib.hid (HBW.out.trans (HAA.out.mono HBW.out.size))
  have HBd : Hid (Below W5.heap.size W5 W5.drew) := Lib.hid (Below.refl _ _).drew
  refine wp_region_held_drew (S := fun w9 => Below W4.heap.size W4 w9) (by kernel_rfl) (HAA.out.trans (HBd.out.mono HAA.out.size)) (fun hHeld => ?_)
  refine wpAnyH_take (i := 0) (v := ?v1000) (by simp only [get9]; rfl) (by kernel_rfl) (by kernel_rfl) (by kernel_rfl) (by exact fun _ _ _ h => h) (Or.inl ⟨by rfl, fun w9 hS9 => ?hy1000⟩) hHeld ?rest1000
  case hy1000 =>
   dsimp only at hS9
   obtain ⟨⟨a0, a1, a2, a3⟩, _⟩ := party_cells ((hS9.block GA ha0).trans HGA.out)
   obtain ⟨⟨b0, b1, b2, b3⟩, _⟩ := party_cells ((hS9.block GB hb0).trans HGB.out)
   go_simp
   try with_reducible rfl
  try simp only [Act.put, set9]
  refine wpAnyH_take (i := 2) (v := ?v1001) (by simp only [get9]; rfl) (by kernel_rfl) (by kernel_rfl) (by kernel_rfl) (by exact fun _ _ _ h => h) (Or.inl ⟨by rfl, fun w9 hS9 => ?hy1001⟩) hHeld ?rest1001
  case hy1001 =>
   dsimp only at hS9
   obtain ⟨⟨a0, a1, a2, a3⟩, _⟩ := party_cells ((hS9.block GA ha0).trans HGA.out)
   obtain ⟨⟨b0, b1, b2, b3⟩, _⟩ := party_cells ((hS9.block GB hb0).trans HGB.out)
   go_simp
   try with_reducible rfl
  try simp only [Act.put, set9]
  refine wpAnyH_take (i := 4) (v := ?v1002) (by simp only [get9]; rfl) (by kernel_rfl) (by kernel_rfl) (by kernel_rfl) (by exact fun _ _ _ h => h) (Or.inl ⟨by rfl, fun w9 hS9 => ?hy1002⟩) hHeld ?rest1002
  case hy1002 =>
   dsimp only at hS9
   obtain ⟨⟨a0, a1, a2, a3⟩, _⟩ := party_cells ((hS9.block GA ha0).trans HGA.out)
   obtain ⟨⟨b0, b1, b2, b3⟩, _⟩ := party_cells ((hS9.block GB hb0).trans HGB.out)
   go_simp
   try with_reducible rfl
  try simp only [Act.put, set9]
  refine wpAnyH_ready (rs := [1]) (by kernel_rfl) (by simp) (AllReadyH.cons (by simp only [get9]; rfl) (fun K hK => ?_) AllReadyH.nil)
  go_simp
  refine (HNAtrue.out _ (HB5.out.trans (HBd.out.mono HB5.out.size))).mono ?_
  rintro e w11 ⟨g11, rfl, hg11, hm11, hb11⟩
  have HB11 : Hid (Below W5.heap.size W5 w11) := Lib.hid (HBd.out.trans (hb11.mono HBd.out.size))
  have HMA11 := Lib.hid hm11
  clear hm11
  clear hb11
  go_wp2_with fail
  refine hK.out _ _ (HAA.out.trans (HB11.out.mono HAA.out.size)) (fun hHeld => ?_)
  clear hK K
  try simp only [Act.put, set9]
  refine wpAnyH_ready (rs := [3]) (by kernel_rfl) (by simp) (AllReadyH.cons (by simp only [get9]; rfl) (fun K hK => ?_) AllReadyH.nil)
  go_simp
  refine (HNBtrue.out _ (HB5.out.trans (HB11.out.mono HB5.out.size))).mono ?_
  rintro e w12 ⟨g12, rfl, hg12, hm12, hb12⟩
  have HB12 : Hid (Below W5.heap.size W5 w12) := Lib.hid (HB11.out.trans (hb12.mono HB11.out.size))
  have HMB11 := Lib.hid hm12
  replace HMA11 := Lib.hid (HMA11.out.kept (grown_below hb12 none) (by simp))
  clear hm12
  clear hb12
  go_wp2_with fail
  refine hK.out _ _ (HAA.out.trans (HB12.out.mono HAA.out.size)) (fun hHeld => ?_)
  clear hK K
  try simp only [Act.put, set9]
  have hdummy : True := trivial
  have q1 := HMA11.out.lt
  have q2 := HMB11.out.lt
  have q3 := HB12.out.size
  have q4 := HB11.out.size
  have q5 : W5.heap.size ≤ g11 := hg11
  have q6 : W5.heap.size ≤ g12 := Nat.le_trans HB11.out.size hg12
  have q7 := HBOX.out.rows.hi
  have q8 := HBOX.out.rows.lo
  have q9 := HBOX.out.lo
  have q10 := (Array.getElem?_eq_some_iff.1 HBOX.out.box).1
  have q11 := HAA.out.size
  refine wpAnyH_ready (rs := [5]) (by kernel_rfl) (by simp) (AllReadyH.cons (by simp only [get9]; rfl) (fun K hK => ?_) AllReadyH.nil)
  go_simp
  refine (sharedAdd_any x y true true HZA.out hxp HMA11.out HMB11.out (HBOX.out.same HB12.out) (by omega) (by omega) (by omega)).mono ?_
  rintro e W6 ⟨rfl, rs11, g311, n311, c311, hbx3, hbut, hn311, hg3⟩
  have HBX11 := Lib.hid hbx3
  have HAA11 : Hid (Below W4.heap.size W4 W6) := Lib.hid (hbut.below (HAA.out.trans (HB12.out.mono q11)) q8 q9 (by omega))
  clear hbx3 hbut hg3 q1 q2 q3 q4 q5 q6 q7 q8 q9 q10
  go_wp2_with fail
  refine hK.out _ _ HAA11.out (fun hHeld => ?_)
  clear hK K
  try simp only [Act.put, set9]
  refine wpAnyH_done (by kernel_rfl) ?_ _
  go_wp2_with fail
  have HB6 : Hid (Below w.heap.size w W6) := Lib.hid (HBW.out.trans (HAA11.out.mono HBW.out.size))
  have HBd : Hid (Below W6.heap.size W6 W6.drew) := Lib.hid (Below.refl _ _).drew
  refine wp_region_held_drew (S := fun w9 => Below W4.heap.size W4 w9) (by kernel_rfl) (HAA11.out.trans (HBd.out.mono HAA11.out.size)) (fun hHeld => ?_)
  refine wpAnyH_take (i := 0) (v := ?v1003) (by simp only [get9]; rfl) (by kernel_rfl) (by kernel_rfl) (by kernel_rfl) (by exact fun _ _ _ h => h) (Or.inl ⟨by rfl, fun w9 hS9 => ?hy1003⟩) hHeld ?rest1003
  case hy1003 =>
   dsimp only at hS9
   obtain ⟨⟨a0, a1, a2, a3⟩, _⟩ := party_cells ((hS9.block GA ha0).trans HGA.out)
   obtain ⟨⟨b0, b1, b2, b3⟩, _⟩ := party_cells ((hS9.block GB hb0).trans HGB.out)
   go_simp
   try with_reducible rfl
  try simp only [Act.put, set9]
  refine wpAnyH_take (i := 2) (v := ?v1004) (by simp only [get9]; rfl) (by kernel_rfl) (by kernel_rfl) (by kernel_rfl) (by exact fun _ _ _ h => h) (Or.inl ⟨by rfl, fun w9 hS9 => ?hy1004⟩) hHeld ?rest1004
  case hy1004 =>
   dsimp only at hS9
   obtain ⟨⟨a0, a1, a2, a3⟩, _⟩ := party_cells ((hS9.block GA ha0).trans HGA.out)
   obtain ⟨⟨b0, b1, b2, b3⟩, _⟩ := party_cells ((hS9.block GB hb0).trans HGB.out)
   go_simp
   try with_reducible rfl
  try simp only [Act.put, set9]
  refine wpAnyH_take (i := 4) (v := ?v1005) (by simp only [get9]; rfl) (by kernel_rfl) (by kernel_rfl) (by kernel_rfl) (by exact fun _ _ _ h => h) (Or.inl ⟨by rfl, fun w9 hS9 => ?hy1005⟩) hHeld ?rest1005
  case hy1005 =>
   dsimp only at hS9
   obtain ⟨⟨a0, a1, a2, a3⟩, _⟩ := party_cells ((hS9.block GA ha0).trans HGA.out)
   obtain ⟨⟨b0, b1, b2, b3⟩, _⟩ := party_cells ((hS9.block GB hb0).trans HGB.out)
   go_simp
   try with_reducible rfl
  try simp only [Act.put, set9]
  refine wpAnyH_ready (rs := [1]) (by kernel_rfl) (by simp) (AllReadyH.cons (by simp only [get9]; rfl) (fun K hK => ?_) AllReadyH.nil)
  go_simp
  refine (HNAfalse.out _ (HB6.out.trans (HBd.out.mono HB6.out.size))).mono ?_
  rintro e w21 ⟨g21, rfl, hg21, hm21, hb21⟩
  have HB21 : Hid (Below W6.heap.size W6 w21) := Lib.hid (HBd.out.trans (hb21.mono HBd.out.size))
  have HMA21 := Lib.hid hm21
  clear hm21
  clear hb21
  go_wp2_with fail
  refine hK.out _ _ (HAA11.out.trans (HB21.out.mono HAA11.out.size)) (fun hHeld => ?_)
  clear hK K
  try simp only [Act.put, set9]
  refine wpAnyH_ready (rs := [3]) (by kernel_rfl) (by simp) (AllReadyH.cons (by simp only [get9]; rfl) (fun K hK => ?_) AllReadyH.nil)
  go_simp
  refine (HNBfalse.out _ (HB6.out.trans (HB21.out.mono HB6.out.size))).mono ?_
  rintro e w22 ⟨g22, rfl, hg22, hm22, hb22⟩
  have HB22 : Hid (Below W6.heap.size W6 w22) := Lib.hid (HB21.out.trans (hb22.mono HB21.out.size))
  have HMB21 := Lib.hid hm22
  replace HMA21 := Lib.hid (HMA21.out.kept (grown_below hb22 none) (by simp))
  clear hm22
  clear hb22
  go_wp2_with fail
  refine hK.out _ _ (HAA11.out.trans (HB22.out.mono HAA11.out.size)) (fun hHeld => ?_)
  clear hK K
  try simp only [Act.put, set9]
  have hdummy : True := trivial
  have q1 := HMA21.out.lt
  have q2 := HMB21.out.lt
  have q3 := HB22.out.size
  have q4 := HB21.out.size
  have q5 : W6.heap.size ≤ g21 := hg21
  have q6 : W6.heap.size ≤ g22 := Nat.le_trans HB21.out.size hg22
  have q7 := HBX11.out.rows.hi
  have q8 := HBX11.out.rows.lo
  have q9 := HBX11.out.lo
  have q10 := (Array.getElem?_eq_some_iff.1 HBX11.out.box).1
  have q11 := HAA11.out.size
  refine wpAnyH_ready (rs := [5]) (by kernel_rfl) (by simp) (AllReadyH.cons (by simp only [get9]; rfl) (fun K hK => ?_) AllReadyH.nil)
  go_simp
  refine (sharedAdd_any x y false false HZA.out hxp HMA21.out HMB21.out (HBX11.out.same HB22.out) (by omega) (by omega) (by omega)).mono ?_
  rintro e W7 ⟨rfl, rs21, g321, n321, c321, hbx3, hbut, hn321, hg3⟩
  have HBX21 := Lib.hid hbx3
  have HAA21 : Hid (Below W4.heap.size W4 W7) := Lib.hid (hbut.below (HAA11.out.trans (HB22.out.mono q11)) q8 q9 (by omega))
  clear hbx3 hbut hg3 q1 q2 q3 q4 q5 q6 q7 q8 q9 q10
  go_wp2_with fail
  refine hK.out _ _ HAA21.out (fun hHeld => ?_)
  clear hK K
  try simp only [Act.put, set9]
  refine wpAnyH_done (by kernel_rfl) ?_ _
  have HB7 : Hid (Below w.heap.size w W7) := Lib.hid (HBW.out.trans (HAA21.out.mono HBW.out.size))
  have z0 := (block_cell HBX21.out.box 0).trans rfl
  have h9 := HBX21.out.rows.lower hge
  rw [List.nil_append] at h9
  have H9 : Hid (OwnRs rs21 W7.heap.size W7 w.heap.size g321 n321 c321 (samesP a b x y)) := Lib.hid h9
  clear h9
  go_wp2_with fail
  go_ret
  exact ⟨_, _, _, rfl, ⟨rs21, H9.out⟩, HB7.out⟩
 ·skip
  go_simp
  refine hK.out _ _ ((Below.refl _ W0).drew.alloc (Nat.le_refl _) _) (fun hHeld => ?_)
  clear hK K
  try simp only [Act.put, set9]
  refine wpAnyH_ready (rs := [6]) (by kernel_rfl) (by simp) (AllReadyH.cons (by simp only [get9]; rfl) (fun K hK => ?_) AllReadyH.nil)
  go_simp
  refine hK.out _ _ (((Below.refl _ W0).drew.alloc (Nat.le_refl _) _).alloc (by simp) _) (fun hHeld => ?_)
  clear hK K
  try simp only [Act.put, set9]
  refine wpAnyH_ready (rs := [8]) (by kernel_rfl) (by simp) (AllReadyH.cons (by simp only [get9]; rfl) (fun K hK => ?_) AllReadyH.nil)
  go_simp
  refine hK.out _ _ (((Below.refl _ W0).alloc (Nat.le_refl _) _).alloc (by simp) _).drew (fun hHeld => ?_)
  clear hK K
  try simp only [Act.put, set9]
  refine wpAnyH_ready (rs := [9]) (by kernel_rfl) (by simp) (AllReadyH.cons (by simp only [get9]; rfl) (fun K hK => ?_) AllReadyH.nil)
  go_simp
  refine hK.out _ _ (((Below.refl _ W0).alloc (Nat.le_refl _) _).alloc (by simp) _).drew (fun hHeld => ?_)
  clear hK K
  try simp only [Act.put, set9]
  refine wpAnyH_done (by kernel_rfl) ?_ _
  obtain ⟨hB9, hX9, hY9, hS9⟩ := twice W0 #[.int .i64 b.st, .slice p' np' cp', .slice q' n' c', .int .i64 y] #[.int .i64 a.st, .slice p np cp, .slice q n c, .int .i64 x] 73 73
  have HGB : Hid (((W0.alloc (.cells #[.int .i64 b.st, .slice p' np' cp', .slice q' n' c', .int .i64 y] 73)).alloc (.cells #[.int .i64 a.st, .slice p np cp, .slice q n c, .int .i64 x] 73)).drew.heap[W0.heap.size]? = some (.cells #[.int .i64 b.st, .slice p' np' cp', .slice q' n' c', .int .i64 y] 73 (0, 0))) := Lib.hid hX9
  have HGA : Hid (((W0.alloc (.cells #[.int .i64 b.st, .slice p' np' cp', .slice q' n' c', .int .i64 y] 73)).alloc (.cells #[.int .i64 a.st, .slice p np cp, .slice q n c, .int .i64 x] 73)).drew.heap[W0.heap.size + 1]? = some (.cells #[.int .i64 a.st, .slice p np cp, .slice q n c, .int .i64 x] 73 (0, 0))) := Lib.hid hY9
  have HBF : Hid (Below W0.heap.size W0 ((W0.alloc (.cells #[.int .i64 b.st, .slice p' np' cp', .slice q' n' c', .int .i64 y] 73)).alloc (.cells #[.int .i64 a.st, .slice p np cp, .slice q n c, .int .i64 x] 73)).drew) := Lib.hid hB9.drew
  clear hB9 hX9 hY9 hS9
  generalize hW4 : ((W0.alloc (.cells #[.int .i64 b.st, .slice p' np' cp', .slice q' n' c', .int .i64 y] 73)).alloc (.cells #[.int .i64 a.st, .slice p np cp, .slice q n c, .int .i64 x] 73)).drew = W4 at *
  clear hW4
  obtain ⟨GA, hG2⟩ : ∃ r, r = W0.heap.size + 1 := ⟨_, rfl⟩
  obtain ⟨GB, hG1⟩ : ∃ r, r = W0.heap.size := ⟨_, rfl⟩
  rw [← hG2, ← hG1]
  replace HGB : Hid (W4.heap[GB]? = some (.cells #[.int .i64 b.st, .slice p' np' cp', .slice q' n' c', .int .i64 y] 73 (0, 0))) := Lib.hid (by rw [hG1]; exact HGB.out)
  replace HGA : Hid (W4.heap[GA]? = some (.cells #[.int .i64 a.st, .slice p np cp, .slice q n c, .int .i64 x] 73 (0, 0))) := Lib.hid (by rw [hG2]; exact HGA.out)
  clear hG1 hG2
  have HBW : Hid (Below w.heap.size w W4) := Lib.hid (HB.out.trans (HBF.out.mono HB.out.size))
  have ha0 : GA < W4.heap.size := (Array.getElem?_eq_some_iff.1 HGA.out).1
  have hb0 : GB < W4.heap.size := (Array.getElem?_eq_some_iff.1 HGB.out).1
  have hge : w.heap.size ≤ W4.heap.size := HBW.out.size
  have hxp : a.moves.length ≤ 100000000 := by unfold Mac.parts at hn; omega
  have hxq : a.moves.length ≤ 10000000 := by unfold Mac.parts at hn; omega
  obtain ⟨hAA, _, hBX, hSS⟩ := twice W4 #[] #[.slice (some ⟨W4.heap.size, 0, none⟩) 0 0] 31 76
  have hNL := ((OwnRs.nil (w := W4) (B := W4.heap.size) (Nat.le_refl _)).same (alloc_same _ (.cells #[.slice (some ⟨W4.heap.size, 0, none⟩) 0 0] 76))).upper (S' := ((W4.alloc (.cells #[] 31)).alloc (.cells #[.slice (some ⟨W4.heap.size, 0, none⟩) 0 0] 76)).heap.size) (by simp) (Nat.le_refl _)
  have HBOX : Hid (BoxR (W4.heap.size + 1) [] ((W4.alloc (.cells #[] 31)).alloc (.cells #[.slice (some ⟨W4.heap.size, 0, none⟩) 0 0] 76)) W4.heap.size W4.heap.size 0 0 []) := Lib.hid ⟨hBX, hNL, by omega, by simp, by omega⟩
  have HAA := Lib.hid hAA
  clear hAA hBX hSS hNL HX HY
  go_wp2_with fail
  generalize ((W4.alloc (.cells #[] 31)).alloc (.cells #[.slice (some ⟨W4.heap.size, 0, none⟩) 0 0] 76)) = W5 at *
  have HB5 : Hid (Below w.heap.size w W5) := Lib.hid (HBW.out.trans (HAA.out.mono HBW.out.size))
  have HBd : Hid (Below W5.heap.size W5 W5.drew) := Lib.hid (Below.refl _ _).drew
  refine wp_region_held_drew (S := fun w9 => Below W4.heap.size W4 w9) (by kernel_rfl) (HAA.out.trans (HBd.out.mono HAA.out.size)) (fun hHeld => ?_)
  refine wpAnyH_take (i := 0) (v := ?v1006) (by simp only [get9]; rfl) (by kernel_rfl) (by kernel_rfl) (by kernel_rfl) (by exact fun _ _ _ h => h) (Or.inl ⟨by rfl, fun w9 hS9 => ?hy1006⟩) hHeld ?rest1006
  case hy1006 =>
   dsimp only at hS9
   obtain ⟨⟨a0, a1, a2, a3⟩, _⟩ := party_cells ((hS9.block GA ha0).trans HGA.out)
   obtain ⟨⟨b0, b1, b2, b3⟩, _⟩ := party_cells ((hS9.block GB hb0).trans HGB.out)
   go_simp
   try with_reducible rfl
  try simp only [Act.put, set9]
  refine wpAnyH_take (i := 2) (v := ?v1007) (by simp only [get9]; rfl) (by kernel_rfl) (by kernel_rfl) (by kernel_rfl) (by exact fun _ _ _ h => h) (Or.inl ⟨by rfl, fun w9 hS9 => ?hy1007⟩) hHeld ?rest1007
  case hy1007 =>
   dsimp only at hS9
   obtain ⟨⟨a0, a1, a2, a3⟩, _⟩ := party_cells ((hS9.block GA ha0).trans HGA.out)
   obtain ⟨⟨b0, b1, b2, b3⟩, _⟩ := party_cells ((hS9.block GB hb0).trans HGB.out)
   go_simp
   try with_reducible rfl
  try simp only [Act.put, set9]
  refine wpAnyH_take (i := 4) (v := ?v1008) (by simp only [get9]; rfl) (by kernel_rfl) (by kernel_rfl) (by kernel_rfl) (by exact fun _ _ _ h => h) (Or.inl ⟨by rfl, fun w9 hS9 => ?hy1008⟩) hHeld ?rest1008
  case hy1008 =>
   dsimp only at hS9
   obtain ⟨⟨a0, a1, a2, a3⟩, _⟩ := party_cells ((hS9.block GA ha0).trans HGA.out)
   obtain ⟨⟨b0, b1, b2, b3⟩, _⟩ := party_cells ((hS9.block GB hb0).trans HGB.out)
   go_simp
   try with_reducible rfl
  try simp only [Act.put, set9]
  refine wpAnyH_ready (rs := [1]) (by kernel_rfl) (by simp) (AllReadyH.cons (by simp only [get9]; rfl) (fun K hK => ?_) AllReadyH.nil)
  go_simp
  refine (HNAtrue.out _ (HB5.out.trans (HBd.out.mono HB5.out.size))).mono ?_
  rintro e w11 ⟨g11, rfl, hg11, hm11, hb11⟩
  have HB11 : Hid (Below W5.heap.size W5 w11) := Lib.hid (HBd.out.trans (hb11.mono HBd.out.size))
  have HMA11 := Lib.hid hm11
  clear hm11
  clear hb11
  go_wp2_with fail
  refine hK.out _ _ (HAA.out.trans (HB11.out.mono HAA.out.size)) (fun hHeld => ?_)
  clear hK K
  try simp only [Act.put, set9]
  refine wpAnyH_ready (rs := [3]) (by kernel_rfl) (by simp) (AllReadyH.cons (by simp only [get9]; rfl) (fun K hK => ?_) AllReadyH.nil)
  go_simp
  refine (HNBtrue.out _ (HB5.out.trans (HB11.out.mono HB5.out.size))).mono ?_
  rintro e w12 ⟨g12, rfl, hg12, hm12, hb12⟩
  have HB12 : Hid (Below W5.heap.size W5 w12) := Lib.hid (HB11.out.trans (hb12.mono HB11.out.size))
  have HMB11 := Lib.hid hm12
  replace HMA11 := Lib.hid (HMA11.out.kept (grown_below hb12 none) (by simp))
  clear hm12
  clear hb12
  go_wp2_with fail
  refine hK.out _ _ (HAA.out.trans (HB12.out.mono HAA.out.size)) (fun hHeld => ?_)
  clear hK K
  try simp only [Act.put, set9]
  have hdummy : True := trivial
  have q1 := HMA11.out.lt
  have q2 := HMB11.out.lt
  have q3 := HB12.out.size
  have q4 := HB11.out.size
  have q5 : W5.heap.size ≤ g11 := hg11
  have q6 : W5.heap.size ≤ g12 := Nat.le_trans HB11.out.size hg12
  have q7 := HBOX.out.rows.hi
  have q8 := HBOX.out.rows.lo
  have q9 := HBOX.out.lo
  have q10 := (Array.getElem?_eq_some_iff.1 HBOX.out.box).1
  have q11 := HAA.out.size
  refine wpAnyH_ready (rs := [5]) (by kernel_rfl) (by simp) (AllReadyH.cons (by simp only [get9]; rfl) (fun K hK => ?_) AllReadyH.nil)
  go_simp
  refine (sharedAdd_any x y true true HZA.out hxp HMA11.out HMB11.out (HBOX.out.same HB12.out) (by omega) (by omega) (by omega)).mono ?_
  rintro e W6 ⟨rfl, rs11, g311, n311, c311, hbx3, hbut, hn311, hg3⟩
  have HBX11 := Lib.hid hbx3
  have HAA11 : Hid (Below W4.heap.size W4 W6) := Lib.hid (hbut.below (HAA.out.trans (HB12.out.mono q11)) q8 q9 (by omega))
  clear hbx3 hbut hg3 q1 q2 q3 q4 q5 q6 q7 q8 q9 q10
  go_wp2_with fail
  refine hK.out _ _ HAA11.out (fun hHeld => ?_)
  clear hK K
  try simp only [Act.put, set9]
  refine wpAnyH_done (by kernel_rfl) ?_ _
  go_wp2_with fail
  have HB6 : Hid (Below w.heap.size w W6) := Lib.hid (HBW.out.trans (HAA11.out.mono HBW.out.size))
  have HBd : Hid (Below W6.heap.size W6 W6.drew) := Lib.hid (Below.refl _ _).drew
  refine wp_region_held_drew (S := fun w9 => Below W4.heap.size W4 w9) (by kernel_rfl) (HAA11.out.trans (HBd.out.mono HAA11.out.size)) (fun hHeld => ?_)
  refine wpAnyH_take (i := 0) (v := ?v1009) (by simp only [get9]; rfl) (by kernel_rfl) (by kernel_rfl) (by kernel_rfl) (by exact fun _ _ _ h => h) (Or.inl ⟨by rfl, fun w9 hS9 => ?hy1009⟩) hHeld ?rest1009
  case hy1009 =>
   dsimp only at hS9
   obtain ⟨⟨a0, a1, a2, a3⟩, _⟩ := party_cells ((hS9.block GA ha0).trans HGA.out)
   obtain ⟨⟨b0, b1, b2, b3⟩, _⟩ := party_cells ((hS9.block GB hb0).trans HGB.out)
   go_simp
   try with_reducible rfl
  try simp only [Act.put, set9]
  refine wpAnyH_take (i := 2) (v := ?v1010) (by simp only [get9]; rfl) (by kernel_rfl) (by kernel_rfl) (by kernel_rfl) (by exact fun _ _ _ h => h) (Or.inl ⟨by rfl, fun w9 hS9 => ?hy1010⟩) hHeld ?rest1010
  case hy1010 =>
   dsimp only at hS9
   obtain ⟨⟨a0, a1, a2, a3⟩, _⟩ := party_cells ((hS9.block GA ha0).trans HGA.out)
   obtain ⟨⟨b0, b1, b2, b3⟩, _⟩ := party_cells ((hS9.block GB hb0).trans HGB.out)
   go_simp
   try with_reducible rfl
  try simp only [Act.put, set9]
  refine wpAnyH_take (i := 4) (v := ?v1011) (by simp only [get9]; rfl) (by kernel_rfl) (by kernel_rfl) (by kernel_rfl) (by exact fun _ _ _ h => h) (Or.inl ⟨by rfl, fun w9 hS9 => ?hy1011⟩) hHeld ?rest1011
  case hy1011 =>
   dsimp only at hS9
   obtain ⟨⟨a0, a1, a2, a3⟩, _⟩ := party_cells ((hS9.block GA ha0).trans HGA.out)
   obtain ⟨⟨b0, b1, b2, b3⟩, _⟩ := party_cells ((hS9.block GB hb0).trans HGB.out)
   go_simp
   try with_reducible rfl
  try simp only [Act.put, set9]
  refine wpAnyH_ready (rs := [1]) (by kernel_rfl) (by simp) (AllReadyH.cons (by simp only [get9]; rfl) (fun K hK => ?_) AllReadyH.nil)
  go_simp
  refine (HNAfalse.out _ (HB6.out.trans (HBd.out.mono HB6.out.size))).mono ?_
  rintro e w21 ⟨g21, rfl, hg21, hm21, hb21⟩
  have HB21 : Hid (Below W6.heap.size W6 w21) := Lib.hid (HBd.out.trans (hb21.mono HBd.out.size))
  have HMA21 := Lib.hid hm21
  clear hm21
  clear hb21
  go_wp2_with fail
  refine hK.out _ _ (HAA11.out.trans (HB21.out.mono HAA11.out.size)) (fun hHeld => ?_)
  clear hK K
  try simp only [Act.put, set9]
  refine wpAnyH_ready (rs := [3]) (by kernel_rfl) (by simp) (AllReadyH.cons (by simp only [get9]; rfl) (fun K hK => ?_) AllReadyH.nil)
  go_simp
  refine (HNBfalse.out _ (HB6.out.trans (HB21.out.mono HB6.out.size))).mono ?_
  rintro e w22 ⟨g22, rfl, hg22, hm22, hb22⟩
  have HB22 : Hid (Below W6.heap.size W6 w22) := Lib.hid (HB21.out.trans (hb22.mono HB21.out.size))
  have HMB21 := Lib.hid hm22
  replace HMA21 := Lib.hid (HMA21.out.kept (grown_below hb22 none) (by simp))
  clear hm22
  clear hb22
  go_wp2_with fail
  refine hK.out _ _ (HAA11.out.trans (HB22.out.mono HAA11.out.size)) (fun hHeld => ?_)
  clear hK K
  try simp only [Act.put, set9]
  have hdummy : True := trivial
  have q1 := HMA21.out.lt
  have q2 := HMB21.out.lt
  have q3 := HB22.out.size
  have q4 := HB21.out.size
  have q5 : W6.heap.size ≤ g21 := hg21
  have q6 : W6.heap.size ≤ g22 := Nat.le_trans HB21.out.size hg22
  have q7 := HBX11.out.rows.hi
  have q8 := HBX11.out.rows.lo
  have q9 := HBX11.out.lo
  have q10 := (Array.getElem?_eq_some_iff.1 HBX11.out.box).1
  have q11 := HAA11.out.size
  refine wpAnyH_ready (rs := [5]) (by kernel_rfl) (by simp) (AllReadyH.cons (by simp only [get9]; rfl) (fun K hK => ?_) AllReadyH.nil)
  go_simp
  refine (sharedAdd_any x y false false HZA.out hxp HMA21.out HMB21.out (HBX11.out.same HB22.out) (by omega) (by omega) (by omega)).mono ?_
  rintro e W7 ⟨rfl, rs21, g321, n321, c321, hbx3, hbut, hn321, hg3⟩
  have HBX21 := Lib.hid hbx3
  have HAA21 : Hid (Below W4.heap.size W4 W7) := Lib.hid (hbut.below (HAA11.out.trans (HB22.out.mono q11)) q8 q9 (by omega))
  clear hbx3 hbut hg3 q1 q2 q3 q4 q5 q6 q7 q8 q9 q10
  go_wp2_with fail
  refine hK.out _ _ HAA21.out (fun hHeld => ?_)
  clear hK K
  try simp only [Act.put, set9]
  refine wpAnyH_done (by kernel_rfl) ?_ _
  have HB7 : Hid (Below w.heap.size w W7) := Lib.hid (HBW.out.trans (HAA21.out.mono HBW.out.size))
  have z0 := (block_cell HBX21.out.box 0).trans rfl
  have h9 := HBX21.out.rows.lower hge
  rw [List.nil_append] at h9
  have H9 : Hid (OwnRs rs21 W7.heap.size W7 w.heap.size g321 n321 c321 (samesP a b x y)) := Lib.hid h9
  clear h9
  go_wp2_with fail
  go_ret
  exact ⟨_, _, _, rfl, ⟨rs21, H9.out⟩, HB7.out⟩

end Go.Proofs.Ytckmgbobkffabaa
namespace Go.Proofs.Ytckmgbobkffabaa
open Go.ChangeShapes Go.WideShapes Go.ChangeAt Go.RowKit
set_option linter.unusedVariables false
set_option linter.unusedSimpArgs false

set_option maxRecDepth 100000 in
theorem followPairs1_any {va vb : Value} {a b : Mac} (x y : Int) {pa pb : Nat} {ca cb : Array Value} {w : World} (ha : MacW w (.agg ca) a) (hb : MacW w (.agg cb) b) (hz : ∀ z ∈ a.moves, Wmv z) (hz' : ∀ z ∈ b.moves, Wmv z) (hn : a.parts ≤ 10000000) (hn' : b.parts ≤ 10000000)
  (hpa : w.heap[pa]? = some (.cells ca 27 (0, 0))) (hpb : w.heap[pb]? = some (.cells cb 27 (0, 0))) :
  Calls Try.prog 82 #[.int .i64 x, .int .i64 y, .pointer (some ⟨pa, 0, none⟩), .pointer (some ⟨pb, 0, none⟩)] w (MadeR w.heap.size (samesP a b x y) w) := by
 obtain ⟨p, np, cp, q, n, c, e1⟩ := ha.shape
 obtain ⟨p', np', cp', q', n', c', e2⟩ := hb.shape
 cases e1
 cases e2
 obtain ⟨x0, x1, x2, -⟩ := three_cells hpa
 obtain ⟨y0, y1, y2, -⟩ := three_cells hpb
 have HN := Lib.hid (sameMoves_any x y ha hb hz hz' hn hn')
 clear ha hb hz hz' hpa hpb
 unfold MadeR
 go_enter Try.func82, Try.ntmps82
 go_wp2_with fail
 refine HN.out.mono ?_
 rintro e w' ⟨g, m, d, rfl, ho, hb⟩
 have HO := Lib.hid ho
 have HB := Lib.hid hb
 clear ho hb x0 x1 x2 y0 y1 y2
 go_wp2_with fail
 go_ret
 exact ⟨_, _, _, rfl, HO.out, HB.out⟩
set_option maxHeartbeats 4000000 in
set_option maxRecDepth 100000 in
theorem reachedS_any {a b : Mac} {pa pb : Nat} {ca cb : Array Value} {w : World} (ha : MacW w (.agg ca) a) (hb : MacW w (.agg cb) b) (hz : ∀ z ∈ a.moves, Wmv z) (hz' : ∀ z ∈ b.moves, Wmv z) (hia : isMac a = true) (hib : isMac b = true) (hn : a.parts ≤ 10000000) (hn' : b.parts ≤ 10000000)
  (hpa : w.heap[pa]? = some (.cells ca 27 (0, 0))) (hpb : w.heap[pb]? = some (.cells cb 27 (0, 0))) :
  Calls Try.prog 49 #[.func (.func 82) #[] #[.pointer (some ⟨pa, 0, none⟩), .pointer (some ⟨pb, 0, none⟩)]] w (MadeR w.heap.size (followP a b) w) := by
 obtain ⟨i0, hi, hz0, hz1, hz2⟩ := info_parts infoR
 have HI := Lib.hid (And.intro hi (And.intro hz0 (And.intro hz1 hz2)))
 clear hi hz0 hz1 hz2
 have hla : pa < w.heap.size := (Array.getElem?_eq_some_iff.1 hpa).1
 have hlb : pb < w.heap.size := (Array.getElem?_eq_some_iff.1 hpb).1
 have HF : Hid (∀ (x y : Int) (W' : World), Below w.heap.size w W' → Calls Try.prog 82 #[.int .i64 x, .int .i64 y, .pointer (some ⟨pa, 0, none⟩), .pointer (some ⟨pb, 0, none⟩)] W' (MadeR W'.heap.size (samesP a b x y) W')) :=
  Lib.hid fun x y W' hb' => followPairs1_any (va := .agg ca) (vb := .agg cb) x y (ha.same hb') (hb.same hb') hz hz' hn hn' ((hb'.block _ hla).trans hpa) ((hb'.block _ hlb).trans hpb)
 have HIA := Lib.hid (And.intro hia hib)
 have HLA := Lib.hid (And.intro (isMac_len hia) (isMac_len hib))
 obtain ⟨hB, _, _, hS⟩ := twice w #[.int .i64 0, .int .i64 0] #[.slice (some ⟨w.heap.size, 0, none⟩) 2 2] 3 31
 have hO := (one_row w 0 0)
 have HB0 := Lib.hid hB
 have HO0 : Hid (OwnRs [w.heap.size] ((w.alloc (.cells #[.int .i64 0, .int .i64 0] 3)).alloc (.cells #[.slice (some ⟨w.heap.size, 0, none⟩) 2 2] 31)).heap.size ((w.alloc (.cells #[.int .i64 0, .int .i64 0] 3)).alloc (.cells #[.slice (some ⟨w.heap.size, 0, none⟩) 2 2] 31)) w.heap.size (w.heap.size + 1) 1 1 [(0, 0)]) := Lib.hid (hO.upper (by omega) (Nat.le_refl _))
 clear hB hS hO ha hb hz hz' hpa hpb hia hib
 unfold MadeR
 go_enter Try.func49, Try.ntmps49
 go_wp2_with fail
 generalize (w.alloc (.cells #[.int .i64 0, .int .i64 0] 3)).alloc (.cells #[.slice (some ⟨w.heap.size, 0, none⟩) 2 2] 31) = W0 at *
 go_loopg [3, 4] 36 (fun k s3 s4 wx => ∃ (i : Nat) (rs : List Nat) (g n c : Nat), k + i = 36 ∧ s4 = .int .i64 i ∧ s3 = .slice (some ⟨g, 0, none⟩) n c ∧ OwnRs rs wx.heap.size wx w.heap.size g n c (foundG (samesP a b) i) ∧ Below w.heap.size w wx)
 case atStart => exact ⟨0, [w.heap.size], w.heap.size + 1, 1, 1, rfl, rfl, rfl, HO0.out, HB0.out⟩
 case round =>
  obtain ⟨i, rs, g, n, c, hki, rfl, rfl, ho, hb⟩ := hrel
  have hlen : (foundG (samesP a b) i).length = n := ho.count
  have h36 := foundG_len (sames_small HIA.out.1 HIA.out.2) i
  have HO := Lib.hid ho
  have HB := Lib.hid hb
  clear ho hb
  by_cases hlt : i < n
  ·obtain ⟨r, p, hr, hp, hc0, hrow, o1, o2, o3⟩ := HO.out.at_ hlt
   obtain ⟨d0, d1⟩ := two_cells hrow
   have HP := Lib.hid (foundG_step hp)
   have D := Lib.hid (And.intro hc0 (And.intro d0 d1))
   have HRI := Lib.hid hr
   clear hr hp hrow hc0 d0 d1
   go_wp2_with fail
   go_step3
   go_wp2_with fail
   go_step3
   go_wp2_with fail
   have HBd : Hid (Below wr.heap.size wr wr.drew) := Lib.hid (Below.refl _ _).drew
   refine wp_region_held_drew (S := fun w9 => w9.cell? ⟨g, i, none⟩ = some (.slice (some ⟨r, 0, none⟩) 2 2) ∧ w9.cell? ⟨r, 0, none⟩ = some (.int .i64 p.1) ∧ w9.cell? ⟨r, 1, none⟩ = some (.int .i64 p.2)) (by kernel_rfl) ⟨cell_stay D.out.1 HBd.out, cell_stay D.out.2.1 HBd.out, cell_stay D.out.2.2 HBd.out⟩ (fun hHeld => ?_)
   refine wpAnyH_take (i := 0) (v := ?v1) (by simp only [get9]; rfl) (by kernel_rfl) (by kernel_rfl) (by kernel_rfl) (by exact fun _ _ _ h => h) (Or.inl ⟨by rfl, fun w9 hS9 => ?hy1⟩) hHeld ?rest1
   case hy1 =>
    dsimp only at hS9
    obtain ⟨q0, q1, q2⟩ := hS9
    go_simp
    try with_reducible rfl
   try simp only [Act.put, set9]
   refine wpAnyH_take (i := 1) (v := ?v2) (by simp only [get9]; rfl) (by kernel_rfl) (by kernel_rfl) (by kernel_rfl) (by exact fun _ _ _ h => h) (Or.inl ⟨by rfl, fun w9 hS9 => ?hy2⟩) hHeld ?rest2
   case hy2 =>
    dsimp only at hS9
    obtain ⟨q0, q1, q2⟩ := hS9
    go_simp
    try with_reducible rfl
   try simp only [Act.put, set9]
   refine wpAnyH_take (i := 2) (v := ?v3) (by simp only [get9]; rfl) (by kernel_rfl) (by kernel_rfl) (by kernel_rfl) (by exact fun _ _ _ h => h) (Or.inl ⟨by rfl, fun w9 hS9 => ?hy3⟩) hHeld ?rest3
   case hy3 =>
    dsimp only at hS9
    obtain ⟨q0, q1, q2⟩ := hS9
    go_simp
    try with_reducible rfl
   try simp only [Act.put, set9]
   refine wpAnyH_take (i := 3) (v := ?v4) (by simp only [get9]; rfl) (by kernel_rfl) (by kernel_rfl) (by kernel_rfl) (by exact fun _ _ _ h => h) (Or.inl ⟨by rfl, fun w9 hS9 => ?hy4⟩) hHeld ?rest4
   case hy4 =>
    dsimp only at hS9
    obtain ⟨q0, q1, q2⟩ := hS9
    go_simp
    try with_reducible rfl
   try simp only [Act.put, set9]
   refine wpAnyH_take (i := 4) (v := ?v5) (by simp only [get9]; rfl) (by kernel_rfl) (by kernel_rfl) (by kernel_rfl) (by exact fun _ _ _ h => h) (Or.inl ⟨by rfl, fun w9 hS9 => ?hy5⟩) hHeld ?rest5
   case hy5 =>
    dsimp only at hS9
    obtain ⟨q0, q1, q2⟩ := hS9
    go_simp
    try with_reducible rfl
   try simp only [Act.put, set9]
   refine wpAnyH_take (i := 5) (v := ?v6) (by simp only [get9]; rfl) (by kernel_rfl) (by kernel_rfl) (by kernel_rfl) (by exact fun _ _ _ h => h) (Or.inl ⟨by rfl, fun w9 hS9 => ?hy6⟩) hHeld ?rest6
   case hy6 =>
    dsimp only at hS9
    obtain ⟨q0, q1, q2⟩ := hS9
    go_simp
    try with_reducible rfl
   try simp only [Act.put, set9]
   refine wpAnyH_take (i := 6) (v := ?v7) (by simp only [get9]; rfl) (by kernel_rfl) (by kernel_rfl) (by kernel_rfl) (by exact fun _ _ _ h => h) (Or.inl ⟨by rfl, fun w9 hS9 => ?hy7⟩) hHeld ?rest7
   case hy7 =>
    dsimp only at hS9
    obtain ⟨q0, q1, q2⟩ := hS9
    go_simp
    try with_reducible rfl
   try simp only [Act.put, set9]
   refine wpAnyH_take (i := 7) (v := ?v8) (by simp only [get9]; rfl) (by kernel_rfl) (by kernel_rfl) (by kernel_rfl) (by exact fun _ _ _ h => h) (Or.inl ⟨by rfl, fun w9 hS9 => ?hy8⟩) hHeld ?rest8
   case hy8 =>
    dsimp only at hS9
    obtain ⟨q0, q1, q2⟩ := hS9
    go_simp
    try with_reducible rfl
   try simp only [Act.put, set9]
   refine wpAnyH_take (i := 8) (v := ?v9) (by simp only [get9]; rfl) (by kernel_rfl) (by kernel_rfl) (by kernel_rfl) (by exact fun _ _ _ h => h) (Or.inl ⟨by rfl, fun w9 hS9 => ?hy9⟩) hHeld ?rest9
   case hy9 =>
    dsimp only at hS9
    obtain ⟨q0, q1, q2⟩ := hS9
    go_simp
    try with_reducible rfl
   try simp only [Act.put, set9]
   refine wpAnyH_take (i := 9) (v := ?v10) (by simp only [get9]; rfl) (by kernel_rfl) (by kernel_rfl) (by kernel_rfl) (by exact fun _ _ _ h => h) (Or.inl ⟨by rfl, fun w9 hS9 => ?hy10⟩) hHeld ?rest10
   case hy10 =>
    dsimp only at hS9
    obtain ⟨q0, q1, q2⟩ := hS9
    go_simp
    try with_reducible rfl
   try simp only [Act.put, set9]
   refine wpAnyH_take (i := 10) (v := ?v11) (by simp only [get9]; rfl) (by kernel_rfl) (by kernel_rfl) (by kernel_rfl) (by exact fun _ _ _ h => h) (Or.inl ⟨by rfl, fun w9 hS9 => ?hy11⟩) hHeld ?rest11
   case hy11 =>
    dsimp only at hS9
    obtain ⟨q0, q1, q2⟩ := hS9
    go_simp
    try with_reducible rfl
   try simp only [Act.put, set9]
   refine wpAnyH_take (i := 11) (v := ?v12) (by simp only [get9]; rfl) (by kernel_rfl) (by kernel_rfl) (by kernel_rfl) (by exact fun _ _ _ h => h) (Or.inl ⟨by rfl, fun w9 hS9 => ?hy12⟩) hHeld ?rest12
   case hy12 =>
    dsimp only at hS9
    obtain ⟨q0, q1, q2⟩ := hS9
    go_simp
    try with_reducible rfl
   try simp only [Act.put, set9]
   refine wpAnyH_take (i := 12) (v := ?v13) (by simp only [get9]; rfl) (by kernel_rfl) (by kernel_rfl) (by kernel_rfl) (by exact fun _ _ _ h => h) (Or.inl ⟨by rfl, fun w9 hS9 => ?hy13⟩) hHeld ?rest13
   case hy13 =>
    dsimp only at hS9
    obtain ⟨q0, q1, q2⟩ := hS9
    go_simp
    try with_reducible rfl
   try simp only [Act.put, set9]
   refine wpAnyH_take (i := 15) (v := ?v14) (by simp only [get9]; rfl) (by kernel_rfl) (by kernel_rfl) (by kernel_rfl) (by exact fun _ _ _ h => h) (Or.inl ⟨by rfl, fun w9 hS9 => ?hy14⟩) hHeld ?rest14
   case hy14 =>
    dsimp only at hS9
    obtain ⟨q0, q1, q2⟩ := hS9
    go_simp
    try with_reducible rfl
   try simp only [Act.put, set9]
   refine wpAnyH_ready (rs := [13]) (by kernel_rfl) (by simp) (AllReadyH.cons (by simp only [get9]; rfl) (fun K hK => ?_) AllReadyH.nil)
   go_simp
   refine (HF.out p.1 p.2 _ (HB.out.trans (HBd.out.mono HB.out.size))).mono ?_
   rintro e w2 ⟨g2, m, c2, rfl, ⟨rs2, ho2⟩, hb2⟩
   have HB2 : Hid (Below wr.heap.size wr w2) := Lib.hid (HBd.out.trans (hb2.mono HBd.out.size))
   have HO2 := Lib.hid ho2
   have HQ2 := Lib.hid hb2
   clear ho2
   clear hb2
   go_wp2_with fail
   refine hK.out _ _ ⟨cell_stay D.out.1 HB2.out, cell_stay D.out.2.1 HB2.out, cell_stay D.out.2.2 HB2.out⟩ (fun hHeld => ?_)
   clear hK K
   try simp only [Act.put, set9]
   refine wpAnyH_take (i := 14) (v := ?v15) (by simp only [get9]; rfl) (by kernel_rfl) (by kernel_rfl) (by kernel_rfl) (by exact fun _ _ _ h => h) (Or.inl ⟨by rfl, fun w9 hS9 => ?hy15⟩) hHeld ?rest15
   case hy15 =>
    dsimp only at hS9
    obtain ⟨q0, q1, q2⟩ := hS9
    go_simp
    try with_reducible rfl
   try simp only [Act.put, set9]
   refine wpAnyH_done (by kernel_rfl) ?_ _
   have hml : (samesP a b p.1 p.2).length = m := HO2.out.count
   have hmle := samesP_len a b p.1 p.2
   have hroom2 := HO2.out.room
   obtain ⟨w3, hwv⟩ : ∃ u, u = w2 := ⟨w2, rfl⟩
   subst hwv
   have HO3 := Lib.hid ((HO.out.same HB2.out).upper (S' := w3.heap.size) HB2.out.size (Nat.le_refl _))
   have HB3 := Lib.hid (HB.out.trans (HB2.out.mono HB.out.size))
   have hs3 : wr.heap.size ≤ w3.heap.size := HB2.out.size
   have hg0 : g < wr.heap.size := HO.out.hi
   have hsep : Hid (∀ r ∈ rs, r < wr.heap.size) := Lib.hid fun r hr => (HO.out.out r hr).2.1
   have HO22 : Hid (OwnRs rs2 w3.heap.size w3 wr.heap.size g2 m c2 (samesP a b p.1 p.2)) := Lib.hid HO2.out
   have hml24 : m ≤ 24 := by have := HLA.out; omega
   obtain ⟨L, hL⟩ : ∃ q, q = wr.heap.size := ⟨_, rfl⟩
   obtain ⟨S2, hS2⟩ : ∃ q, q = w3.heap.size := ⟨_, rfl⟩
   replace HO22 : Hid (OwnRs rs2 S2 w3 L g2 m c2 (samesP a b p.1 p.2)) := Lib.hid (by rw [hS2, hL]; exact HO22.out)
   replace hg0 : g < L := by omega
   replace hsep : Hid (∀ r ∈ rs, r < L) := Lib.hid (by rw [hL]; exact hsep.out)
   have hwL : w.heap.size ≤ L := by have := HB.out.size; omega
   have hS21 : S2 ≤ w3.heap.size := by omega
   have hLS : L ≤ S2 := by omega
   clear HO HO2 HQ2 HB2 D hHeld HBd hL hS2
   go_wp2_with fail
   go_loopg [3, 32] m (fun k s3 s32 wx => ∃ (j : Nat) (rs5 : List Nat) (g5 n5 c5 : Nat), k + j = m ∧ s32 = .int .i64 j ∧ s3 = .slice (some ⟨g5, 0, none⟩) n5 c5 ∧ OwnRs rs5 wx.heap.size wx w.heap.size g5 n5 c5 (growP (foundG (samesP a b) i) ((samesP a b p.1 p.2).take j)) ∧ OwnRs rs2 S2 wx L g2 m c2 (samesP a b p.1 p.2) ∧ (g5 < L ∨ S2 ≤ g5) ∧ (∀ r' ∈ rs5, ∀ (j' q' : Nat), j ≤ j' → rs2[j']? = some q' → r' < q') ∧ Below w.heap.size w wx ∧ S2 ≤ wx.heap.size ∧ n5 ≤ n + j)
   case atStart => exact ⟨0, rs, g, n, c, by omega, rfl, rfl, by simpa [growP] using HO3.out, HO22.out, Or.inl hg0, fun r' hr j' q' _ hq => Nat.lt_of_lt_of_le (hsep.out r' hr) (HO22.out.out q' (List.mem_of_getElem? hq)).1, HB3.out, hS21, by omega⟩
   case round =>
    obtain ⟨j, rs5, g5, n5, c5, hkj, rfl, rfl, ho5, ho2, hg5, hsp, hb5, hS5, hn5⟩ := hrel
    obtain ⟨w5, hwv⟩ : ∃ u, u = wr := ⟨wr, rfl⟩
    subst hwv
    have hl5 : (growP (foundG (samesP a b) i) ((samesP a b p.1 p.2).take j)).length = n5 := ho5.count
    have hroom5 := ho5.room
    have HO5 := Lib.hid ho5
    have HO2 := Lib.hid ho2
    have HSP := Lib.hid hsp
    have HB5 := Lib.hid hb5
    clear ho5 ho2 hsp hb5
    by_cases hlt2 : j < m
    ·obtain ⟨q, p2, hq, hp2, hcq, hrow2, u1, u2, u3⟩ := HO2.out.at_ hlt2
     have HN2 := Lib.hid (two_own hrow2 u1).nums
     have HQ := Lib.hid hq
     have HP2 := Lib.hid (growP_step (o := foundG (samesP a b) i) hp2)
     have HR2 := Lib.hid hrow2
     clear hq hp2 hrow2
     go_wp2_with fail
     go_loopg [38] n5 (fun k s38 wx => ∃ z : Nat, k + z = n5 ∧ s38 = .int .i64 z ∧ (∀ y ∈ (growP (foundG (samesP a b) i) ((samesP a b p.1 p.2).take j)).take z, y ≠ p2) ∧ Below w5.heap.size w5 wx)
     case atStart => exact ⟨0, by omega, rfl, by simp, Below.refl _ _⟩
     case round =>
      obtain ⟨z, hkz, rfl, hno, hb6⟩ := hrel
      have HNO := Lib.hid hno
      have HB6 := Lib.hid hb6
      have hs6 := hb6.size
      clear hno hb6
      by_cases hlt3 : z < n5
      ·obtain ⟨r7, p7, hr7, hp7, hc7, hrow7, v1, v2, v3⟩ := (HO5.out.same HB6.out).at_ hlt3
       have HN7 := Lib.hid (two_own hrow7 v1).nums
       have HP7 := Lib.hid hp7
       clear hr7 hp7 hrow7 v1 v2 v3
       by_cases he : p7 = p2
       ·subst he
        have HE := Lib.hid (slicesEqual_yes (c := 2) (d := 2) HN7.out (HN2.out.same HB6.out))
        go_wp2_with fail
        refine HE.out.mono ?_
        rintro e w4 ⟨rfl, hb4⟩
        have HB4 := Lib.hid (HB6.out.trans (hb4.mono HB6.out.size))
        have hs4 := hb4.size
        clear hb4 hc7
        go_wp2_with fail
        go_roundg (m - (j + 1))
        case measure => omega
        case rel => exact ⟨j + 1, rs5, g5, n5, c5, by omega, by go_num, rfl, by rw [HP2.out, grow1, if_pos (List.mem_of_getElem? HP7.out)]; exact (HO5.out.same HB4.out).upper HB4.out.size (Nat.le_refl _), HO2.out.same HB4.out, hg5, fun r' hr j' q' hj' hq' => HSP.out r' hr j' q' (by omega) hq', HB5.out.trans (HB4.out.mono HB5.out.size), by omega, by omega⟩
       ·have hne : [p7.1, p7.2] ≠ [p2.1, p2.2] := fun e => he (by
         injection e with e1 e2
         injection e2 with e2 _
         exact Prod.ext e1 e2)
        have HE := Lib.hid (slicesEqual_no (c := 2) (d := 2) HN7.out (HN2.out.same HB6.out) hne)
        have HNN : Hid (∀ y ∈ (growP (foundG (samesP a b) i) ((samesP a b p.1 p.2).take j)).take (z + 1), y ≠ p2) := Lib.hid (by
         intro y hy
         rw [List.take_add_one, HP7.out] at hy
         rcases List.mem_append.1 hy with h | h
         ·exact HNO.out y h
         ·have : y = p7 := by simpa using h
          rw [this]
          exact he)
        clear hne he
        go_wp2_with fail
        refine HE.out.mono ?_
        rintro e w4 ⟨rfl, hb4⟩
        have HB4 := Lib.hid (HB6.out.trans (hb4.mono HB6.out.size))
        clear hb4 hc7
        go_wp2_with fail
        go_roundg (n5 - (z + 1))
        case measure => omega
        case rel => exact ⟨z + 1, by omega, by go_num, HNN.out, HB4.out⟩
      ·obtain rfl : z = n5 := by omega
       have hnin : p2 ∉ growP (foundG (samesP a b) i) ((samesP a b p.1 p.2).take j) := fun hm => by
        have := HNO.out p2 (by rw [List.take_of_length_le (by omega)]; exact hm)
        exact this rfl
       have HG : Hid (growP (foundG (samesP a b) i) ((samesP a b p.1 p.2).take (j + 1)) = growP (foundG (samesP a b) i) ((samesP a b p.1 p.2).take j) ++ [p2]) := Lib.hid (by rw [HP2.out, grow1, if_neg hnin])
       have HAL := Lib.hid (alloc_same wr (.cells #[.slice (some ⟨q, 0, none⟩) 2 2] 31))
       have HIT := Lib.hid (items_new rowEnc_len wr q 31)
       have HOW := Lib.hid ((HO5.out.same HB6.out).same HAL.out)
       have hqS : q < wr.heap.size := by omega
       have HRW : Hid ((wr.alloc (.cells #[.slice (some ⟨q, 0, none⟩) 2 2] 31)).heap[q]? = some (two p2)) := Lib.hid ((HAL.out.block q hqS).trans ((HB6.out.block q (by omega)).trans HR2.out))
       have hWs : (wr.alloc (.cells #[.slice (some ⟨q, 0, none⟩) 2 2] 31)).heap.size = wr.heap.size + 1 := by simp
       have HWS := Lib.hid hWs
       have HOO := Lib.hid HOW.out.own
       change Hid (Items rowEnc 1 (wr.alloc (.cells #[.slice (some ⟨q, 0, none⟩) 2 2] 31)) (some ⟨wr.heap.size, 0, none⟩) 1 [q]) at HIT
       clear hWs hnin
       have hbnd : w.heap.size ≤ (wr.alloc (.cells #[.slice (some ⟨q, 0, none⟩) 2 2] 31)).heap.size := by rw [HWS.out]; omega
       go_wp2_with (at_builtin; refine wpl_app_rows rfl (.tmp 46) (.tmp 48) 33 rfl 31 i0 (.slice none 0 0) 24 Try.underlying33 HI.out.1 HI.out.2.1 HI.out.2.2.1 HI.out.2.2.2 rfl rfl HOO.out rfl HIT.out (by omega) ?c1 hbnd ?_)
       case c1 => omega
       intro g6 c6 w6 ho6 hg6 hw6
       have HO6 := Lib.hid ho6
       have HG6 := Lib.hid hg6
       have HW6 : Hid (g6 = g5 ∨ g6 = (wr.alloc (.cells #[.slice (some ⟨q, 0, none⟩) 2 2] 31)).heap.size) := Lib.hid (by rw [HWS.out]; exact hw6)
       clear ho6 hg6 hw6 hbnd hcq
       go_wp2_with fail
       have hne : q ≠ g5 := by omega
       have hpush := HOW.out.push HRW.out (by omega) hne (fun q' hq' => HSP.out q' hq' j q (Nat.le_refl _) HQ.out) HO6.out HG6.out HW6.out
       have hin : Inside g5 (g5 + 1) (wr.alloc (.cells #[.slice (some ⟨q, 0, none⟩) 2 2] 31)) w6 := Inside.row HG6.out fun r' e' => by cases e'; omega
       have hWs := HWS.out
       have hw6 := HW6.out
       have hsz6 := HG6.out.size
       have hB5 := HB5.out.size
       have hg5w : w.heap.size ≤ g5 := HO5.out.lo
       go_roundg (m - (j + 1))
       case measure => omega
       case rel =>
        refine ⟨j + 1, rs5 ++ [q], g6, z + 1, c6, by omega, by go_num, rfl, by rw [HG.out]; exact hpush, ((HO2.out.same HB6.out).same HAL.out).aside hin (by omega), by omega, fun r' hr j' q' hj' hq' => ?_, hin.to (HB5.out.trans ((HB6.out.trans (HAL.out.mono HB6.out.size)).mono HB5.out.size)) (by omega) (by omega), by omega, by omega⟩
        rcases List.mem_append.1 hr with h1 | h1
        ·exact HSP.out r' h1 j' q' (by omega) hq'
        ·have : r' = q := by simpa using h1
         subst this
         have e1 := HQ.out
         have hj1 := at_lt e1
         have hj2 := at_lt hq'
         rw [List.getElem?_eq_getElem hj1] at e1
         rw [List.getElem?_eq_getElem hj2] at hq'
         rw [← Option.some.inj e1, ← Option.some.inj hq']
         exact List.pairwise_iff_getElem.1 HO2.out.inc _ _ hj1 hj2 (by omega)
    ·obtain rfl : j = m := by omega
     have hfin := HO5.out
     rw [List.take_of_length_le (by omega), ← HP.out] at hfin
     have HFIN := Lib.hid hfin
     clear hfin
     go_wp2_with fail
     (try simp only [Exit.noGoto, Exit.inBlock, Exit.then])
     go_wp2_with fail
     go_roundg (36 - (i + 1))
     case measure => omega
     case rel => exact ⟨i + 1, rs5, g5, n5, c5, by omega, by go_num, rfl, HFIN.out, HB5.out⟩
   
  ·have hend := (foundG_end (nx := samesP a b) (i := i) (by omega) (by omega)).trans (followP_yes HIA.out.1 HIA.out.2).symm
   have HE := Lib.hid hend
   clear hend
   go_wp2_with fail
   (try rw [Exit.noGoto_ret])
   go_ret
   exact ⟨_, _, _, rfl, ⟨rs, by rw [← HE.out]; exact HO.out⟩, HB.out⟩
set_option maxHeartbeats 2000000 in
set_option maxRecDepth 100000 in
theorem followPairs_any {va vb : Value} {a b : Mac} {w : World} (ha : MacW w va a) (hb : MacW w vb b) (hz : ∀ z ∈ a.moves, Wmv z) (hz' : ∀ z ∈ b.moves, Wmv z) (hn : a.parts ≤ 10000000) (hn' : b.parts ≤ 10000000) :
  Calls Try.prog 43 #[va, vb] w (MadeR w.heap.size (followP a b) w) := by
 obtain ⟨p, np, cp, q, n, c, rfl⟩ := ha.shape
 obtain ⟨p', np', cp', q', n', c', rfl⟩ := hb.shape
 obtain ⟨hB, hX, hY, hS⟩ := twice w #[.int .i64 a.st, .slice p np cp, .slice q n c] #[.int .i64 b.st, .slice p' np' cp', .slice q' n' c'] 27 27
 have HB := Lib.hid hB
 have HX := Lib.hid hX
 have HY := Lib.hid hY
 have HMA := Lib.hid (ha.same hB)
 have HMB := Lib.hid (hb.same hB)
 clear hB hX hY hS ha hb
 have HIA := Lib.hid (fun W' hb' => isMachine_any (HMA.out.same (w' := W') hb'))
 have HIB := Lib.hid (fun W' hb' => isMachine_any (HMB.out.same (w' := W') hb'))
 unfold MadeR
 cases qa : isMac a with
 | false =>
  have HR : Hid (followP a b = []) := Lib.hid (by unfold followP; rw [qa]; rfl)
  rw [qa] at HIA
  clear qa
  obtain ⟨x0, x1, x2, -⟩ := three_cells HX.out
  go_enter Try.func43, Try.ntmps43
  go_wp2_with fail
  clear x0 x1 x2
  generalize (w.alloc (.cells #[.int .i64 a.st, .slice p np cp, .slice q n c] 27)).alloc (.cells #[.int .i64 b.st, .slice p' np' cp', .slice q' n' c'] 27) = W0 at *
  refine (HIA.out W0 (Below.refl _ _)).mono ?_
  rintro e w1 ⟨rfl, hb1⟩
  have HB1 := Lib.hid (HB.out.trans (hb1.mono HB.out.size))
  clear hb1
  go_wp2_with fail
  go_ret
  have hs1 := HB1.out.size
  refine ⟨_, _, _, rfl, ?_, HB1.out.alloc hs1 _⟩
  rw [HR.out]
  exact (empty_rows w1).lower hs1
 | true =>
  cases qb : isMac b with
  | false =>
   have HR : Hid (followP a b = []) := Lib.hid (by unfold followP; rw [qb, Bool.and_false]; rfl)
   rw [qa] at HIA
   rw [qb] at HIB
   clear qa qb
   obtain ⟨x0, x1, x2, -⟩ := three_cells HX.out
   go_enter Try.func43, Try.ntmps43
   go_wp2_with fail
   clear x0 x1 x2
   generalize (w.alloc (.cells #[.int .i64 a.st, .slice p np cp, .slice q n c] 27)).alloc (.cells #[.int .i64 b.st, .slice p' np' cp', .slice q' n' c'] 27) = W0 at *
   refine (HIA.out W0 (Below.refl _ _)).mono ?_
   rintro e w1 ⟨rfl, hb1⟩
   have HB1 := Lib.hid (HB.out.trans (hb1.mono HB.out.size))
   obtain ⟨y0, y1, y2, -⟩ := three_cells ((hb1.block _ (Array.getElem?_eq_some_iff.1 HY.out).1).trans HY.out)
   have HD1 := Lib.hid hb1
   clear hb1
   go_wp2_with fail
   clear y0 y1 y2
   refine (HIB.out w1 HD1.out).mono ?_
   rintro e w2 ⟨rfl, hb2⟩
   have HB2 := Lib.hid (HB1.out.trans (hb2.mono HB1.out.size))
   clear hb2
   go_wp2_with fail
   go_ret
   have hs2 := HB2.out.size
   refine ⟨_, _, _, rfl, ?_, HB2.out.alloc hs2 _⟩
   rw [HR.out]
   exact (empty_rows w2).lower hs2
  | true =>
   have HZ := Lib.hid (And.intro (And.intro hz hz') (And.intro qa qb))
   rw [qa] at HIA
   rw [qb] at HIB
   clear qa qb hz hz'
   obtain ⟨x0, x1, x2, -⟩ := three_cells HX.out
   go_enter Try.func43, Try.ntmps43
   go_wp2_with fail
   clear x0 x1 x2
   generalize (w.alloc (.cells #[.int .i64 a.st, .slice p np cp, .slice q n c] 27)).alloc (.cells #[.int .i64 b.st, .slice p' np' cp', .slice q' n' c'] 27) = W0 at *
   refine (HIA.out W0 (Below.refl _ _)).mono ?_
   rintro e w1 ⟨rfl, hb1⟩
   have HB1 := Lib.hid (HB.out.trans (hb1.mono HB.out.size))
   obtain ⟨y0, y1, y2, -⟩ := three_cells ((hb1.block _ (Array.getElem?_eq_some_iff.1 HY.out).1).trans HY.out)
   have HD1 := Lib.hid hb1
   clear hb1
   go_wp2_with fail
   clear y0 y1 y2
   refine (HIB.out w1 HD1.out).mono ?_
   rintro e w2 ⟨rfl, hb2⟩
   have HB2 := Lib.hid (HB1.out.trans (hb2.mono HB1.out.size))
   have HD2 := Lib.hid (HD1.out.trans (hb2.mono HD1.out.size))
   clear hb2
   go_wp2_with fail
   refine (reachedS_any (HMA.out.same HD2.out) (HMB.out.same HD2.out) HZ.out.1.1 HZ.out.1.2 HZ.out.2.1 HZ.out.2.2 hn hn' ((HD2.out.block _ (Array.getElem?_eq_some_iff.1 HX.out).1).trans HX.out) ((HD2.out.block _ (Array.getElem?_eq_some_iff.1 HY.out).1).trans HY.out)).mono ?_
   rintro e w3 ⟨g, m, d, rfl, ho, hb3⟩
   have HO := Lib.hid (ho.lower HB2.out.size)
   have HB3 := Lib.hid (HB2.out.trans (hb3.mono HB2.out.size))
   clear ho hb3
   go_wp2_with fail
   go_ret
   exact ⟨_, _, _, rfl, HO.out, HB3.out⟩
end Go.Proofs.Ytckmgbobkffabaa
