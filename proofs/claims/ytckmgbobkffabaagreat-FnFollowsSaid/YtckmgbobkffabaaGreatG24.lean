/- The pairs of states that follow: by the program. Lists of integers are compared: by the library. -/
import Derived.Test.YtckmgbobkffabaaGreatG23
import Derived.BigRegion
import Derived.Test.YtckmgbobkffabaaGreatG1
import Derived.Deep.QuietTactic
import Derived.BigQuiet
import Derived.RegionTactic
namespace Go.Proofs.YtckmgbobkffabaaGreat
open Go.ChangeShapes Go.WideShapes Go.ChangeAt Go.RowKit
set_option linter.unusedVariables false
set_option linter.unusedSimpArgs false

theorem party_cells {w : World} {g : Nat} {t : TypeId} {a b c d : Value} (h : w.heap[g]? = some (.cells #[a, b, c, d] t (0, 0))) :
  (w.cell? ⟨g, 0, none⟩ = some a ∧ w.cell? ⟨g, 1, none⟩ = some b ∧ w.cell? ⟨g, 2, none⟩ = some c ∧ w.cell? ⟨g, 3, none⟩ = some d) ∧
  (w.frozen? ⟨g, 0, none⟩ = false ∧ w.frozen? ⟨g, 1, none⟩ = false ∧ w.frozen? ⟨g, 2, none⟩ = false ∧ w.frozen? ⟨g, 3, none⟩ = false) :=
 ⟨⟨(block_cell h 0).trans rfl, (block_cell h 1).trans rfl, (block_cell h 2).trans rfl, (block_cell h 3).trans rfl⟩, block_frozen h 0, block_frozen h 1, block_frozen h 2, block_frozen h 3⟩
theorem party_put {w : World} {g : Nat} {t : TypeId} {a b c d : Value} (h : w.heap[g]? = some (.cells #[a, b, c, d] t (0, 0))) (p q r s : Value) :
  ((((w.setCell ⟨g, 0, none⟩ p).setCell ⟨g, 1, none⟩ q).setCell ⟨g, 2, none⟩ r).setCell ⟨g, 3, none⟩ s).heap[g]? = some (.cells #[p, q, r, s] t (0, 0)) := by
 have h1 := heap_setCell_same w g 0 _ _ p h
 have h2 := heap_setCell_same _ g 1 _ _ q h1
 have h3 := heap_setCell_same _ g 2 _ _ r h2
 exact heap_setCell_same _ g 3 _ _ s h3

set_option maxHeartbeats 4000000 in
set_option maxRecDepth 100000 in
theorem nextPairs_any {v v' : Value} {a b : Mac} (x y : Int) {w : World} (h : MacW w v a) (h' : MacW w v' b) (hz : ∀ z ∈ a.moves, Wmv z) (hz' : ∀ z ∈ b.moves, Wmv z) (hn : a.parts ≤ 10000000) (hn' : b.parts ≤ 10000000) :
  Calls Tryz.prog 69 #[v, v', .int .i64 x, .int .i64 y] w (MadeR w.heap.size (nextP a b x y) w) := by
 obtain ⟨p, np, cp, q, n, c, rfl⟩ := h.shape
 obtain ⟨p', np', cp', q', n', c', rfl⟩ := h'.shape
 obtain ⟨hB, hX, hY, hS⟩ := twice w #[.int .i64 a.st, .slice p np cp, .slice q n c] #[.int .i64 b.st, .slice p' np' cp', .slice q' n' c'] 27 27
 have HB := Lib.hid hB
 have HX := Lib.hid (three_cells hX)
 have HY := Lib.hid (three_cells hY)
 have HMA := Lib.hid h
 have HMB := Lib.hid h'
 have HZA := Lib.hid hz
 have HZB := Lib.hid hz'
 clear hB hX hY hS h h' hz hz'
 unfold MadeR
 go_enter Tryz.func69, Tryz.ntmps69
 obtain ⟨x0, x1, x2, -⟩ := HX.out
 obtain ⟨y0, y1, y2, -⟩ := HY.out
 go_wp2_with fail
 clear x0 x1 x2 y0 y1 y2
 generalize hW0 : ((w.alloc (.cells #[.int .i64 a.st, .slice p np cp, .slice q n c] 27)).alloc (.cells #[.int .i64 b.st, .slice p' np' cp', .slice q' n' c'] 27)) = W0 at *
 clear hW0
 refine wp_region_held_drew (S := fun w9 => Below W0.heap.size W0 w9) (by kernel_rfl) (Below.refl _ W0).drew (fun hHeld => ?_)
 refine wpAnyH_take (i := 0) (v := ?v1) (by simp only [get9]; rfl) (by kernel_rfl) (by kernel_rfl) (by kernel_rfl) (by exact fun _ _ _ h => h) (Or.inl ⟨by rfl, fun w9 hS9 => ?hy1⟩) hHeld ?rest1
 case hy1 =>
  dsimp only at hS9
  have q0 := cell_stay HX.out.1 hS9
  have q1 := cell_stay HX.out.2.1 hS9
  have q2 := cell_stay HX.out.2.2.1 hS9
  have q3 := cell_stay HY.out.1 hS9
  have q4 := cell_stay HY.out.2.1 hS9
  have q5 := cell_stay HY.out.2.2.1 hS9
  go_simp
  try with_reducible rfl
 try simp only [Act.put, set9]
 refine wpAnyH_take (i := 1) (v := ?v2) (by simp only [get9]; rfl) (by kernel_rfl) (by kernel_rfl) (by kernel_rfl) (by exact fun _ _ _ h => h) (Or.inl ⟨by rfl, fun w9 hS9 => ?hy2⟩) hHeld ?rest2
 case hy2 =>
  dsimp only at hS9
  have q0 := cell_stay HX.out.1 hS9
  have q1 := cell_stay HX.out.2.1 hS9
  have q2 := cell_stay HX.out.2.2.1 hS9
  have q3 := cell_stay HY.out.1 hS9
  have q4 := cell_stay HY.out.2.1 hS9
  have q5 := cell_stay HY.out.2.2.1 hS9
  go_simp
  try with_reducible rfl
 try simp only [Act.put, set9]
 refine wpAnyH_take (i := 2) (v := ?v3) (by simp only [get9]; rfl) (by kernel_rfl) (by kernel_rfl) (by kernel_rfl) (by exact fun _ _ _ h => h) (Or.inl ⟨by rfl, fun w9 hS9 => ?hy3⟩) hHeld ?rest3
 case hy3 =>
  dsimp only at hS9
  have q0 := cell_stay HX.out.1 hS9
  have q1 := cell_stay HX.out.2.1 hS9
  have q2 := cell_stay HX.out.2.2.1 hS9
  have q3 := cell_stay HY.out.1 hS9
  have q4 := cell_stay HY.out.2.1 hS9
  have q5 := cell_stay HY.out.2.2.1 hS9
  go_simp
  try with_reducible rfl
 try simp only [Act.put, set9]
 refine wpAnyH_take (i := 3) (v := ?v4) (by simp only [get9]; rfl) (by kernel_rfl) (by kernel_rfl) (by kernel_rfl) (by exact fun _ _ _ h => h) (Or.inl ⟨by rfl, fun w9 hS9 => ?hy4⟩) hHeld ?rest4
 case hy4 =>
  dsimp only at hS9
  have q0 := cell_stay HX.out.1 hS9
  have q1 := cell_stay HX.out.2.1 hS9
  have q2 := cell_stay HX.out.2.2.1 hS9
  have q3 := cell_stay HY.out.1 hS9
  have q4 := cell_stay HY.out.2.1 hS9
  have q5 := cell_stay HY.out.2.2.1 hS9
  go_simp
  try with_reducible rfl
 try simp only [Act.put, set9]
 refine wpAnyH_take (i := 4) (v := ?v5) (by simp only [get9]; rfl) (by kernel_rfl) (by kernel_rfl) (by kernel_rfl) (by exact fun _ _ _ h => h) (Or.inl ⟨by rfl, fun w9 hS9 => ?hy5⟩) hHeld ?rest5
 case hy5 =>
  dsimp only at hS9
  have q0 := cell_stay HX.out.1 hS9
  have q1 := cell_stay HX.out.2.1 hS9
  have q2 := cell_stay HX.out.2.2.1 hS9
  have q3 := cell_stay HY.out.1 hS9
  have q4 := cell_stay HY.out.2.1 hS9
  have q5 := cell_stay HY.out.2.2.1 hS9
  go_simp
  try with_reducible rfl
 try simp only [Act.put, set9]
 refine wpAnyH_take (i := 5) (v := ?v6) (by simp only [get9]; rfl) (by kernel_rfl) (by kernel_rfl) (by kernel_rfl) (by exact fun _ _ _ h => h) (Or.inl ⟨by rfl, fun w9 hS9 => ?hy6⟩) hHeld ?rest6
 case hy6 =>
  dsimp only at hS9
  have q0 := cell_stay HX.out.1 hS9
  have q1 := cell_stay HX.out.2.1 hS9
  have q2 := cell_stay HX.out.2.2.1 hS9
  have q3 := cell_stay HY.out.1 hS9
  have q4 := cell_stay HY.out.2.1 hS9
  have q5 := cell_stay HY.out.2.2.1 hS9
  go_simp
  try with_reducible rfl
 try simp only [Act.put, set9]
 refine wpAnyH_ready (rs := [6, 7]) (by kernel_rfl) (by simp) (AllReadyH.cons (by simp only [get9]; rfl) (fun K hK => ?_) (AllReadyH.cons (by simp only [get9]; rfl) (fun K hK => ?_) AllReadyH.nil))
 ·skip
  go_simp
  refine hK.out _ _ ((Below.refl _ W0).drew.alloc (Nat.le_refl _) _) (fun hHeld => ?_)
  clear hK K
  try simp only [Act.put, set9]
  refine wpAnyH_ready (rs := [7]) (by kernel_rfl) (by simp) (AllReadyH.cons (by simp only [get9]; rfl) (fun K hK => ?_) AllReadyH.nil)
  go_simp
  refine hK.out _ _ (((Below.refl _ W0).drew.alloc (Nat.le_refl _) _).alloc (by simp) _) (fun hHeld => ?_)
  clear hK K
  try simp only [Act.put, set9]
  refine wpAnyH_ready (rs := [8]) (by kernel_rfl) (by simp) (AllReadyH.cons (by simp only [get9]; rfl) (fun K hK => ?_) AllReadyH.nil)
  go_simp
  refine hK.out _ _ (((Below.refl _ W0).alloc (Nat.le_refl _) _).alloc (by simp) _).drew (fun hHeld => ?_)
  clear hK K
  try simp only [Act.put, set9]
  refine wpAnyH_ready (rs := [9]) (by kernel_rfl) (by simp) (AllReadyH.cons (by simp only [get9]; rfl) (fun K hK => ?_) AllReadyH.nil)
  go_simp
  refine hK.out _ _ (((Below.refl _ W0).alloc (Nat.le_refl _) _).alloc (by simp) _).drew (fun hHeld => ?_)
  clear hK K
  try simp only [Act.put, set9]
  refine wpAnyH_done (by kernel_rfl) ?_ _
  obtain ⟨hB9, hX9, hY9, hS9⟩ := twice W0 #[.int .i64 a.st, .slice p np cp, .slice q n c, .int .i64 x] #[.int .i64 b.st, .slice p' np' cp', .slice q' n' c', .int .i64 y] 76 76
  have HGA : Hid (((W0.alloc (.cells #[.int .i64 a.st, .slice p np cp, .slice q n c, .int .i64 x] 76)).alloc (.cells #[.int .i64 b.st, .slice p' np' cp', .slice q' n' c', .int .i64 y] 76)).drew.heap[W0.heap.size]? = some (.cells #[.int .i64 a.st, .slice p np cp, .slice q n c, .int .i64 x] 76 (0, 0))) := Lib.hid hX9
  have HGB : Hid (((W0.alloc (.cells #[.int .i64 a.st, .slice p np cp, .slice q n c, .int .i64 x] 76)).alloc (.cells #[.int .i64 b.st, .slice p' np' cp', .slice q' n' c', .int .i64 y] 76)).drew.heap[W0.heap.size + 1]? = some (.cells #[.int .i64 b.st, .slice p' np' cp', .slice q' n' c', .int .i64 y] 76 (0, 0))) := Lib.hid hY9
  have HBF : Hid (Below W0.heap.size W0 ((W0.alloc (.cells #[.int .i64 a.st, .slice p np cp, .slice q n c, .int .i64 x] 76)).alloc (.cells #[.int .i64 b.st, .slice p' np' cp', .slice q' n' c', .int .i64 y] 76)).drew) := Lib.hid hB9.drew
  clear hB9 hX9 hY9 hS9
  generalize hW4 : ((W0.alloc (.cells #[.int .i64 a.st, .slice p np cp, .slice q n c, .int .i64 x] 76)).alloc (.cells #[.int .i64 b.st, .slice p' np' cp', .slice q' n' c', .int .i64 y] 76)).drew = W4 at *
  clear hW4
  obtain ⟨GB, hG2⟩ : ∃ r, r = W0.heap.size + 1 := ⟨_, rfl⟩
  obtain ⟨GA, hG1⟩ : ∃ r, r = W0.heap.size := ⟨_, rfl⟩
  rw [← hG2, ← hG1]
  replace HGA : Hid (W4.heap[GA]? = some (.cells #[.int .i64 a.st, .slice p np cp, .slice q n c, .int .i64 x] 76 (0, 0))) := Lib.hid (by rw [hG1]; exact HGA.out)
  replace HGB : Hid (W4.heap[GB]? = some (.cells #[.int .i64 b.st, .slice p' np' cp', .slice q' n' c', .int .i64 y] 76 (0, 0))) := Lib.hid (by rw [hG2]; exact HGB.out)
  clear hG1 hG2
  have HBW : Hid (Below w.heap.size w W4) := Lib.hid (HB.out.trans (HBF.out.mono HB.out.size))
  have ha0 : GA < W4.heap.size := (Array.getElem?_eq_some_iff.1 HGA.out).1
  have hb0 : GB < W4.heap.size := (Array.getElem?_eq_some_iff.1 HGB.out).1
  have hge : w.heap.size ≤ W4.heap.size := HBW.out.size
  obtain ⟨hAA, _, hBX, hSS⟩ := twice W4 #[] #[.slice (some ⟨W4.heap.size, 0, none⟩) 0 0] 36 77
  have hNL := ((OwnRs.nil (w := W4) (B := W4.heap.size) (Nat.le_refl _)).same (alloc_same _ (.cells #[.slice (some ⟨W4.heap.size, 0, none⟩) 0 0] 77))).upper (S' := ((W4.alloc (.cells #[] 36)).alloc (.cells #[.slice (some ⟨W4.heap.size, 0, none⟩) 0 0] 77)).heap.size) (by simp) (Nat.le_refl _)
  have HBOX : Hid (BoxR (W4.heap.size + 1) [] ((W4.alloc (.cells #[] 36)).alloc (.cells #[.slice (some ⟨W4.heap.size, 0, none⟩) 0 0] 77)) W4.heap.size W4.heap.size 0 0 []) := Lib.hid ⟨hBX, hNL, by omega, by simp, by omega⟩
  have HAA := Lib.hid hAA
  clear hAA hBX hSS hNL HX HY
  obtain ⟨⟨a0, a1, a2, a3⟩, _⟩ := party_cells ((HAA.out.block GA ha0).trans HGA.out)
  obtain ⟨⟨b0, b1, b2, b3⟩, _⟩ := party_cells ((HAA.out.block GB hb0).trans HGB.out)
  go_wp2_with fail
  clear a0 a1 a2 a3 b0 b1 b2 b3
  generalize ((W4.alloc (.cells #[] 36)).alloc (.cells #[.slice (some ⟨W4.heap.size, 0, none⟩) 0 0] 77)) = W5 at *
  have HB5 : Hid (Below w.heap.size w W5) := Lib.hid (HBW.out.trans (HAA.out.mono HBW.out.size))
  have HE := eachAdd_any (s := x) (t := y) (HMA.out.same HB5.out) (HMB.out.same HB5.out) HZA.out HZB.out (by omega) (by omega) HBOX.out (by omega)
  rw [party_eq, party_eq] at HE
  refine HE.mono ?_
  rintro e w6 ⟨rfl, rs1, g1, n1, c1, hbx, hb⟩
  have hcn := hbx.rows.count
  have hdl := delivs_len a x b y
  have hpa : a.moves.length ≤ a.parts := by unfold Mac.parts; omega
  rw [List.nil_append] at hbx hcn
  have HBOX6 := Lib.hid hbx
  have HB6 : Hid (Below W4.heap.size W4 w6) := Lib.hid (HAA.out.trans hb)
  clear hbx hb HE
  obtain ⟨⟨a0, a1, a2, a3⟩, _⟩ := party_cells ((HB6.out.block GA ha0).trans HGA.out)
  obtain ⟨⟨b0, b1, b2, b3⟩, _⟩ := party_cells ((HB6.out.block GB hb0).trans HGB.out)
  go_wp2_with fail
  clear a0 a1 a2 a3 b0 b1 b2 b3
  have HBW6 : Hid (Below w.heap.size w w6) := Lib.hid (HBW.out.trans (HB6.out.mono HBW.out.size))
  have HE := eachTurned_any (s := y) (t := x) (HMB.out.same HBW6.out) (HMA.out.same HBW6.out) HZB.out HZA.out (by omega) (by omega) HBOX6.out (by omega)
  rw [party_eq, party_eq] at HE
  refine HE.mono ?_
  rintro e w7 ⟨rfl, rs2, g2, n2, c2, hbx, hb⟩
  have HBOX7 := Lib.hid hbx
  have HB7 : Hid (Below w.heap.size w w7) := Lib.hid (HBW6.out.trans (hb.mono hge))
  have z0 := (block_cell hbx.box 0).trans rfl
  clear hbx hb HE
  go_wp2_with fail
  go_ret
  exact ⟨_, _, _, rfl, ⟨rs2, HBOX7.out.rows.lower hge⟩, HB7.out⟩
 ·skip
  go_simp
  refine hK.out _ _ ((Below.refl _ W0).drew.alloc (Nat.le_refl _) _) (fun hHeld => ?_)
  clear hK K
  try simp only [Act.put, set9]
  refine wpAnyH_ready (rs := [6]) (by kernel_rfl) (by simp) (AllReadyH.cons (by simp only [get9]; rfl) (fun K hK => ?_) AllReadyH.nil)
  go_simp
  refine hK.out _ _ (((Below.refl _ W0).drew.alloc (Nat.le_refl _) _).alloc (by simp) _) (fun hHeld => ?_)
  clear hK K
  try simp only [Act.put, set9]
  refine wpAnyH_ready (rs := [8]) (by kernel_rfl) (by simp) (AllReadyH.cons (by simp only [get9]; rfl) (fun K hK => ?_) AllReadyH.nil)
  go_simp
  refine hK.out _ _ (((Below.refl _ W0).alloc (Nat.le_refl _) _).alloc (by simp) _).drew (fun hHeld => ?_)
  clear hK K
  try simp only [Act.put, set9]
  refine wpAnyH_ready (rs := [9]) (by kernel_rfl) (by simp) (AllReadyH.cons (by simp only [get9]; rfl) (fun K hK => ?_) AllReadyH.nil)
  go_simp
  refine hK.out _ _ (((Below.refl _ W0).alloc (Nat.le_refl _) _).alloc (by simp) _).drew (fun hHeld => ?_)
  clear hK K
  try simp only [Act.put, set9]
  refine wpAnyH_done (by kernel_rfl) ?_ _
  obtain ⟨hB9, hX9, hY9, hS9⟩ := twice W0 #[.int .i64 b.st, .slice p' np' cp', .slice q' n' c', .int .i64 y] #[.int .i64 a.st, .slice p np cp, .slice q n c, .int .i64 x] 76 76
  have HGB : Hid (((W0.alloc (.cells #[.int .i64 b.st, .slice p' np' cp', .slice q' n' c', .int .i64 y] 76)).alloc (.cells #[.int .i64 a.st, .slice p np cp, .slice q n c, .int .i64 x] 76)).drew.heap[W0.heap.size]? = some (.cells #[.int .i64 b.st, .slice p' np' cp', .slice q' n' c', .int .i64 y] 76 (0, 0))) := Lib.hid hX9
  have HGA : Hid (((W0.alloc (.cells #[.int .i64 b.st, .slice p' np' cp', .slice q' n' c', .int .i64 y] 76)).alloc (.cells #[.int .i64 a.st, .slice p np cp, .slice q n c, .int .i64 x] 76)).drew.heap[W0.heap.size + 1]? = some (.cells #[.int .i64 a.st, .slice p np cp, .slice q n c, .int .i64 x] 76 (0, 0))) := Lib.hid hY9
  have HBF : Hid (Below W0.heap.size W0 ((W0.alloc (.cells #[.int .i64 b.st, .slice p' np' cp', .slice q' n' c', .int .i64 y] 76)).alloc (.cells #[.int .i64 a.st, .slice p np cp, .slice q n c, .int .i64 x] 76)).drew) := Lib.hid hB9.drew
  clear hB9 hX9 hY9 hS9
  generalize hW4 : ((W0.alloc (.cells #[.int .i64 b.st, .slice p' np' cp', .slice q' n' c', .int .i64 y] 76)).alloc (.cells #[.int .i64 a.st, .slice p np cp, .slice q n c, .int .i64 x] 76)).drew = W4 at *
  clear hW4
  obtain ⟨GA, hG2⟩ : ∃ r, r = W0.heap.size + 1 := ⟨_, rfl⟩
  obtain ⟨GB, hG1⟩ : ∃ r, r = W0.heap.size := ⟨_, rfl⟩
  rw [← hG2, ← hG1]
  replace HGB : Hid (W4.heap[GB]? = some (.cells #[.int .i64 b.st, .slice p' np' cp', .slice q' n' c', .int .i64 y] 76 (0, 0))) := Lib.hid (by rw [hG1]; exact HGB.out)
  replace HGA : Hid (W4.heap[GA]? = some (.cells #[.int .i64 a.st, .slice p np cp, .slice q n c, .int .i64 x] 76 (0, 0))) := Lib.hid (by rw [hG2]; exact HGA.out)
  clear hG1 hG2
  have HBW : Hid (Below w.heap.size w W4) := Lib.hid (HB.out.trans (HBF.out.mono HB.out.size))
  have ha0 : GA < W4.heap.size := (Array.getElem?_eq_some_iff.1 HGA.out).1
  have hb0 : GB < W4.heap.size := (Array.getElem?_eq_some_iff.1 HGB.out).1
  have hge : w.heap.size ≤ W4.heap.size := HBW.out.size
  obtain ⟨hAA, _, hBX, hSS⟩ := twice W4 #[] #[.slice (some ⟨W4.heap.size, 0, none⟩) 0 0] 36 77
  have hNL := ((OwnRs.nil (w := W4) (B := W4.heap.size) (Nat.le_refl _)).same (alloc_same _ (.cells #[.slice (some ⟨W4.heap.size, 0, none⟩) 0 0] 77))).upper (S' := ((W4.alloc (.cells #[] 36)).alloc (.cells #[.slice (some ⟨W4.heap.size, 0, none⟩) 0 0] 77)).heap.size) (by simp) (Nat.le_refl _)
  have HBOX : Hid (BoxR (W4.heap.size + 1) [] ((W4.alloc (.cells #[] 36)).alloc (.cells #[.slice (some ⟨W4.heap.size, 0, none⟩) 0 0] 77)) W4.heap.size W4.heap.size 0 0 []) := Lib.hid ⟨hBX, hNL, by omega, by simp, by omega⟩
  have HAA := Lib.hid hAA
  clear hAA hBX hSS hNL HX HY
  obtain ⟨⟨a0, a1, a2, a3⟩, _⟩ := party_cells ((HAA.out.block GA ha0).trans HGA.out)
  obtain ⟨⟨b0, b1, b2, b3⟩, _⟩ := party_cells ((HAA.out.block GB hb0).trans HGB.out)
  go_wp2_with fail
  clear a0 a1 a2 a3 b0 b1 b2 b3
  generalize ((W4.alloc (.cells #[] 36)).alloc (.cells #[.slice (some ⟨W4.heap.size, 0, none⟩) 0 0] 77)) = W5 at *
  have HB5 : Hid (Below w.heap.size w W5) := Lib.hid (HBW.out.trans (HAA.out.mono HBW.out.size))
  have HE := eachAdd_any (s := x) (t := y) (HMA.out.same HB5.out) (HMB.out.same HB5.out) HZA.out HZB.out (by omega) (by omega) HBOX.out (by omega)
  rw [party_eq, party_eq] at HE
  refine HE.mono ?_
  rintro e w6 ⟨rfl, rs1, g1, n1, c1, hbx, hb⟩
  have hcn := hbx.rows.count
  have hdl := delivs_len a x b y
  have hpa : a.moves.length ≤ a.parts := by unfold Mac.parts; omega
  rw [List.nil_append] at hbx hcn
  have HBOX6 := Lib.hid hbx
  have HB6 : Hid (Below W4.heap.size W4 w6) := Lib.hid (HAA.out.trans hb)
  clear hbx hb HE
  obtain ⟨⟨a0, a1, a2, a3⟩, _⟩ := party_cells ((HB6.out.block GA ha0).trans HGA.out)
  obtain ⟨⟨b0, b1, b2, b3⟩, _⟩ := party_cells ((HB6.out.block GB hb0).trans HGB.out)
  go_wp2_with fail
  clear a0 a1 a2 a3 b0 b1 b2 b3
  have HBW6 : Hid (Below w.heap.size w w6) := Lib.hid (HBW.out.trans (HB6.out.mono HBW.out.size))
  have HE := eachTurned_any (s := y) (t := x) (HMB.out.same HBW6.out) (HMA.out.same HBW6.out) HZB.out HZA.out (by omega) (by omega) HBOX6.out (by omega)
  rw [party_eq, party_eq] at HE
  refine HE.mono ?_
  rintro e w7 ⟨rfl, rs2, g2, n2, c2, hbx, hb⟩
  have HBOX7 := Lib.hid hbx
  have HB7 : Hid (Below w.heap.size w w7) := Lib.hid (HBW6.out.trans (hb.mono hge))
  have z0 := (block_cell hbx.box 0).trans rfl
  clear hbx hb HE
  go_wp2_with fail
  go_ret
  exact ⟨_, _, _, rfl, ⟨rs2, HBOX7.out.rows.lower hge⟩, HB7.out⟩

end Go.Proofs.YtckmgbobkffabaaGreat
namespace Go.Proofs.YtckmgbobkffabaaGreat
open Go.ChangeShapes Go.WideShapes Go.ChangeAt Go.RowKit
set_option linter.unusedVariables false

set_option maxRecDepth 100000 in
theorem slicesEqual_yes {a b : Option Addr} {n m c d : Nat} {l : List Int} {w : World} (h : Nums .i64 w a n l) (h' : Nums .i64 w b m l) :
  Calls Tryz.prog 52 #[.slice a n c, .slice b m d] w (Told (.bool true) w) := by
 obtain rfl : n = m := by rw [← h.len, ← h'.len]
 have hn := h.fits
 have H := Lib.hid h
 have H' := Lib.hid h'
 clear h h'
 go_enter Tryz.func52, Tryz.ntmps52
 go_wp2
 go_loopw [13] (fun i wr => ∃ j : Nat, j ≤ n ∧ i = .int .i64 j ∧ Below w.heap.size w wr) (fun i _ => n - (intOf i).toNat)
 case atStart => exact ⟨0, Nat.zero_le _, rfl, Below.refl _ _⟩
 case round =>
  obtain ⟨j, hj, rfl, hb⟩ := hrel
  have HB := Lib.hid hb
  clear hb
  by_cases hlt : j < n
  ·obtain ⟨ad, x, rfl, hx, hc⟩ := (H.out.same HB.out).at_ hlt
   obtain ⟨be, y, rfl, hy, hc'⟩ := (H'.out.same HB.out).at_ hlt
   rw [hx] at hy
   cases hy
   clear hx
   go_wp2
   go_quiet (fail)
   go_wp2
   go_roundw
   case rel => exact ⟨j + 1, by omega, by go_num, HB.out.trans ((drewN_same _ _).mono HB.out.size)⟩
   case measure => simp [intOf]; omega
  ·go_wp2
   go_ret
   exact ⟨rfl, HB.out⟩
set_option maxRecDepth 100000 in
theorem slicesEqual_no {a b : Option Addr} {n m c d : Nat} {l l' : List Int} {w : World} (h : Nums .i64 w a n l) (h' : Nums .i64 w b m l') (hne : l ≠ l') :
  Calls Tryz.prog 52 #[.slice a n c, .slice b m d] w (Told (.bool false) w) := by
 have hn := h.fits
 have hm := h'.fits
 have H := Lib.hid h
 have H' := Lib.hid h'
 have HE := Lib.hid hne
 clear h h' hne
 by_cases hnm : n = m
 ·subst hnm
  go_enter Tryz.func52, Tryz.ntmps52
  go_wp2
  go_loopw [13] (fun i wr => ∃ j : Nat, j ≤ n ∧ i = .int .i64 j ∧ l.take j = l'.take j ∧ Below w.heap.size w wr) (fun i _ => n - (intOf i).toNat)
  case atStart => exact ⟨0, Nat.zero_le _, rfl, rfl, Below.refl _ _⟩
  case round =>
   obtain ⟨j, hj, rfl, ht, hb⟩ := hrel
   have HB := Lib.hid hb
   have HT := Lib.hid ht
   clear hb ht
   by_cases hlt : j < n
   ·obtain ⟨ad, x, rfl, hx, hc⟩ := (H.out.same HB.out).at_ hlt
    obtain ⟨be, y, rfl, hy, hc'⟩ := (H'.out.same HB.out).at_ hlt
    have HX := Lib.hid hx
    have HY := Lib.hid hy
    clear hx hy
    by_cases hxy : x = y
    ·subst hxy
     go_wp2
     go_quiet (fail)
     go_wp2
     go_roundw
     case rel => exact ⟨j + 1, by omega, by go_num, by rw [List.take_add_one, List.take_add_one, HX.out, HY.out, HT.out], HB.out.trans ((drewN_same _ _).mono HB.out.size)⟩
     case measure => simp [intOf]; omega
    ·have hq : (x != y) = true := by simp [hxy]
     clear hxy
     go_wp2
     go_quiet (fail)
     go_wp2
     go_ret
     exact ⟨rfl, HB.out.trans ((drewN_same _ _).mono HB.out.size)⟩
   ·exfalso
    have h1 := HT.out
    rw [List.take_of_length_le (by rw [H.out.len]; omega), List.take_of_length_le (by rw [H'.out.len]; omega)] at h1
    exact HE.out h1
 ·have hq : ((n : Int) != (m : Int)) = true := by simp; omega
  clear hnm
  go_enter Tryz.func52, Tryz.ntmps52
  go_wp2
  go_ret
  exact ⟨rfl, Below.refl _ _⟩
end Go.Proofs.YtckmgbobkffabaaGreat
