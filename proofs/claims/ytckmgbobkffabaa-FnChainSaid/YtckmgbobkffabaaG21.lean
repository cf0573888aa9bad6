/- The pairs of states that follow: by the program. Whether a machine is valid: IsMachine by the program. -/
import Derived.Test.YtckmgbobkffabaaG20
import Derived.BigRegion
import Derived.Test.YtckmgbobkffabaaG14
import Derived.Test.YtckmgbobkffabaaG1
namespace Go.Proofs.Ytckmgbobkffabaa
open Go.ChangeShapes Go.WideShapes Go.ChangeAt Go.RowKit
set_option linter.unusedVariables false
set_option linter.unusedSimpArgs false

theorem party_cells {w : World} {g : Nat} {t : TypeId} {a b c d : Value} (h : w.heap[g]? = some (.cells #[a, b, c, d] t (0, 0))) :
  (w.cell? ⟨g, 0, none⟩ = some a ∧ w.cell? ⟨g, 1, none⟩ = some b ∧ w.cell? ⟨g, 2, none⟩ = some c ∧ w.cell? ⟨g, 3, none⟩ = some d) ∧
  (w.frozen? ⟨g, 0, none⟩ = false ∧ w.frozen? ⟨g, 1, none⟩ = false ∧ w.frozen? ⟨g, 2, none⟩ = false ∧ w.frozen? ⟨g, 3, none⟩ = false) :=
 ⟨⟨(block_cell h 0).trans rfl, (block_cell h 1).trans rfl, (block_cell h 2).trans rfl, (block_cell h 3).trans rfl⟩, block_frozen h 0, block_frozen h 1, block_frozen h 2, block_frozen h 3⟩
theorem party_put {w : World} {g : Nat} {t : TypeId} {a b c d : Value} (h : w.heap[g]? = some (.cells #[a, b, c, d] t (0, 0))) (p q r s : Value) :
  ((((w.setCell ⟨g, 0, none⟩ p).setCell ⟨g, 1, none⟩ q).setCell ⟨g, 2, none⟩ r).setCell ⟨g, 3, none⟩ s).heap[g]? = some (.cells #[p, q, r, s] t (0, 0)) := by
 have h1 := heap_setCell_same w g 0 _ _ p h
 have h2 := heap_setCell_same _ g 1 _ _ q h1
 have h3 := heap_setCell_same _ g 2 _ _ r h2
 exact heap_setCell_same _ g 3 _ _ s h3

set_option maxHeartbeats 4000000 in
set_option maxRecDepth 100000 in
theorem nextPairs_any {v v' : Value} {a b : Mac} (x y : Int) {w : World} (h : MacW w v a) (h' : MacW w v' b) (hz : ∀ z ∈ a.moves, Wmv z) (hz' : ∀ z ∈ b.moves, Wmv z) (hn : a.parts ≤ 10000000) (hn' : b.parts ≤ 10000000) :
  Calls Try.prog 22 #[v, v', .int .i64 x, .int .i64 y] w (MadeR w.heap.size (nextP a b x y) w) := by
 obtain ⟨p, np, cp, q, n, c, rfl⟩ := h.shape
 obtain ⟨p', np', cp', q', n', c', rfl⟩ := h'.shape
 obtain ⟨hB, hX, hY, hS⟩ := twice w #[.int .i64 a.st, .slice p np cp, .slice q n c] #[.int .i64 b.st, .slice p' np' cp', .slice q' n' c'] 27 27
 have HB := Lib.hid hB
 have HX := Lib.hid (three_cells hX)
 have HY := Lib.hid (three_cells hY)
 have HMA := Lib.hid h
 have HMB := Lib.hid h'
 have HZA := Lib.hid hz
 have HZB := Lib.hid hz'
 clear hB hX hY hS h h' hz hz'
 unfold MadeR
 go_enter Try.func22, Try.ntmps22
 obtain ⟨x0, x1, x2, -⟩ := HX.out
 obtain ⟨y0, y1, y2, -⟩ := HY.out
 go_wp2_with fail
 clear x0 x1 x2 y0 y1 y2
 generalize hW0 : ((w.alloc (.cells #[.int .i64 a.st, .slice p np cp, .slice q n c] 27)).alloc (.cells #[.int .i64 b.st, .slice p' np' cp', .slice q' n' c'] 27)) = W0 at *
 clear hW0
 refine wp_region_held_drew (S := fun w9 => Below W0.heap.size W0 w9) (by kernel_rfl) (Below.refl _ W0).drew (fun hHeld => ?_)
 refine wpAnyH_take (i := 0) (v := ?v1) (by simp only [get9]; rfl) (by kernel_rfl) (by kernel_rfl) (by kernel_rfl) (by exact fun _ _ _ h => h) (Or.inl ⟨by rfl, fun w9 hS9 => ?hy1⟩) hHeld ?rest1
 case hy1 =>
  dsimp only at hS9
  have q0 := cell_stay HX.out.1 hS9
  have q1 := cell_stay HX.out.2.1 hS9
  have q2 := cell_stay HX.out.2.2.1 hS9
  have q3 := cell_stay HY.out.1 hS9
  have q4 := cell_stay HY.out.2.1 hS9
  have q5 := cell_stay HY.out.2.2.1 hS9
  go_simp
  try with_reducible rfl
 try simp only [Act.put, set9]
 refine wpAnyH_take (i := 1) (v := ?v2) (by simp only [get9]; rfl) (by kernel_rfl) (by kernel_rfl) (by kernel_rfl) (by exact fun _ _ _ h => h) (Or.inl ⟨by rfl, fun w9 hS9 => ?hy2⟩) hHeld ?rest2
 case hy2 =>
  dsimp only at hS9
  have q0 := cell_stay HX.out.1 hS9
  have q1 := cell_stay HX.out.2.1 hS9
  have q2 := cell_stay HX.out.2.2.1 hS9
  have q3 := cell_stay HY.out.1 hS9
  have q4 := cell_stay HY.out.2.1 hS9
  have q5 := cell_stay HY.out.2.2.1 hS9
  go_simp
  try with_reducible rfl
 try simp only [Act.put, set9]
 refine wpAnyH_take (i := 2) (v := ?v3) (by simp only [get9]; rfl) (by kernel_rfl) (by kernel_rfl) (by kernel_rfl) (by exact fun _ _ _ h => h) (Or.inl ⟨by rfl, fun w9 hS9 => ?hy3⟩) hHeld ?rest3
 case hy3 =>
  dsimp only at hS9
  have q0 := cell_stay HX.out.1 hS9
  have q1 := cell_stay HX.out.2.1 hS9
  have q2 := cell_stay HX.out.2.2.1 hS9
  have q3 := cell_stay HY.out.1 hS9
  have q4 := cell_stay HY.out.2.1 hS9
  have q5 := cell_stay HY.out.2.2.1 hS9
  go_simp
  try with_reducible rfl
 try simp only [Act.put, set9]
 refine wpAnyH_take (i := 3) (v := ?v4) (by simp only [get9]; rfl) (by kernel_rfl) (by kernel_rfl) (by kernel_rfl) (by exact fun _ _ _ h => h) (Or.inl ⟨by rfl, fun w9 hS9 => ?hy4⟩) hHeld ?rest4
 case hy4 =>
  dsimp only at hS9
  have q0 := cell_stay HX.out.1 hS9
  have q1 := cell_stay HX.out.2.1 hS9
  have q2 := cell_stay HX.out.2.2.1 hS9
  have q3 := cell_stay HY.out.1 hS9
  have q4 := cell_stay HY.out.2.1 hS9
  have q5 := cell_stay HY.out.2.2.1 hS9
  go_simp
  try with_reducible rfl
 try simp only [Act.put, set9]
 refine wpAnyH_take (i := 4) (v := ?v5) (by simp only [get9]; rfl) (by kernel_rfl) (by kernel_rfl) (by kernel_rfl) (by exact fun _ _ _ h => h) (Or.inl ⟨by rfl, fun w9 hS9 => ?hy5⟩) hHeld ?rest5
 case hy5 =>
  dsimp only at hS9
  have q0 := cell_stay HX.out.1 hS9
  have q1 := cell_stay HX.out.2.1 hS9
  have q2 := cell_stay HX.out.2.2.1 hS9
  have q3 := cell_stay HY.out.1 hS9
  have q4 := cell_stay HY.out.2.1 hS9
  have q5 := cell_stay HY.out.2.2.1 hS9
  go_simp
  try with_reducible rfl
 try simp only [Act.put, set9]
 refine wpAnyH_take (i := 5) (v := ?v6) (by simp only [get9]; rfl) (by kernel_rfl) (by kernel_rfl) (by kernel_rfl) (by exact fun _ _ _ h => h) (Or.inl ⟨by rfl, fun w9 hS9 => ?hy6⟩) hHeld ?rest6
 case hy6 =>
  dsimp only at hS9
  have q0 := cell_stay HX.out.1 hS9
  have q1 := cell_stay HX.out.2.1 hS9
  have q2 := cell_stay HX.out.2.2.1 hS9
  have q3 := cell_stay HY.out.1 hS9
  have q4 := cell_stay HY.out.2.1 hS9
  have q5 := cell_stay HY.out.2.2.1 hS9
  go_simp
  try with_reducible rfl
 try simp only [Act.put, set9]
 refine wpAnyH_ready (rs := [6, 7]) (by kernel_rfl) (by simp) (AllReadyH.cons (by simp only [get9]; rfl) (fun K hK => ?_) (AllReadyH.cons (by simp only [get9]; rfl) (fun K hK => ?_) AllReadyH.nil))
 ·skip
  go_simp
  refine hK.out _ _ ((Below.refl _ W0).drew.alloc (Nat.le_refl _) _) (fun hHeld => ?_)
  clear hK K
  try simp only [Act.put, set9]
  refine wpAnyH_ready (rs := [7]) (by kernel_rfl) (by simp) (AllReadyH.cons (by simp only [get9]; rfl) (fun K hK => ?_) AllReadyH.nil)
  go_simp
  refine hK.out _ _ (((Below.refl _ W0).drew.alloc (Nat.le_refl _) _).alloc (by simp) _) (fun hHeld => ?_)
  clear hK K
  try simp only [Act.put, set9]
  refine wpAnyH_ready (rs := [8]) (by kernel_rfl) (by simp) (AllReadyH.cons (by simp only [get9]; rfl) (fun K hK => ?_) AllReadyH.nil)
  go_simp
  refine hK.out _ _ (((Below.refl _ W0).alloc (Nat.le_refl _) _).alloc (by simp) _).drew (fun hHeld => ?_)
  clear hK K
  try simp only [Act.put, set9]
  refine wpAnyH_ready (rs := [9]) (by kernel_rfl) (by simp) (AllReadyH.cons (by simp only [get9]; rfl) (fun K hK => ?_) AllReadyH.nil)
  go_simp
  refine hK.out _ _ (((Below.refl _ W0).alloc (Nat.le_refl _) _).alloc (by simp) _).drew (fun hHeld => ?_)
  clear hK K
  try simp only [Act.put, set9]
  refine wpAnyH_done (by kernel_rfl) ?_ _
  obtain ⟨hB9, hX9, hY9, hS9⟩ := twice W0 #[.int .i64 a.st, .slice p np cp, .slice q n c, .int .i64 x] #[.int .i64 b.st, .slice p' np' cp', .slice q' n' c', .int .i64 y] 73 73
  have HGA : Hid (((W0.alloc (.cells #[.int .i64 a.st, .slice p np cp, .slice q n c, .int .i64 x] 73)).alloc (.cells #[.int .i64 b.st, .slice p' np' cp', .slice q' n' c', .int .i64 y] 73)).drew.heap[W0.heap.size]? = some (.cells #[.int .i64 a.st, .slice p np cp, .slice q n c, .int .i64 x] 73 (0, 0))) := Lib.hid hX9
  have HGB : Hid (((W0.alloc (.cells #[.int .i64 a.st, .slice p np cp, .slice q n c, .int .i64 x] 73)).alloc (.cells #[.int .i64 b.st, .slice p' np' cp', .slice q' n' c', .int .i64 y] 73)).drew.heap[W0.heap.size + 1]? = some (.cells #[.int .i64 b.st, .slice p' np' cp', .slice q' n' c', .int .i64 y] 73 (0, 0))) := Lib.hid hY9
  have HBF : Hid (Below W0.heap.size W0 ((W0.alloc (.cells #[.int .i64 a.st, .slice p np cp, .slice q n c, .int .i64 x] 73)).alloc (.cells #[.int .i64 b.st, .slice p' np' cp', .slice q' n' c', .int .i64 y] 73)).drew) := Lib.hid hB9.drew
  clear hB9 hX9 hY9 hS9
  generalize hW4 : ((W0.alloc (.cells #[.int .i64 a.st, .slice p np cp, .slice q n c, .int .i64 x] 73)).alloc (.cells #[.int .i64 b.st, .slice p' np' cp', .slice q' n' c', .int .i64 y] 73)).drew = W4 at *
  clear hW4
  obtain ⟨GB, hG2⟩ : ∃ r, r = W0.heap.size + 1 := ⟨_, rfl⟩
  obtain ⟨GA, hG1⟩ : ∃ r, r = W0.heap.size := ⟨_, rfl⟩
  rw [← hG2, ← hG1]
  replace HGA : Hid (W4.heap[GA]? = some (.cells #[.int .i64 a.st, .slice p np cp, .slice q n c, .int .i64 x] 73 (0, 0))) := Lib.hid (by rw [hG1]; exact HGA.out)
  replace HGB : Hid (W4.heap[GB]? = some (.cells #[.int .i64 b.st, .slice p' np' cp', .slice q' n' c', .int .i64 y] 73 (0, 0))) := Lib.hid (by rw [hG2]; exact HGB.out)
  clear hG1 hG2
  have HBW : Hid (Below w.heap.size w W4) := Lib.hid (HB.out.trans (HBF.out.mono HB.out.size))
  have ha0 : GA < W4.heap.size := (Array.getElem?_eq_some_iff.1 HGA.out).1
  have hb0 : GB < W4.heap.size := (Array.getElem?_eq_some_iff.1 HGB.out).1
  have hge : w.heap.size ≤ W4.heap.size := HBW.out.size
  obtain ⟨hAA, _, hBX, hSS⟩ := twice W4 #[] #[.slice (some ⟨W4.heap.size, 0, none⟩) 0 0] 31 76
  have hNL := ((OwnRs.nil (w := W4) (B := W4.heap.size) (Nat.le_refl _)).same (alloc_same _ (.cells #[.slice (some ⟨W4.heap.size, 0, none⟩) 0 0] 76))).upper (S' := ((W4.alloc (.cells #[] 31)).alloc (.cells #[.slice (some ⟨W4.heap.size, 0, none⟩) 0 0] 76)).heap.size) (by simp) (Nat.le_refl _)
  have HBOX : Hid (BoxR (W4.heap.size + 1) [] ((W4.alloc (.cells #[] 31)).alloc (.cells #[.slice (some ⟨W4.heap.size, 0, none⟩) 0 0] 76)) W4.heap.size W4.heap.size 0 0 []) := Lib.hid ⟨hBX, hNL, by omega, by simp, by omega⟩
  have HAA := Lib.hid hAA
  clear hAA hBX hSS hNL HX HY
  obtain ⟨⟨a0, a1, a2, a3⟩, _⟩ := party_cells ((HAA.out.block GA ha0).trans HGA.out)
  obtain ⟨⟨b0, b1, b2, b3⟩, _⟩ := party_cells ((HAA.out.block GB hb0).trans HGB.out)
  go_wp2_with fail
  clear a0 a1 a2 a3 b0 b1 b2 b3
  generalize ((W4.alloc (.cells #[] 31)).alloc (.cells #[.slice (some ⟨W4.heap.size, 0, none⟩) 0 0] 76)) = W5 at *
  have HB5 : Hid (Below w.heap.size w W5) := Lib.hid (HBW.out.trans (HAA.out.mono HBW.out.size))
  have HE := eachAdd_any (s := x) (t := y) (HMA.out.same HB5.out) (HMB.out.same HB5.out) HZA.out HZB.out (by omega) (by omega) HBOX.out (by omega)
  rw [party_eq, party_eq] at HE
  refine HE.mono ?_
  rintro e w6 ⟨rfl, rs1, g1, n1, c1, hbx, hb⟩
  have hcn := hbx.rows.count
  have hdl := delivs_len a x b y
  have hpa : a.moves.length ≤ a.parts := by unfold Mac.parts; omega
  rw [List.nil_append] at hbx hcn
  have HBOX6 := Lib.hid hbx
  have HB6 : Hid (Below W4.heap.size W4 w6) := Lib.hid (HAA.out.trans hb)
  clear hbx hb HE
  obtain ⟨⟨a0, a1, a2, a3⟩, _⟩ := party_cells ((HB6.out.block GA ha0).trans HGA.out)
  obtain ⟨⟨b0, b1, b2, b3⟩, _⟩ := party_cells ((HB6.out.block GB hb0).trans HGB.out)
  go_wp2_with fail
  clear a0 a1 a2 a3 b0 b1 b2 b3
  have HBW6 : Hid (Below w.heap.size w w6) := Lib.hid (HBW.out.trans (HB6.out.mono HBW.out.size))
  have HE := eachTurned_any (s := y) (t := x) (HMB.out.same HBW6.out) (HMA.out.same HBW6.out) HZB.out HZA.out (by omega) (by omega) HBOX6.out (by omega)
  rw [party_eq, party_eq] at HE
  refine HE.mono ?_
  rintro e w7 ⟨rfl, rs2, g2, n2, c2, hbx, hb⟩
  have HBOX7 := Lib.hid hbx
  have HB7 : Hid (Below w.heap.size w w7) := Lib.hid (HBW6.out.trans (hb.mono hge))
  have z0 := (block_cell hbx.box 0).trans rfl
  clear hbx hb HE
  go_wp2_with fail
  go_ret
  exact ⟨_, _, _, rfl, ⟨rs2, HBOX7.out.rows.lower hge⟩, HB7.out⟩
 ·skip
  go_simp
  refine hK.out _ _ ((Below.refl _ W0).drew.alloc (Nat.le_refl _) _) (fun hHeld => ?_)
  clear hK K
  try simp only [Act.put, set9]
  refine wpAnyH_ready (rs := [6]) (by kernel_rfl) (by simp) (AllReadyH.cons (by simp only [get9]; rfl) (fun K hK => ?_) AllReadyH.nil)
  go_simp
  refine hK.out _ _ (((Below.refl _ W0).drew.alloc (Nat.le_refl _) _).alloc (by simp) _) (fun hHeld => ?_)
  clear hK K
  try simp only [Act.put, set9]
  refine wpAnyH_ready (rs := [8]) (by kernel_rfl) (by simp) (AllReadyH.cons (by simp only [get9]; rfl) (fun K hK => ?_) AllReadyH.nil)
  go_simp
  refine hK.out _ _ (((Below.refl _ W0).alloc (Nat.le_refl _) _).alloc (by simp) _).drew (fun hHeld => ?_)
  clear hK K
  try simp only [Act.put, set9]
  refine wpAnyH_ready (rs := [9]) (by kernel_rfl) (by simp) (AllReadyH.cons (by simp only [get9]; rfl) (fun K hK => ?_) AllReadyH.nil)
  go_simp
  refine hK.out _ _ (((Below.refl _ W0).alloc (Nat.le_refl _) _).alloc (by simp) _).drew (fun hHeld => ?_)
  clear hK K
  try simp only [Act.put, set9]
  refine wpAnyH_done (by kernel_rfl) ?_ _
  obtain ⟨hB9, hX9, hY9, hS9⟩ := twice W0 #[.int .i64 b.st, .slice p' np' cp', .slice q' n' c', .int .i64 y] #[.int .i64 a.st, .slice p np cp, .slice q n c, .int .i64 x] 73 73
  have HGB : Hid (((W0.alloc (.cells #[.int .i64 b.st, .slice p' np' cp', .slice q' n' c', .int .i64 y] 73)).alloc (.cells #[.int .i64 a.st, .slice p np cp, .slice q n c, .int .i64 x] 73)).drew.heap[W0.heap.size]? = some (.cells #[.int .i64 b.st, .slice p' np' cp', .slice q' n' c', .int .i64 y] 73 (0, 0))) := Lib.hid hX9
  have HGA : Hid (((W0.alloc (.cells #[.int .i64 b.st, .slice p' np' cp', .slice q' n' c', .int .i64 y] 73)).alloc (.cells #[.int .i64 a.st, .slice p np cp, .slice q n c, .int .i64 x] 73)).drew.heap[W0.heap.size + 1]? = some (.cells #[.int .i64 a.st, .slice p np cp, .slice q n c, .int .i64 x] 73 (0, 0))) := Lib.hid hY9
  have HBF : Hid (Below W0.heap.size W0 ((W0.alloc (.cells #[.int .i64 b.st, .slice p' np' cp', .slice q' n' c', .int .i64 y] 73)).alloc (.cells #[.int .i64 a.st, .slice p np cp, .slice q n c, .int .i64 x] 73)).drew) := Lib.hid hB9.drew
  clear hB9 hX9 hY9 hS9
  generalize hW4 : ((W0.alloc (.cells #[.int .i64 b.st, .slice p' np' cp', .slice q' n' c', .int .i64 y] 73)).alloc (.cells #[.int .i64 a.st, .slice p np cp, .slice q n c, .int .i64 x] 73)).drew = W4 at *
  clear hW4
  obtain ⟨GA, hG2⟩ : ∃ r, r = W0.heap.size + 1 := ⟨_, rfl⟩
  obtain ⟨GB, hG1⟩ : ∃ r, r = W0.heap.size := ⟨_, rfl⟩
  rw [← hG2, ← hG1]
  replace HGB : Hid (W4.heap[GB]? = some (.cells #[.int .i64 b.st, .slice p' np' cp', .slice q' n' c', .int .i64 y] 73 (0, 0))) := Lib.hid (by rw [hG1]; exact HGB.out)
  replace HGA : Hid (W4.heap[GA]? = some (.cells #[.int .i64 a.st, .slice p np cp, .slice q n c, .int .i64 x] 73 (0, 0))) := Lib.hid (by rw [hG2]; exact HGA.out)
  clear hG1 hG2
  have HBW : Hid (Below w.heap.size w W4) := Lib.hid (HB.out.trans (HBF.out.mono HB.out.size))
  have ha0 : GA < W4.heap.size := (Array.getElem?_eq_some_iff.1 HGA.out).1
  have hb0 : GB < W4.heap.size := (Array.getElem?_eq_some_iff.1 HGB.out).1
  have hge : w.heap.size ≤ W4.heap.size := HBW.out.size
  obtain ⟨hAA, _, hBX, hSS⟩ := twice W4 #[] #[.slice (some ⟨W4.heap.size, 0, none⟩) 0 0] 31 76
  have hNL := ((OwnRs.nil (w := W4) (B := W4.heap.size) (Nat.le_refl _)).same (alloc_same _ (.cells #[.slice (some ⟨W4.heap.size, 0, none⟩) 0 0] 76))).upper (S' := ((W4.alloc (.cells #[] 31)).alloc (.cells #[.slice (some ⟨W4.heap.size, 0, none⟩) 0 0] 76)).heap.size) (by simp) (Nat.le_refl _)
  have HBOX : Hid (BoxR (W4.heap.size + 1) [] ((W4.alloc (.cells #[] 31)).alloc (.cells #[.slice (some ⟨W4.heap.size, 0, none⟩) 0 0] 76)) W4.heap.size W4.heap.size 0 0 []) := Lib.hid ⟨hBX, hNL, by omega, by simp, by omega⟩
  have HAA := Lib.hid hAA
  clear hAA hBX hSS hNL HX HY
  obtain ⟨⟨a0, a1, a2, a3⟩, _⟩ := party_cells ((HAA.out.block GA ha0).trans HGA.out)
  obtain ⟨⟨b0, b1, b2, b3⟩, _⟩ := party_cells ((HAA.out.block GB hb0).trans HGB.out)
  go_wp2_with fail
  clear a0 a1 a2 a3 b0 b1 b2 b3
  generalize ((W4.alloc (.cells #[] 31)).alloc (.cells #[.slice (some ⟨W4.heap.size, 0, none⟩) 0 0] 76)) = W5 at *
  have HB5 : Hid (Below w.heap.size w W5) := Lib.hid (HBW.out.trans (HAA.out.mono HBW.out.size))
  have HE := eachAdd_any (s := x) (t := y) (HMA.out.same HB5.out) (HMB.out.same HB5.out) HZA.out HZB.out (by omega) (by omega) HBOX.out (by omega)
  rw [party_eq, party_eq] at HE
  refine HE.mono ?_
  rintro e w6 ⟨rfl, rs1, g1, n1, c1, hbx, hb⟩
  have hcn := hbx.rows.count
  have hdl := delivs_len a x b y
  have hpa : a.moves.length ≤ a.parts := by unfold Mac.parts; omega
  rw [List.nil_append] at hbx hcn
  have HBOX6 := Lib.hid hbx
  have HB6 : Hid (Below W4.heap.size W4 w6) := Lib.hid (HAA.out.trans hb)
  clear hbx hb HE
  obtain ⟨⟨a0, a1, a2, a3⟩, _⟩ := party_cells ((HB6.out.block GA ha0).trans HGA.out)
  obtain ⟨⟨b0, b1, b2, b3⟩, _⟩ := party_cells ((HB6.out.block GB hb0).trans HGB.out)
  go_wp2_with fail
  clear a0 a1 a2 a3 b0 b1 b2 b3
  have HBW6 : Hid (Below w.heap.size w w6) := Lib.hid (HBW.out.trans (HB6.out.mono HBW.out.size))
  have HE := eachTurned_any (s := y) (t := x) (HMB.out.same HBW6.out) (HMA.out.same HBW6.out) HZB.out HZA.out (by omega) (by omega) HBOX6.out (by omega)
  rw [party_eq, party_eq] at HE
  refine HE.mono ?_
  rintro e w7 ⟨rfl, rs2, g2, n2, c2, hbx, hb⟩
  have HBOX7 := Lib.hid hbx
  have HB7 : Hid (Below w.heap.size w w7) := Lib.hid (HBW6.out.trans (hb.mono hge))
  have z0 := (block_cell hbx.box 0).trans rfl
  clear hbx hb HE
  go_wp2_with fail
  go_ret
  exact ⟨_, _, _, rfl, ⟨rs2, HBOX7.out.rows.lower hge⟩, HB7.out⟩

end Go.Proofs.Ytckmgbobkffabaa
namespace Go.Proofs.Ytckmgbobkffabaa
open Go.ChangeShapes Go.WideShapes Go.ChangeAt Go.RowKit
set_option linter.unusedVariables false
set_option linter.unusedSimpArgs false

section
variable {P : Program}
/-- 'len(m)' at a step of a region that draws its order. -/
theorem step_len {H : Type} {w : World} {ops : Array Oper} {o : Oper} {a : Act} {K' : Act → World → Prop} {Q : Exit → Act → World → Prop} {E : Prop}
  (hg : o.guard = none) (m : Operand) (t : TypeId) (hop : o.op = Op.call { callee := Callee.builtin Builtin.len, args := #[m], argTypes := #[t] })
  (k e : TypeId) (ht : P.underlying t = some (.map k e)) (R : Value → Option (DataW H × List MemPlace)) (b n : Nat) (D : DataW H) (hm : a.eval m = .map (some b)) (hown : w.ownsMap P k R b n D)
  (hK : K' (a.put o.dst (.int .i64 (Maps.size D))) w) :
  if Region.wanted o (yielded ops a.tmps) = true then Oper.wp P o a w K' Q else E := by
 have hw : Region.wanted o (yielded ops a.tmps) = true := by simp [Region.wanted, hg]
 rw [if_pos hw]
 unfold Oper.wp
 simp [execOp, hop, resolve, invoke, builtin, hm, hown.len ht o.type, Result.andThen]
 exact hK
end
/-- Whether a map has as many entries as there are moves. -/
theorem size_distinct {l : List Mv} (h : Keyed2 l) : ((Maps.size (mr l.reverse) : Int) == (l.length : Int)) = decide (Distinct l) := by
 have h1 := mr_size l.reverse (fun x hx => h x (List.mem_reverse.1 hx))
 rw [List.length_reverse, List.pairwise_reverse] at h1
 have h2 : (List.Pairwise (fun a b => sameKey b a = false) l) ↔ Distinct l := by
  unfold Distinct
  have : (fun a b : Mv => sameKey b a = false) = fun a b => sameKey a b = false := by
   funext a b
   unfold sameKey
   have e : hitM b.frm b.send b.msg a = hitM a.frm a.send a.msg b := by
    rw [Bool.eq_iff_iff, hitM_iff, hitM_iff]
    exact ⟨fun ⟨p, q, r⟩ => ⟨p.symm, q.symm, r.symm⟩, fun ⟨p, q, r⟩ => ⟨p.symm, q.symm, r.symm⟩⟩
   rw [e]
  rw [this]
 rw [h2] at h1
 by_cases hd : Distinct l
 ·rw [decide_eq_true hd, h1.2 hd]; simp
 ·rw [decide_eq_false hd]
  have : ¬ Maps.size (mr l.reverse) = l.length := fun e => hd (h1.1 e)
  simp; omega
theorem take_all {p : Mv → Bool} {l : List Mv} {j : Nat} {x : Mv} (hx : l[j]? = some x) (h : (l.take j).all p = true) (hp : p x = true) : (l.take (j + 1)).all p = true := by
 rw [List.take_add_one, hx, List.all_append, h]
 simp [hp]

set_option maxHeartbeats 4000000 in
set_option maxRecDepth 100000 in
theorem isMachine_any {w : World} {v : Value} {x : Mac} (h : MacW w v x) : Calls Try.prog 18 #[v] w (Told (.bool (isMac x)) w) := by
 obtain ⟨a, n, c, q, m, d, rfl, h1, h2, h3, h4⟩ := h
 have e1 := h1.len
 have e2 := h2.len
 have HB : Hid (Below w.heap.size w (w.alloc (.cells #[.int .i64 x.st, .slice a n c, .slice q m d] 27))) := Lib.hid (alloc_same w _)
 have HX : Hid ((w.alloc (.cells #[.int .i64 x.st, .slice a n c, .slice q m d] 27)).heap[w.heap.size]? = some (.cells #[.int .i64 x.st, .slice a n c, .slice q m d] 27 (0, 0))) := Lib.hid (heap_alloc_new w (.cells #[.int .i64 x.st, .slice a n c, .slice q m d] 27 (0, 0)))
 have hsz : (w.alloc (.cells #[.int .i64 x.st, .slice a n c, .slice q m d] 27)).heap.size = w.heap.size + 1 := by simp
 have H2 := Lib.hid (h2.same HB.out)
 have HE := Lib.hid (And.intro e1 e2)
 have hn64 : (n : Int) ≤ 9223372036854775807 := by omega
 have hm64 : (m : Int) ≤ 9223372036854775807 := by omega
 clear h1 h2 h3 h4 e1 e2
 have HI := Lib.hid (inRange_told x.st 1 6)
 cases q0 : inB x.st 1 6 with
 | false =>
  have HR : Hid (isMac x = false) := Lib.hid (by simp [isMac, q0])
  unfold inB at q0
  rw [q0] at HI
  clear q0
  go_enter Try.func18, Try.ntmps18
  go_wp2_with fail
  generalize (w.alloc (.cells #[.int .i64 x.st, .slice a n c, .slice q m d] 27)) = W0 at *
  refine (HI.out _).mono ?_
  rintro e w1 ⟨rfl, hb⟩
  have HD1 := Lib.hid hb
  have HB1 := Lib.hid (HB.out.trans (hb.mono HB.out.size))
  obtain ⟨b0, b1, b2, _, _, _⟩ := three_cells ((hb.block w.heap.size (by omega)).trans HX.out)
  clear hb HI
  go_wp2_with fail
  go_ret
  exact ⟨by rw [HR.out]; try rfl, HB1.out⟩
 | true =>
  have hst : 1 ≤ x.st ∧ x.st ≤ 6 := by simpa [inB] using q0
  have HQ0 := Lib.hid q0
  unfold inB at q0
  rw [q0] at HI
  clear q0
  by_cases q1 : (n : Int) = x.st
  ·have f1 : ((n : Int) != x.st) = false := by simpa using q1
   by_cases q2 : m ≤ 12
   ·have f2 : decide ((m : Int) > 12) = false := by simp; omega
    have f3 : decide ((12 : Int) < (m : Int)) = false := by simp; omega
    have HQ : Hid (isMac x = (x.moves.all (goodM x) && decide (Distinct x.moves))) := Lib.hid (by simp [isMac, HQ0.out, HE.out.1, HE.out.2, q1, q2])
    clear q1
    go_enter Try.func18, Try.ntmps18
    go_wp2_with fail
    generalize (w.alloc (.cells #[.int .i64 x.st, .slice a n c, .slice q m d] 27)) = W0 at *
    refine (HI.out _).mono ?_
    rintro e w1 ⟨rfl, hb⟩
    have HD1 := Lib.hid hb
    have HB1 := Lib.hid (HB.out.trans (hb.mono HB.out.size))
    obtain ⟨b0, b1, b2, _, _, _⟩ := three_cells ((hb.block w.heap.size (by omega)).trans HX.out)
    clear hb HI
    have HX2 := Lib.hid (And.intro b0 (And.intro b1 b2))
    go_wp2_with fail
    clear f1 f2 f3 b0 b1 b2
    go_loopw [26] (fun i wr => ∃ j : Nat, j ≤ m ∧ i = .int .i64 j ∧ (x.moves.take j).all (goodM x) = true ∧ Below W0.heap.size W0 wr) (fun i _ => m - (intOf i).toNat)
    case atStart => exact ⟨0, Nat.zero_le _, rfl, by simp, HD1.out⟩
    case round =>
     obtain ⟨j, hj, rfl, hall, hb⟩ := hrel
     have HA := Lib.hid hall
     have HB9 := Lib.hid hb
     have hX1 := (hb.block w.heap.size (by omega)).trans HX.out
     obtain ⟨b0, b1, b2, _, _, _⟩ := three_cells hX1
     clear hall hb hX1
     by_cases hlt : j < m
     ·obtain ⟨y1, o1, z, rfl, hx, hc0, hc1, hc2, hc3⟩ := mvs_at (H2.out.same HB9.out) hlt
      have HXJ := Lib.hid hx
      have HM := Lib.hid (alloc_same wr (.cells #[.int .i64 z.frm, .bool z.send, .int .i64 z.msg, .int .i64 z.to] 63))
      have C := Lib.hid (four_at (heap_alloc_new wr (.cells #[.int .i64 z.frm, .bool z.send, .int .i64 z.msg, .int .i64 z.to] 63 (0, 0))))
      have a0 := cell_stay b0 HM.out
      have a1 := cell_stay b1 HM.out
      have a2 := cell_stay b2 HM.out
      have HBM : Hid (Below W0.heap.size W0 (wr.alloc (.cells #[.int .i64 z.frm, .bool z.send, .int .i64 z.msg, .int .i64 z.to] 63))) := Lib.hid (HB9.out.trans (HM.out.mono HB9.out.size))
      have HW := Lib.hid (isMoveWithin_any z x.st hst.1 hst.2 (wr.alloc (.cells #[.int .i64 z.frm, .bool z.send, .int .i64 z.msg, .int .i64 z.to] 63)))
      have HT := fun w' => hasOtherTurn_any z (a := some ⟨y1, o1, none⟩) (n := m) (c := d) (l := x.moves) (w := w')
      unfold Mv.val at HW HT
      have HT2 := Lib.hid HT
      clear hx HT
      cases q3 : okM x.st z with
      | false =>
       have HR : Hid (isMac x = false) := Lib.hid (by
        rw [HQ.out]
        have : x.moves.all (goodM x) = false := by
         rw [List.all_eq_false]
         exact ⟨z, List.mem_of_getElem? HXJ.out, by simp [goodM, q3]⟩
        rw [this]; rfl)
       rw [q3] at HW
       clear q3
       go_wp2_with fail
       clear hc0 hc1 hc2 hc3
       generalize (wr.alloc (.cells #[.int .i64 z.frm, .bool z.send, .int .i64 z.msg, .int .i64 z.to] 63)) = W2 at *
       refine HW.out.mono ?_
       rintro e w3 ⟨rfl, hb⟩
       have HB3 := Lib.hid (HBM.out.trans (hb.mono HBM.out.size))
       clear hb
       go_wp2_with fail
       go_ret
       exact ⟨by rw [HR.out]; try rfl, HB.out.trans (HB3.out.mono HB.out.size)⟩
      | true =>
       rw [q3] at HW
       cases q4 : hasOther x.moves z with
       | true =>
        have HR : Hid (isMac x = false) := Lib.hid (by
         rw [HQ.out]
         have : x.moves.all (goodM x) = false := by
          rw [List.all_eq_false]
          exact ⟨z, List.mem_of_getElem? HXJ.out, by simp [goodM, q4]⟩
         rw [this]; rfl)
        clear q3
        go_wp2_with fail
        clear hc0 hc1 hc2 hc3
        generalize (wr.alloc (.cells #[.int .i64 z.frm, .bool z.send, .int .i64 z.msg, .int .i64 z.to] 63)) = W2 at *
        refine HW.out.mono ?_
        rintro e w3 ⟨rfl, hb⟩
        have HB3 := Lib.hid (HBM.out.trans (hb.mono HBM.out.size))
        have c0 := cell_stay C.out.1 hb
        have c1 := cell_stay C.out.2.1 hb
        have c2 := cell_stay C.out.2.2.1 hb
        have c3 := cell_stay C.out.2.2.2 hb
        have k2 := cell_stay a2 hb
        have HT9 := Lib.hid (HT2.out w3 (H2.out.same HB3.out))
        clear hb
        go_wp2_with fail
        clear c0 c1 c2 c3 k2
        rw [q4] at HT9
        clear q4
        refine HT9.out.mono ?_
        rintro e w4 ⟨rfl, hb⟩
        have HB4 := Lib.hid (HB3.out.trans (hb.mono HB3.out.size))
        clear hb
        go_wp2_with fail
        go_ret
        exact ⟨by rw [HR.out]; try rfl, HB.out.trans (HB4.out.mono HB.out.size)⟩
       | false =>
        have HS := Lib.hid (take_all HXJ.out HA.out (by simp [goodM, q3, q4]))
        clear q3
        go_wp2_with fail
        clear hc0 hc1 hc2 hc3
        generalize (wr.alloc (.cells #[.int .i64 z.frm, .bool z.send, .int .i64 z.msg, .int .i64 z.to] 63)) = W2 at *
        refine HW.out.mono ?_
        rintro e w3 ⟨rfl, hb⟩
        have HB3 := Lib.hid (HBM.out.trans (hb.mono HBM.out.size))
        have c0 := cell_stay C.out.1 hb
        have c1 := cell_stay C.out.2.1 hb
        have c2 := cell_stay C.out.2.2.1 hb
        have c3 := cell_stay C.out.2.2.2 hb
        have k2 := cell_stay a2 hb
        have HT9 := Lib.hid (HT2.out w3 (H2.out.same HB3.out))
        clear hb
        go_wp2_with fail
        clear c0 c1 c2 c3 k2
        rw [q4] at HT9
        clear q4
        refine HT9.out.mono ?_
        rintro e w4 ⟨rfl, hb⟩
        have HB4 := Lib.hid (HB3.out.trans (hb.mono HB3.out.size))
        clear hb
        go_wp2_with fail
        go_roundw
        case rel => exact ⟨j + 1, by omega, by go_num, HS.out, HB4.out⟩
        case measure => simp [intOf]; omega
     ·obtain rfl : j = m := by omega
      have hall : x.moves.all (goodM x) = true := by
       have h1 := HA.out
       rwa [List.take_of_length_le (by rw [HE.out.2]; omega)] at h1
      have HK : Hid (Keyed2 x.moves) := Lib.hid (fun z hz => okM_wf hst.2 (by
       have := List.all_eq_true.1 hall z hz
       simp only [goodM, Bool.and_eq_true] at this
       exact this.1))
      have HR : Hid (isMac x = ((Maps.size (mr x.moves.reverse) : Int) == (j : Int))) := Lib.hid (by rw [HQ.out, hall, Bool.true_and, ← size_distinct HK.out, HE.out.2])
      have C := Lib.hid b2
      have HMB := Lib.hid (movesByKey_any (c := d) (H2.out.same (HB9.out.drew)) HK.out (by omega))
      clear hall b0 b1 b2
      go_wp2_with fail
      refine wp_region_held_drew (S := fun w9 => w9.cell? ⟨w.heap.size, 2, none⟩ = some (.slice q j d)) (by kernel_rfl) (cell_stay C.out (Below.refl _ wr).drew) (fun hHeld => ?_)
      refine wpAnyH_take (i := 0) (v := ?v1) (by simp only [get9]; rfl) (by kernel_rfl) (by kernel_rfl) (by kernel_rfl) (by exact fun _ _ _ h => h) (Or.inl ⟨by rfl, fun w9 hS9 => ?hy1⟩) hHeld ?rest1
      case hy1 =>
       dsimp only at hS9
       skip
       go_simp
       try with_reducible rfl
      try simp only [Act.put, set9]
      refine wpAnyH_take (i := 1) (v := ?v2) (by simp only [get9]; rfl) (by kernel_rfl) (by kernel_rfl) (by kernel_rfl) (by exact fun _ _ _ h => h) (Or.inl ⟨by rfl, fun w9 hS9 => ?hy2⟩) hHeld ?rest2
      case hy2 =>
       dsimp only at hS9
       skip
       go_simp
       try with_reducible rfl
      try simp only [Act.put, set9]
      refine wpAnyH_take (i := 4) (v := ?v3) (by simp only [get9]; rfl) (by kernel_rfl) (by kernel_rfl) (by kernel_rfl) (by exact fun _ _ _ h => h) (Or.inl ⟨by rfl, fun w9 hS9 => ?hy3⟩) hHeld ?rest3
      case hy3 =>
       dsimp only at hS9
       skip
       go_simp
       try with_reducible rfl
      try simp only [Act.put, set9]
      refine wpAnyH_take (i := 5) (v := ?v4) (by simp only [get9]; rfl) (by kernel_rfl) (by kernel_rfl) (by kernel_rfl) (by exact fun _ _ _ h => h) (Or.inl ⟨by rfl, fun w9 hS9 => ?hy4⟩) hHeld ?rest4
      case hy4 =>
       dsimp only at hS9
       skip
       go_simp
       try with_reducible rfl
      try simp only [Act.put, set9]
      refine wpAnyH_take (i := 6) (v := ?v5) (by simp only [get9]; rfl) (by kernel_rfl) (by kernel_rfl) (by kernel_rfl) (by exact fun _ _ _ h => h) (Or.inl ⟨by rfl, fun w9 hS9 => ?hy5⟩) hHeld ?rest5
      case hy5 =>
       dsimp only at hS9
       skip
       go_simp
       try with_reducible rfl
      try simp only [Act.put, set9]
      refine wpAnyH_ready (rs := [2]) (by kernel_rfl) (by simp) (AllReadyH.cons (by simp only [get9]; rfl) (fun K hK => ?_) AllReadyH.nil)
      go_simp
      refine HMB.out.mono ?_
      rintro e w5 ⟨rfl, hm, hb⟩
      have HM5 := Lib.hid hm
      have HB5 : Hid (Below wr.heap.size wr w5) := Lib.hid ((Below.refl _ wr).drew.trans hb)
      clear hm hb
      go_wp2_with fail
      refine hK.out _ _ (cell_stay C.out HB5.out) (fun hHeld => ?_)
      clear hK K
      try simp only [Act.put, set9]
      refine wpAnyH_ready (rs := [3]) (by kernel_rfl) (by simp) (AllReadyH.cons (by simp only [get9]; rfl) (fun K hK => ?_) AllReadyH.nil)
      refine step_len (by rfl) (.tmp 44) 66 (by rfl) 103 63 Try.underlying66 heldR _ _ _ (by rfl) HM5.out ?_
      refine hK.out _ _ (cell_stay C.out HB5.out) (fun hHeld => ?_)
      clear hK K
      try simp only [Act.put, set9]
      refine wpAnyH_take (i := 7) (v := ?v6) (by simp only [get9]; rfl) (by kernel_rfl) (by kernel_rfl) (by kernel_rfl) (by exact fun _ _ _ h => h) (Or.inl ⟨by rfl, fun w9 hS9 => ?hy6⟩) hHeld ?rest6
      case hy6 =>
       dsimp only at hS9
       skip
       go_simp
       try with_reducible rfl
      try simp only [Act.put, set9]
      refine wpAnyH_take (i := 8) (v := ?v7) (by simp only [get9]; rfl) (by kernel_rfl) (by kernel_rfl) (by kernel_rfl) (by exact fun _ _ _ h => h) (Or.inl ⟨by rfl, fun w9 hS9 => ?hy7⟩) hHeld ?rest7
      case hy7 =>
       dsimp only at hS9
       skip
       go_simp
       try with_reducible rfl
      try simp only [Act.put, set9]
      refine wpAnyH_done (by kernel_rfl) ?_ _
      go_wp2_with fail
      go_ret
      exact ⟨by rw [HR.out]; try rfl, HB.out.trans ((HB9.out.trans (HB5.out.mono HB9.out.size)).mono HB.out.size)⟩
   ·have f1 : decide ((m : Int) > 12) = true := by simp; omega
    have f2 : decide ((12 : Int) < (m : Int)) = true := by simp; omega
    have f0 : ((n : Int) != x.st) = false := by simpa using q1
    have HR : Hid (isMac x = false) := Lib.hid (by
     have : decide (x.moves.length ≤ 12) = false := by rw [HE.out.2]; simpa using q2
     simp [isMac, this])
    clear q1 q2
    go_enter Try.func18, Try.ntmps18
    go_wp2_with fail
    generalize (w.alloc (.cells #[.int .i64 x.st, .slice a n c, .slice q m d] 27)) = W0 at *
    refine (HI.out _).mono ?_
    rintro e w1 ⟨rfl, hb⟩
    have HD1 := Lib.hid hb
    have HB1 := Lib.hid (HB.out.trans (hb.mono HB.out.size))
    obtain ⟨b0, b1, b2, _, _, _⟩ := three_cells ((hb.block w.heap.size (by omega)).trans HX.out)
    clear hb HI
    go_wp2_with fail
    go_ret
    exact ⟨by rw [HR.out]; try rfl, HB1.out⟩
  ·have f0 : ((n : Int) != x.st) = true := by simpa using q1
   have HR : Hid (isMac x = false) := Lib.hid (by
    have : decide ((x.ends.length : Int) = x.st) = false := by rw [HE.out.1]; simpa using q1
    simp [isMac, this])
   clear q1
   go_enter Try.func18, Try.ntmps18
   go_wp2_with fail
   generalize (w.alloc (.cells #[.int .i64 x.st, .slice a n c, .slice q m d] 27)) = W0 at *
   refine (HI.out _).mono ?_
   rintro e w1 ⟨rfl, hb⟩
   have HD1 := Lib.hid hb
   have HB1 := Lib.hid (HB.out.trans (hb.mono HB.out.size))
   obtain ⟨b0, b1, b2, _, _, _⟩ := three_cells ((hb.block w.heap.size (by omega)).trans HX.out)
   clear hb HI
   go_wp2_with fail
   go_ret
   exact ⟨by rw [HR.out]; try rfl, HB1.out⟩
end Go.Proofs.Ytckmgbobkffabaa
