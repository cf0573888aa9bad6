/- The helpers of the exact laws at hellos and answers: counted, copied, compared. Lists of lists of integers: what a walk is told of one that is read, and of one that the call itself has made, row by row. No function of the program is spoken of. The mathematics of transcripts: lists of messages, each a list of bytes; their hash, and what each side makes of it. No function of the program is spoken of. Edits: a kind and a number; their two cells. No function of the program is spoken of. -/
import Derived.Test.YtcmjadfpifpknaaG14
import Derived.Test.YtcmjadfpifpknaaG9
import Derived.Test.YtcmjadfpifpknaaG5
import Derived.Test.YtcmjadfpifpknaaG10
import Derived.Test.YtcmjadfpifpknaaG6
import Derived.Test.YtcmjadfpifpknaaG11
import Derived.Test.YtcmjadfpifpknaaG1
namespace Go.Proofs.Ytcmjadfpifpknaa
open Go.ChangeShapes Go.WideShapes Go.ChangeAt Go.RowKit
set_option linter.unusedVariables false
set_option linter.unusedSimpArgs false

theorem leftOf_yes {left : Int} {n : Nat} (h : (n : Int) ≤ left) : leftOf left n = left - n := if_pos h
theorem leftOf_no {left : Int} {n : Nat} (h : ¬ (n : Int) ≤ left) : leftOf left n = -1 := if_neg h
theorem threeH (w : World) (A B C : Array Value) (t1 t2 t3 : TypeId) :
    w.heap.size + 3 = (((w.alloc (.cells A t1)).alloc (.cells B t2)).alloc (.cells C t3)).heap.size ∧
    (((w.alloc (.cells A t1)).alloc (.cells B t2)).alloc (.cells C t3)).heap[w.heap.size]? = some (.cells A t1 (0, 0)) ∧
    (((w.alloc (.cells A t1)).alloc (.cells B t2)).alloc (.cells C t3)).heap[w.heap.size + 1]? = some (.cells B t2 (0, 0)) ∧
    (((w.alloc (.cells A t1)).alloc (.cells B t2)).alloc (.cells C t3)).heap[w.heap.size + 2]? = some (.cells C t3 (0, 0)) ∧
    Below w.heap.size w (((w.alloc (.cells A t1)).alloc (.cells B t2)).alloc (.cells C t3)) := by
  obtain ⟨h1, h2, h3, h4⟩ := two w A B t1 t2
  refine ⟨by simp, ?_, ?_, ?_, h4.alloc (by omega) _⟩
  · rw [Below.heap_alloc _ _ _ (by omega)]; exact h2
  · rw [Below.heap_alloc _ _ _ (by omega)]; exact h3
  · have := heap_alloc_new ((w.alloc (.cells A t1)).alloc (.cells B t2)) (.cells C t3)
    rw [← h1] at this
    exact this
theorem set1_inside (w : World) (g o : Nat) (u : Value) : Inside g (g + 1) w (w.setCell ⟨g, o, none⟩ u) :=
  Inside.row (lo := g) (hi := g + 1) (set_grown w g o u) (fun r e => by cases e; exact ⟨Nat.le_refl _, Nat.lt_succ_self _⟩)
theorem setPair_inside (w : World) (g : Nat) (u v : Value) : Inside g (g + 1) w ((w.setCell ⟨g, 0, none⟩ u).setCell ⟨g, 1, none⟩ v) := (set1_inside w g 0 u).trans (set1_inside _ g 1 v)
set_option maxHeartbeats 1000000 in
set_option maxRecDepth 100000 in
theorem szHello_yes {w : World} {v : Value} {x : Hel} (left : Int) (h : HelW w v x) (hle : (x.parts : Int) ≤ left) (hl : left ≤ 1048576) :
    Calls Try.prog 6 #[v, .int .i64 left] w (Told (.int .i64 (left - (x.parts : Int))) w) := by
  obtain ⟨va, vn, vc, xa, xn, xc, rfl, g1, g2, g3⟩ := h
  have e1 := g1.len
  have f1 := g1.fits
  have e2 := g2.len
  unfold Hel.parts at hle ⊢
  rw [e1, e2] at hle ⊢
  have HB := Lib.hid (alloc_same w (.cells #[.slice va vn vc, .slice xa xn xc] 25))
  have hC := heap_alloc_new w (.cells #[.slice va vn vc, .slice xa xn xc] 25 (0, 0))
  change (w.alloc (.cells #[.slice va vn vc, .slice xa xn xc] 25)).heap[w.heap.size]? = _ at hC
  have hlt : w.heap.size < (w.alloc (.cells #[.slice va vn vc, .slice xa xn xc] 25)).heap.size := by simp
  have KI := Lib.hid (szIntS_any va vn vc left (w.alloc (.cells #[.slice va vn vc, .slice xa xn xc] 25)) f1 (by omega) hl)
  rw [leftOf_yes (by omega)] at KI
  have KE := Lib.hid (fun w0 (hb : Below w.heap.size w w0) => szExtS_yes xa xn xc x.exts (left - vn) w0 (g2.same hb) (by omega) (by omega))
  rw [show left - ((vn + (xn + itemsOf x.exts) : Nat) : Int) = left - vn - xn - itemsOf x.exts by omega]
  have hn1 : (0 : Int) ≤ left - vn := by omega
  have hn2 : (0 : Int) ≤ left - vn - xn - itemsOf x.exts := by omega
  clear g1 g2 g3 e1 e2 f1
  go_enter Try.func6, Try.ntmps6
  go_wp2_with fail
  generalize w.alloc (.cells #[.slice va vn vc, .slice xa xn xc] 25) = W0 at *
  refine KI.out.mono ?_
  rintro e w1 ⟨rfl, rfl⟩
  obtain ⟨c0, c1, _, _⟩ := two_cells hC
  clear hC
  go_wp2_with fail
  refine (KE.out _ HB.out).mono ?_
  rintro e w2 ⟨rfl, hb⟩
  have HB2 := Lib.hid (HB.out.trans (hb.mono HB.out.size))
  clear hb c0 c1
  go_wp2_with fail
  go_ret
  exact ⟨rfl, HB2.out⟩
set_option maxHeartbeats 1000000 in
set_option maxRecDepth 100000 in
theorem szHello_no {w : World} {v : Value} {x : Hel} (left : Int) (h : HelW w v x) (hlt0 : left < (x.parts : Int)) (h0 : 0 ≤ left) (hl : left ≤ 1048576) :
    Calls Try.prog 6 #[v, .int .i64 left] w (Told (.int .i64 (-1)) w) := by
  obtain ⟨va, vn, vc, xa, xn, xc, rfl, g1, g2, g3⟩ := h
  have e1 := g1.len
  have f1 := g1.fits
  have e2 := g2.len
  unfold Hel.parts at hlt0
  rw [e1, e2] at hlt0
  have HB := Lib.hid (alloc_same w (.cells #[.slice va vn vc, .slice xa xn xc] 25))
  have hC := heap_alloc_new w (.cells #[.slice va vn vc, .slice xa xn xc] 25 (0, 0))
  change (w.alloc (.cells #[.slice va vn vc, .slice xa xn xc] 25)).heap[w.heap.size]? = _ at hC
  have hlt : w.heap.size < (w.alloc (.cells #[.slice va vn vc, .slice xa xn xc] 25)).heap.size := by simp
  have KI := Lib.hid (szIntS_any va vn vc left (w.alloc (.cells #[.slice va vn vc, .slice xa xn xc] 25)) f1 h0 hl)
  by_cases hv : (vn : Int) ≤ left
  · rw [leftOf_yes hv] at KI
    have KE := Lib.hid (fun w0 (hb : Below w.heap.size w w0) => szExtS_no xa xn xc x.exts (left - vn) w0 (g2.same hb) (by omega) (by omega) (by omega))
    have hn1 : (0 : Int) ≤ left - vn := by omega
    clear g1 g2 g3 e1 e2 f1
    go_enter Try.func6, Try.ntmps6
    go_wp2_with fail
    generalize w.alloc (.cells #[.slice va vn vc, .slice xa xn xc] 25) = W0 at *
    refine KI.out.mono ?_
    rintro e w1 ⟨rfl, rfl⟩
    obtain ⟨c0, c1, _, _⟩ := two_cells hC
    clear hC
    go_wp2_with fail
    refine (KE.out _ HB.out).mono ?_
    rintro e w2 ⟨rfl, hb⟩
    have HB2 := Lib.hid (HB.out.trans (hb.mono HB.out.size))
    clear hb c0 c1
    go_wp2_with fail
    go_ret
    exact ⟨rfl, HB2.out⟩
  · rw [leftOf_no hv] at KI
    clear g1 g2 g3 e1 e2 f1
    go_enter Try.func6, Try.ntmps6
    go_wp2_with fail
    generalize w.alloc (.cells #[.slice va vn vc, .slice xa xn xc] 25) = W0 at *
    refine KI.out.mono ?_
    rintro e w1 ⟨rfl, rfl⟩
    clear hC
    go_wp2_with fail
    go_ret
    exact ⟨rfl, HB.out⟩
set_option maxHeartbeats 1000000 in
set_option maxRecDepth 100000 in
theorem szAnswer_yes {w : World} {v : Value} {x : Ans} (left : Int) (h : AnsW w v x) (hle : (x.parts : Int) ≤ left) (hl : left ≤ 1048576) :
    Calls Try.prog 14 #[v, .int .i64 left] w (Told (.int .i64 (left - (x.parts : Int))) w) := by
  obtain ⟨xa, xn, xc, rfl, g2, g3⟩ := h
  have e2 := g2.len
  unfold Ans.parts at hle ⊢
  rw [e2] at hle ⊢
  have HB := Lib.hid (alloc_same w (.cells #[.int .i64 x.ver, .slice xa xn xc] 40))
  have hC := heap_alloc_new w (.cells #[.int .i64 x.ver, .slice xa xn xc] 40 (0, 0))
  change (w.alloc (.cells #[.int .i64 x.ver, .slice xa xn xc] 40)).heap[w.heap.size]? = _ at hC
  have hlt : w.heap.size < (w.alloc (.cells #[.int .i64 x.ver, .slice xa xn xc] 40)).heap.size := by simp
  have KE := Lib.hid (fun w0 (hb : Below w.heap.size w w0) => szExtS_yes xa xn xc x.exts left w0 (g2.same hb) hl (by omega))
  rw [show left - ((xn + itemsOf x.exts : Nat) : Int) = left - xn - itemsOf x.exts by omega]
  have hn2 : (0 : Int) ≤ left - xn - itemsOf x.exts := by omega
  clear g2 g3 e2 hC
  go_enter Try.func14, Try.ntmps14
  go_wp2_with fail
  generalize w.alloc (.cells #[.int .i64 x.ver, .slice xa xn xc] 40) = W0 at *
  refine (KE.out _ HB.out).mono ?_
  rintro e w2 ⟨rfl, hb⟩
  have HB2 := Lib.hid (HB.out.trans (hb.mono HB.out.size))
  clear hb
  go_wp2_with fail
  go_ret
  exact ⟨rfl, HB2.out⟩
set_option maxHeartbeats 1000000 in
set_option maxRecDepth 100000 in
theorem szAnswer_no {w : World} {v : Value} {x : Ans} (left : Int) (h : AnsW w v x) (hlt0 : left < (x.parts : Int)) (h0 : 0 ≤ left) (hl : left ≤ 1048576) :
    Calls Try.prog 14 #[v, .int .i64 left] w (Told (.int .i64 (-1)) w) := by
  obtain ⟨xa, xn, xc, rfl, g2, g3⟩ := h
  have e2 := g2.len
  unfold Ans.parts at hlt0
  rw [e2] at hlt0
  have HB := Lib.hid (alloc_same w (.cells #[.int .i64 x.ver, .slice xa xn xc] 40))
  have hC := heap_alloc_new w (.cells #[.int .i64 x.ver, .slice xa xn xc] 40 (0, 0))
  change (w.alloc (.cells #[.int .i64 x.ver, .slice xa xn xc] 40)).heap[w.heap.size]? = _ at hC
  have hlt : w.heap.size < (w.alloc (.cells #[.int .i64 x.ver, .slice xa xn xc] 40)).heap.size := by simp
  have KE := Lib.hid (fun w0 (hb : Below w.heap.size w w0) => szExtS_no xa xn xc x.exts left w0 (g2.same hb) h0 hl (by omega))
  clear g2 g3 e2 hC
  go_enter Try.func14, Try.ntmps14
  go_wp2_with fail
  generalize w.alloc (.cells #[.int .i64 x.ver, .slice xa xn xc] 40) = W0 at *
  refine (KE.out _ HB.out).mono ?_
  rintro e w2 ⟨rfl, hb⟩
  have HB2 := Lib.hid (HB.out.trans (hb.mono HB.out.size))
  clear hb
  go_wp2_with fail
  go_ret
  exact ⟨rfl, HB2.out⟩
set_option maxHeartbeats 4000000 in
set_option maxRecDepth 100000 in
theorem toHello_any {w : World} {v : Value} {x : Hel} (h : HelW w v x) (hn : x.parts ≤ 1048576000) : Calls Try.prog 8 #[v] w (MadeHel w.heap.size x w) := by
  obtain ⟨va, vn, vc, xa, xn, xc, rfl, g1, g2, g3⟩ := h
  have e1 := g1.len
  have e2 := g2.len
  unfold Hel.parts at hn
  rw [e1, e2] at hn
  obtain ⟨hsz, hA, hM, hL, hb0⟩ := threeH w #[.slice va vn vc, .slice xa xn xc] #[.slice none 0 0, .slice none 0 0] #[.slice none 0 0, .slice none 0 0] 25 31 31
  have HB := Lib.hid hb0
  have G := Lib.hid (And.intro g1 g2)
  have KI := Lib.hid (toIntS_any va vn vc x.vers (((w.alloc (.cells #[.slice va vn vc, .slice xa xn xc] 25)).alloc (.cells #[.slice none 0 0, .slice none 0 0] 31)).alloc (.cells #[.slice none 0 0, .slice none 0 0] 31)) (g1.same hb0) (by omega))
  clear g1 g2 g3 hb0 e1 e2
  go_enter Try.func8, Try.ntmps8
  go_wp2_with fail
  generalize (((w.alloc (.cells #[.slice va vn vc, .slice xa xn xc] 25)).alloc (.cells #[.slice none 0 0, .slice none 0 0] 31)).alloc (.cells #[.slice none 0 0, .slice none 0 0] 31)) = W0 at *
  refine KI.out.mono ?_
  rintro e w1 ⟨q, k, r, rfl, ho, hb⟩
  have HBa := Lib.hid (HB.out.trans (hb.mono HB.out.size))
  have hA1 := (hb.block w.heap.size (by omega)).trans hA
  have hM1 := (hb.block (w.heap.size + 1) (by omega)).trans hM
  have hL1 := (hb.block (w.heap.size + 2) (by omega)).trans hL
  have hs1 := hb.size
  obtain ⟨m0, m1, q0, q1⟩ := two_cells hL1
  obtain ⟨W1, hW1⟩ : ∃ W1, W1 = w1.setCell ⟨w.heap.size + 2, 0, none⟩ (.slice q k r) := ⟨_, rfl⟩
  have hin1 : Inside (w.heap.size + 2) (w.heap.size + 3) w1 W1 := by rw [hW1]; exact set1_inside _ _ _ _
  have hsW : W1.heap.size = w1.heap.size := by rw [hW1]; exact World.size_setCell _ _ _
  have hL2 : W1.heap[w.heap.size + 2]? = some (.cells #[.slice q k r, .slice none 0 0] 31 (0, 0)) := by
    rw [hW1]; exact heap_setCell_same w1 (w.heap.size + 2) 0 _ _ (.slice q k r) hL1
  have hA2 := (hin1.block w.heap.size (by omega) (Or.inl (by omega))).trans hA1
  have hM2 := (hin1.block (w.heap.size + 1) (by omega) (Or.inl (by omega))).trans hM1
  have HO1 := Lib.hid (ho.aside hin1 ho.span (Or.inl (by omega)))
  have HS1 := Lib.hid ho.span
  have HB1 := Lib.hid (hin1.to HBa.out (by omega) HBa.out.size)
  have KE := Lib.hid (toExtS_any xa xn xc x.exts W1 (G.out.2.same HB1.out) (by omega))
  have hA1' := (block_cell hA2 1).trans rfl
  have HM2 := Lib.hid hM2
  have HL2 := Lib.hid hL2
  have hle1 : w.heap.size + 3 ≤ W1.heap.size := by omega
  have hle0 : W0.heap.size ≤ W1.heap.size := by omega
  have HEQ := Lib.hid (And.intro hsz (And.intro hs1 hsW))
  clear hA hM hL hA1 hM1 hL1 hA2 hM2 hL2 ho hb KI hin1
  rw [hW1] at hA1'
  go_wp2_with fail
  rw [← hW1]
  clear hA1' m0 m1 q0 q1 hW1 hsz hs1 hsW
  refine KE.out.mono ?_
  rintro e w2 ⟨p, u, y, rfl, ho, hb⟩
  have HBb := Lib.hid (HB1.out.trans (hb.mono HB1.out.size))
  have hM3 := (hb.block (w.heap.size + 1) (by omega)).trans HM2.out
  have hL3 := (hb.block (w.heap.size + 2) (by omega)).trans HL2.out
  have hs2 := hb.size
  have hsW1 := HEQ.out.2.2
  have HH2 := Lib.hid (own_hel (B := W0.heap.size) (S := w2.heap.size) (HO1.out.same hb) ho.lim HS1.out (Nat.le_refl _) hle0 (by omega) (Nat.le_refl _) (Or.inl (Nat.le_of_eq hsW1.symm)) (Nat.le_refl _))
  obtain ⟨m0, m1, q0, q1⟩ := two_cells hL3
  obtain ⟨W2, hW2⟩ : ∃ W2, W2 = w2.setCell ⟨w.heap.size + 2, 1, none⟩ (.slice p u y) := ⟨_, rfl⟩
  have hin2 : Inside (w.heap.size + 2) (w.heap.size + 3) w2 W2 := by rw [hW2]; exact set1_inside _ _ _ _
  have hsW2 : W2.heap.size = w2.heap.size := by rw [hW2]; exact World.size_setCell _ _ _
  have hL4 : W2.heap[w.heap.size + 2]? = some (.cells #[.slice q k r, .slice p u y] 31 (0, 0)) := by
    rw [hW2]; exact heap_setCell_same w2 (w.heap.size + 2) 1 _ _ (.slice p u y) hL3
  have hM4 := (hin2.block (w.heap.size + 1) (by omega) (Or.inl (by omega))).trans hM3
  have HB2 := Lib.hid (hin2.to HBb.out (by omega) HBb.out.size)
  have HH3 := Lib.hid (HH2.out.aside hin2 (Or.inl (by have := HEQ.out.1; omega)))
  have HEQ2 := Lib.hid (And.intro hsW2 hs2)
  obtain ⟨l0, l1, _, _⟩ := two_cells hL4
  obtain ⟨n0, n1, r0, r1⟩ := two_cells hM4
  obtain ⟨z0, z1, hZ⟩ := two_put hM4 (.slice q k r) (.slice p u y)
  clear hM3 hL3 hL4 hM4 hZ ho hb KE hin2 hs2 hsW1
  rw [hW2] at l0 l1 n0 n1 r0 r1 z0 z1
  go_wp2_with fail
  (try simp only [Exit.inBlock, Exit.then])
  refine bodyPost_ret (by simp [results, Try.results8, go_sem, z0, z1]; try rfl) rfl ?_
  rw [← hW2]
  have hfin := (HH3.out.aside (setPair_inside W2 (w.heap.size + 1) (.slice q k r) (.slice p u y)) (Or.inl (by have := HEQ.out.1; omega))).lower (B' := w.heap.size) (by have := HEQ.out.1; omega)
  have hfs : ((W2.setCell ⟨w.heap.size + 1, 0, none⟩ (.slice q k r)).setCell ⟨w.heap.size + 1, 1, none⟩ (.slice p u y)).heap.size = w2.heap.size := by rw [World.size_setCell, World.size_setCell]; exact HEQ2.out.1
  exact ⟨_, rfl, by rw [hfs]; exact hfin, (HB2.out.setCell (Nat.le_succ _) _).setCell (Nat.le_succ _) _⟩
set_option maxHeartbeats 4000000 in
set_option maxRecDepth 100000 in
theorem toAnswer_any {w : World} {v : Value} {x : Ans} (h : AnsW w v x) (hn : x.parts ≤ 1048576000) : Calls Try.prog 16 #[v] w (MadeAns w.heap.size x w) := by
  obtain ⟨xa, xn, xc, rfl, g2, g3⟩ := h
  have e2 := g2.len
  unfold Ans.parts at hn
  rw [e2] at hn
  obtain ⟨hsz, hA, hM, hL, hb0⟩ := threeH w #[.int .i64 x.ver, .slice xa xn xc] #[.int .i64 0, .slice none 0 0] #[.int .i64 x.ver, .slice none 0 0] 40 43 43
  have HB := Lib.hid hb0
  have KE := Lib.hid (toExtS_any xa xn xc x.exts (((w.alloc (.cells #[.int .i64 x.ver, .slice xa xn xc] 40)).alloc (.cells #[.int .i64 0, .slice none 0 0] 43)).alloc (.cells #[.int .i64 x.ver, .slice none 0 0] 43)) (g2.same hb0) (by omega))
  clear g2 g3 hb0 e2
  go_enter Try.func16, Try.ntmps16
  go_wp2_with fail
  generalize (((w.alloc (.cells #[.int .i64 x.ver, .slice xa xn xc] 40)).alloc (.cells #[.int .i64 0, .slice none 0 0] 43)).alloc (.cells #[.int .i64 x.ver, .slice none 0 0] 43)) = W0 at *
  refine KE.out.mono ?_
  rintro e w2 ⟨p, u, y, rfl, ho, hb⟩
  have HBb := Lib.hid (HB.out.trans (hb.mono HB.out.size))
  have hM3 := (hb.block (w.heap.size + 1) (by omega)).trans hM
  have hL3 := (hb.block (w.heap.size + 2) (by omega)).trans hL
  have hs2 := hb.size
  have HH2 := Lib.hid (own_ans (B := W0.heap.size) (S := w2.heap.size) (k := x.ver) ho.lim (Nat.le_refl _) (Nat.le_refl _) (Nat.le_refl _))
  obtain ⟨m0, m1, q0, q1⟩ := two_cells hL3
  obtain ⟨W2, hW2⟩ : ∃ W2, W2 = w2.setCell ⟨w.heap.size + 2, 1, none⟩ (.slice p u y) := ⟨_, rfl⟩
  have hin2 : Inside (w.heap.size + 2) (w.heap.size + 3) w2 W2 := by rw [hW2]; exact set1_inside _ _ _ _
  have hsW2 : W2.heap.size = w2.heap.size := by rw [hW2]; exact World.size_setCell _ _ _
  have hL4 : W2.heap[w.heap.size + 2]? = some (.cells #[.int .i64 x.ver, .slice p u y] 43 (0, 0)) := by
    rw [hW2]; exact heap_setCell_same w2 (w.heap.size + 2) 1 _ _ (.slice p u y) hL3
  have hM4 := (hin2.block (w.heap.size + 1) (by omega) (Or.inl (by omega))).trans hM3
  have HB2 := Lib.hid (hin2.to HBb.out (by omega) HBb.out.size)
  have HH3 := Lib.hid (HH2.out.aside hin2 (Or.inl (by omega)))
  have HEQ := Lib.hid (And.intro hsz (And.intro hsW2 hs2))
  obtain ⟨l0, l1, _, _⟩ := two_cells hL4
  obtain ⟨n0, n1, r0, r1⟩ := two_cells hM4
  obtain ⟨z0, z1, hZ⟩ := two_put hM4 (.int .i64 x.ver) (.slice p u y)
  clear hM3 hL3 hL4 hM4 hZ ho hb KE hin2 hs2 hA hM hL hsz
  rw [hW2] at l0 l1 n0 n1 r0 r1 z0 z1
  go_wp2_with fail
  (try simp only [Exit.inBlock, Exit.then])
  refine bodyPost_ret (by simp [results, Try.results16, go_sem, z0, z1]; try rfl) rfl ?_
  rw [← hW2]
  have hfin := (HH3.out.aside (setPair_inside W2 (w.heap.size + 1) (.int .i64 x.ver) (.slice p u y)) (Or.inl (by have := HEQ.out.1; omega))).lower (B' := w.heap.size) (by have := HEQ.out.1; omega)
  have hfs : ((W2.setCell ⟨w.heap.size + 1, 0, none⟩ (.int .i64 x.ver)).setCell ⟨w.heap.size + 1, 1, none⟩ (.slice p u y)).heap.size = w2.heap.size := by rw [World.size_setCell, World.size_setCell]; exact HEQ.out.2.1
  exact ⟨_, rfl, by rw [hfs]; exact hfin, (HB2.out.setCell (Nat.le_succ _) _).setCell (Nat.le_succ _) _⟩
set_option maxHeartbeats 1000000 in
set_option maxRecDepth 100000 in
theorem eqHello_yes {w : World} {v v' : Value} {x : Hel} (h : HelW w v x) (h' : HelW w v' x) : Calls Try.prog 11 #[v, v'] w (Told (.bool true) w) := by
  obtain ⟨va, vn, vc, xa, xn, xc, rfl, g1, g2, g3⟩ := h
  obtain ⟨va', vn', vc', xa', xn', xc', rfl, k1, k2, k3⟩ := h'
  obtain ⟨hsz, hC, hD, hb0⟩ := two w #[.slice va vn vc, .slice xa xn xc] #[.slice va' vn' vc', .slice xa' xn' xc'] 31 31
  have HB := Lib.hid hb0
  have KE := Lib.hid (fun w0 (hb : Below w.heap.size w w0) => eqExtS_yes xa xa' xn xn' xc xc' x.exts w0 (g2.same hb) (k2.same hb))
  have KI := Lib.hid (fun w0 (hb : Below w.heap.size w w0) => eqIntS_yes va va' vn vn' vc vc' x.vers w0 (g1.same hb) (k1.same hb))
  clear g1 k1 g2 k2 g3 k3 hb0
  go_enter Try.func11, Try.ntmps11
  go_wp2_with fail
  generalize ((w.alloc (.cells #[.slice va vn vc, .slice xa xn xc] 31)).alloc (.cells #[.slice va' vn' vc', .slice xa' xn' xc'] 31)) = W0 at *
  refine (KI.out _ HB.out).mono ?_
  rintro e w1 ⟨rfl, hb⟩
  have HB1 := Lib.hid (HB.out.trans (hb.mono HB.out.size))
  obtain ⟨c0, c1, _, _⟩ := two_cells ((hb.block w.heap.size (by omega)).trans hC)
  obtain ⟨d0, d1, _, _⟩ := two_cells ((hb.block (w.heap.size + 1) (by omega)).trans hD)
  clear hb hC hD
  go_wp2_with fail
  refine (KE.out _ HB1.out).mono ?_
  rintro e w2 ⟨rfl, hb⟩
  have HB2 := Lib.hid (HB1.out.trans (hb.mono HB1.out.size))
  clear hb
  go_wp2_with fail
  go_ret
  exact ⟨rfl, HB2.out⟩
set_option maxHeartbeats 1000000 in
set_option maxRecDepth 100000 in
theorem eqAnswer_yes {w : World} {v v' : Value} {x : Ans} (h : AnsW w v x) (h' : AnsW w v' x) : Calls Try.prog 18 #[v, v'] w (Told (.bool true) w) := by
  obtain ⟨xa, xn, xc, rfl, g2, g3⟩ := h
  obtain ⟨xa', xn', xc', rfl, k2, k3⟩ := h'
  obtain ⟨hsz, hC, hD, hb0⟩ := two w #[.int .i64 x.ver, .slice xa xn xc] #[.int .i64 x.ver, .slice xa' xn' xc'] 43 43
  have HB := Lib.hid hb0
  have KE := Lib.hid (fun w0 (hb : Below w.heap.size w w0) => eqExtS_yes xa xa' xn xn' xc xc' x.exts w0 (g2.same hb) (k2.same hb))
  clear g2 k2 g3 k3 hb0
  go_enter Try.func18, Try.ntmps18
  go_wp2_with fail
  generalize ((w.alloc (.cells #[.int .i64 x.ver, .slice xa xn xc] 43)).alloc (.cells #[.int .i64 x.ver, .slice xa' xn' xc'] 43)) = W0 at *
  have HB1 := HB
  refine (KE.out _ HB1.out).mono ?_
  rintro e w2 ⟨rfl, hb⟩
  have HB2 := Lib.hid (HB1.out.trans (hb.mono HB1.out.size))
  clear hb
  go_wp2_with fail
  go_ret
  exact ⟨rfl, HB2.out⟩
end Go.Proofs.Ytcmjadfpifpknaa
namespace Go.Proofs.Ytcmjadfpifpknaa
open Go.ChangeShapes Go.WideShapes Go.ChangeAt Go.RowKit
set_option linter.unusedVariables false

theorem lt_ofL {α : Type} {l : List α} {j : Nat} {x : α} (h : l[j]? = some x) : j < l.length := by
  rcases Nat.lt_or_ge j l.length with q | q
  · exact q
  · rw [List.getElem?_eq_none q] at h; cases h
/-- From a on lie n lists of integers: the list l. -/
structure Rws (w : World) (a : Option Addr) (n : Nat) (l : List (List Int)) : Prop where
  len : l.length = n
  fits : (n : Int) ≤ 9223372036854775807
  cell : ∀ j x, l[j]? = some x → ∃ ad p m c, a = some ad ∧ w.cell? (ad.add j) = some (.slice p m c) ∧ Nums .i64 w p m x ∧ m ≤ c ∧ (c : Int) ≤ 9223372036854775807
theorem Rws.nothing {w : World} : Rws w none 0 [] := ⟨rfl, by omega, fun j x h => by simp at h⟩
theorem Rws.same {w w' : World} {a : Option Addr} {n : Nat} {l : List (List Int)} (h : Rws w a n l) (hb : Below w.heap.size w w') : Rws w' a n l :=
  ⟨h.len, h.fits, fun j x hj => by
    obtain ⟨ad, p, m, c, e, h0, h1, h2⟩ := h.cell j x hj
    exact ⟨ad, p, m, c, e, cell_stay h0 hb, h1.same hb, h2⟩⟩
theorem Rws.at_ {w : World} {a : Option Addr} {n : Nat} {l : List (List Int)} (h : Rws w a n l) {j : Nat} (hj : j < n) : ∃ ad p m c y, a = some ad ∧ l[j]? = some y ∧ w.cell? (ad.add j) = some (.slice p m c) ∧ Nums .i64 w p m y ∧ m ≤ c ∧ (c : Int) ≤ 9223372036854775807 := by
  have hl : j < l.length := by rw [h.len]; exact hj
  obtain ⟨ad, p, m, c, e, h1⟩ := h.cell j _ (List.getElem?_eq_getElem hl)
  exact ⟨ad, p, m, c, _, e, List.getElem?_eq_getElem hl, h1⟩
/-- How many integers the lists hold. -/
def numsOf (l : List (List Int)) : Nat := (l.map List.length).sum
theorem numsOf_at {l : List (List Int)} {j : Nat} {x : List Int} (h : l[j]? = some x) : numsOf (l.take (j + 1)) = numsOf (l.take j) + x.length := by
  unfold numsOf
  rw [List.take_add_one, h]
  simp
theorem numsOf_le (l : List (List Int)) (j : Nat) : numsOf (l.take j) ≤ numsOf l := by
  conv => rhs; rw [← List.take_append_drop j l]
  unfold numsOf
  rw [List.map_append, List.sum_append]
  omega
theorem numsOf_mem {l : List (List Int)} {x : List Int} (h : x ∈ l) : x.length ≤ numsOf l := by
  obtain ⟨j, hj⟩ := List.mem_iff_getElem?.1 h
  have h1 := numsOf_at hj
  have h2 := numsOf_le l (j + 1)
  omega

/-- A list as it lies in a row: where its integers lie. -/
structure Rh where
  p : Option Addr
  m : Nat
  c : Nat
def Rh.enc (x : Rh) : List Value := [.slice x.p x.m x.c]
theorem Rh.enc_len (x : Rh) : x.enc.length = 1 := rfl
theorem Rh.one (x : Rh) : ∀ u ∈ x.enc, u.oneCell' = true := by
  intro u hu
  simp only [Rh.enc, List.mem_cons, List.not_mem_nil, or_false] at hu
  rcases hu with rfl
  rfl
/-- The integers of each list lie in memory of the call's own, in blocks from B on and below S, apart from the others' and from the row. -/
def RowsL (S : Nat) (w : World) (B : Nat) (a : Option Addr) (hs : List Rh) (l : List (List Int)) : Prop :=
  hs.length = l.length ∧
  (∀ (j : Nat) (h : Rh) (x : List Int), hs[j]? = some h → l[j]? = some x → Own .i64 3 w B h.p h.m h.c x ∧ ∀ ad, h.p = some ad → ad.block < S ∧ ∀ bd, a = some bd → ad.block ≠ bd.block) ∧
  ∀ (i j : Nat) (h k : Rh), i < j → hs[i]? = some h → hs[j]? = some k → ∀ ad bd, h.p = some ad → k.p = some bd → ad.block ≠ bd.block
/-- The list of lists is the call's own, in blocks from B on and below S. -/
def OwnL (S : Nat) (w : World) (B : Nat) (a : Option Addr) (n c : Nat) (l : List (List Int)) : Prop :=
  ∃ hs : List Rh, OwnI Rh.enc 1 22 w B a n c hs ∧ RowsL S w B a hs l ∧ (∀ ad, a = some ad → ad.block < S) ∧ S ≤ w.heap.size
section
variable {w w' : World} {B S n c : Nat} {a : Option Addr} {l : List (List Int)} {hs : List Rh}
theorem Own.farL {k : IntKind} {t : TypeId} {p : Option Addr} {m d : Nat} {y : List Int} {row : Option Nat} (h : Own k t w B p m d y) (hg : w.grownBy w' row) (hr : ∀ ad, p = some ad → row ≠ some ad.block) : Own k t w' B p m d y := by
  cases p with
  | none => exact ⟨h.1, h.2.kept hg (Or.inl rfl)⟩
  | some ad =>
    refine ⟨h.1, h.2.kept hg (Or.inr ?_)⟩
    have h1 := hr ad rfl
    cases row with
    | none => simp [Value.ownBlock]
    | some r =>
      simp only [ne_eq, Option.some.injEq] at h1
      simp only [Value.ownBlock, ne_eq, Option.some.injEq]
      omega
theorem OwnI.farL {α : Type} {enc : α → List Value} {s : Nat} {t : TypeId} {m d : Nat} {p : Option Addr} {y : List α} {row : Option Nat} (h : OwnI enc s t w B p m d y) (hg : w.grownBy w' row) (hr : ∀ ad, p = some ad → row ≠ some ad.block) : OwnI enc s t w' B p m d y := by
  cases p with
  | none => exact ⟨h.1, h.2.kept hg (Or.inl rfl)⟩
  | some ad =>
    refine ⟨h.1, h.2.kept hg (Or.inr ?_)⟩
    have h1 := hr ad rfl
    cases row with
    | none => simp [Value.ownBlock]
    | some r =>
      simp only [ne_eq, Option.some.injEq] at h1
      simp only [Value.ownBlock, ne_eq, Option.some.injEq]
      omega
theorem OwnL.len (h : OwnL S w B a n c l) : l.length = n := by
  obtain ⟨hs, h1, h2, _⟩ := h
  rw [← h2.1, h1.len]
theorem OwnL.room (h : OwnL S w B a n c l) : n ≤ c ∧ (c : Int) ≤ 9223372036854775807 := by
  obtain ⟨hs, h1, _⟩ := h
  exact h1.room
theorem OwnL.top (h : OwnL S w B a n c l) : S ≤ w.heap.size := by
  obtain ⟨hs, _, _, _, h4⟩ := h
  exact h4
theorem OwnL.rws (h : OwnL S w B a n c l) : Rws w a n l := by
  have hl := h.len
  have hr := h.room
  obtain ⟨hs, h1, h2, _⟩ := h
  refine ⟨hl, by omega, fun j x hx => ?_⟩
  have hj : j < hs.length := by rw [h2.1]; exact lt_ofL hx
  obtain ⟨b, o, g, e, hg, hc⟩ := (h1.items Rh.enc_len).at_ (j := j) (by rw [← h1.len]; exact hj)
  obtain ⟨ho, _⟩ := h2.2.1 j g x hg hx
  refine ⟨⟨b, o, none⟩, g.p, g.m, g.c, e, ?_, ho.nums, ho.room⟩
  have h3 := hc 0 _ rfl
  have e2 : (⟨b, o, none⟩ : Addr).add j = ⟨b, o + j * 1 + 0, none⟩ := by
    unfold Addr.add
    by_cases hq : j = 0 <;> simp [hq]
  rw [e2]
  exact h3
theorem OwnL.far {row : Option Nat} (h : OwnL S w B a n c l) (hg : w.grownBy w' row) (hr : ∀ r, row = some r → r < B ∨ S ≤ r) : OwnL S w' B a n c l := by
  obtain ⟨hs, h1, h2, h3, h4⟩ := h
  have hne : ∀ x, B ≤ x → x < S → row ≠ some x := fun x hx hy e => by
    rcases hr x e with q | q <;> omega
  refine ⟨hs, h1.farL hg fun ad e => hne _ (h1.span ad e).1 (h3 ad e), ⟨h2.1, fun j g x hk hx => ?_, h2.2.2⟩, h3, Nat.le_trans h4 hg.size⟩
  obtain ⟨ho, hd⟩ := h2.2.1 j g x hk hx
  exact ⟨ho.farL hg fun ad e => hne _ (ho.span ad e).1 (hd ad e).1, hd⟩
theorem OwnL.same (h : OwnL S w B a n c l) (hb : Below w.heap.size w w') : OwnL S w' B a n c l := h.far (grown_below hb none) fun r e => by cases e
theorem OwnL.lower (h : OwnL S w B a n c l) {B' : Nat} (hB : B' ≤ B) : OwnL S w B' a n c l := by
  obtain ⟨hs, h1, h2, h3⟩ := h
  exact ⟨hs, h1.lower hB, ⟨h2.1, fun j g x q1 q2 => by
    obtain ⟨ho, hd⟩ := h2.2.1 j g x q1 q2
    exact ⟨ho.lower hB, hd⟩, h2.2.2⟩, h3⟩
theorem OwnL.upper {S' : Nat} (h : OwnL S w B a n c l) (h1 : S ≤ S') (h2 : S' ≤ w.heap.size) : OwnL S' w B a n c l := by
  obtain ⟨hs, k1, k2, k3, k4⟩ := h
  exact ⟨hs, k1, ⟨k2.1, fun j g x q1 q2 => by
    obtain ⟨ho, hd⟩ := k2.2.1 j g x q1 q2
    exact ⟨ho, fun ad e => ⟨Nat.lt_of_lt_of_le (hd ad e).1 h1, (hd ad e).2⟩⟩, k2.2.2⟩, fun ad e => Nat.lt_of_lt_of_le (k3 ad e) h1, h2⟩
theorem OwnL.empty (hB : B ≤ w.heap.size) : OwnL (w.heap.size + 1) (w.alloc (.cells #[] 22)) B (some ⟨w.heap.size, 0, none⟩) 0 0 [] :=
  ⟨[], ⟨rfl, World.ownsRow_lit w #[] 0 hB (by unfold maxLen; omega) (by simp)⟩, ⟨rfl, fun j g x h => by simp at h, fun i j h k _ h' => by simp at h'⟩, fun ad e => by cases e; exact Nat.lt_succ_self _, by simp⟩
theorem RowsL.other (h : RowsL S w B a hs l) {i j : Nat} {g k : Rh} (hij : j ≠ i) (hj : hs[j]? = some g) (hi : hs[i]? = some k) : ∀ ad bd, k.p = some ad → g.p = some bd → ad.block ≠ bd.block := fun ad bd ha hb q => by
  rcases Nat.lt_or_ge i j with e | e
  · exact h.2.2 i j k g e hi hj ad bd ha hb q
  · exact h.2.2 j i g k (by omega) hj hi bd ad hb ha q.symm
theorem flatRh_set : ∀ (hs : List Rh) (i : Nat) (g : Rh), i < hs.length → (flatOf Rh.enc hs).set i (.slice g.p g.m g.c) = flatOf Rh.enc (hs.set i g)
  | [], i, g, h => by simp at h
  | y :: t, 0, g, h => by simp [flatOf, Rh.enc]
  | y :: t, i + 1, g, h => by
    have ih := flatRh_set t i g (by simpa using h)
    have e : flatOf Rh.enc (y :: t) = .slice y.p y.m y.c :: flatOf Rh.enc t := by simp [flatOf, Rh.enc]
    rw [e, List.set_cons_succ, ih, List.set_cons_succ]
    simp [flatOf, Rh.enc]
theorem set_grownL (w : World) (b o : Nat) (v : Value) : w.grownBy (w.setCell ⟨b, o, none⟩ v) (some b) :=
  ⟨rfl, rfl, rfl, ((Below.refl 0 w).setCell (Nat.zero_le _) v).size, fun i hi hne => Below.heap_setCell _ _ _ _ (fun e => hne (by rw [e]))⟩
/-- List i is another one, in the same block or in a new one: its header is stored. -/
theorem OwnL.put {u : World} {g : Nat} (hi : OwnI Rh.enc 1 22 u B (some ⟨g, 0, none⟩) n c hs) (hr : RowsL S u B (some ⟨g, 0, none⟩) hs l) (hgS : g < S) (hS : S ≤ u.heap.size) {i : Nat} {x : List Int} {v : Rh} (hx : l[i]? = some x) (hv : hs[i]? = some v)
    {p : Option Addr} {m d : Nat} {y : List Int} (hg : u.grownBy w (Value.ownBlock (.slice v.p v.m v.c))) (ho : Own .i64 3 w B p m d y) (hp : ∀ ad, p = some ad → (∃ bd, v.p = some bd ∧ bd.block = ad.block) ∨ u.heap.size ≤ ad.block) :
    OwnL w.heap.size (w.setCell ⟨g, i, none⟩ (.slice p m d)) B (some ⟨g, 0, none⟩) n c (l.set i y) ∧ w.grownBy (w.setCell ⟨g, i, none⟩ (.slice p m d)) (some g) := by
  have hgs := hi.span _ rfl
  dsimp only at hgs
  have hsz := hg.size
  have hih : i < hs.length := by rw [hr.1]; exact lt_ofL hx
  obtain ⟨hov, hdv⟩ := hr.2.1 i v x hv hx
  have hrow : ∀ ad, Value.ownBlock (.slice v.p v.m v.c) = some ad → ∃ bd, v.p = some bd ∧ bd.block = ad := fun ad e => by
    cases hvp : v.p with
    | none => rw [hvp] at e; simp [Value.ownBlock] at e
    | some bd => rw [hvp] at e; simp only [Value.ownBlock, Option.some.injEq] at e; exact ⟨bd, rfl, e⟩
  have h1 : OwnI Rh.enc 1 22 w B (some ⟨g, 0, none⟩) n c hs := hi.farL hg fun ad e e2 => by
    cases e
    obtain ⟨bd, hb, hbb⟩ := hrow _ e2
    exact (hdv bd hb).2 _ rfl hbb
  have h3 := h1.2.stored i (.slice p m d)
  rw [flatRh_set hs i ⟨p, m, d⟩ hih] at h3
  have hsz3 := h3.2.size
  have hpg : ∀ ad, p = some ad → ad.block ≠ g := fun ad e q => by
    rcases hp ad e with ⟨bd, hb, hbb⟩ | hlt
    · exact (hdv bd hb).2 _ rfl (by rw [hbb]; exact q)
    · omega
  refine ⟨⟨hs.set i ⟨p, m, d⟩, ⟨by rw [List.length_set]; exact h1.len, h3.1⟩, ⟨by rw [List.length_set, List.length_set]; exact hr.1, fun j q z hq hz => ?_, fun j j' q q' hjj hq hq' ad bd ha hb => ?_⟩, fun ad e => by cases e; exact (by omega : g < w.heap.size), hsz3⟩, h3.2⟩
  · by_cases e : j = i
    · subst e
      rw [List.getElem?_set_self hih] at hq
      rw [List.getElem?_set_self (by rw [← hr.1]; exact hih)] at hz
      cases hq
      cases hz
      refine ⟨ho.farL h3.2 fun ad e2 e3 => hpg ad e2 (by simpa using e3.symm), fun ad e2 => ⟨(ho.span ad e2).2, fun bd hb => by cases hb; exact hpg ad e2⟩⟩
    · rw [List.getElem?_set_ne (by omega)] at hq hz
      obtain ⟨ho2, hd2⟩ := hr.2.1 j q z hq hz
      refine ⟨(ho2.farL hg fun ad e2 e3 => ?_).farL h3.2 fun ad e2 e3 => (hd2 ad e2).2 _ rfl (by simpa using e3.symm), fun ad e2 => ⟨by have := (hd2 ad e2).1; omega, (hd2 ad e2).2⟩⟩
      obtain ⟨bd, hb, hbb⟩ := hrow _ e3
      exact hr.other e hq hv bd ad hb e2 hbb
  · have key : ∀ (jj : Nat) (k : Rh) (cd dd : Addr), jj ≠ i → hs[jj]? = some k → k.p = some cd → p = some dd → dd.block ≠ cd.block := fun jj k cd dd hne hk hc hd => by
      have hjl : jj < l.length := by rw [← hr.1]; exact lt_ofL hk
      rcases hp dd hd with ⟨bd2, hb2, hbb⟩ | hlt
      · rw [← hbb]
        exact hr.other hne hk hv bd2 cd hb2 hc
      · have := ((hr.2.1 jj k _ hk (List.getElem?_eq_getElem hjl)).2 cd hc).1
        omega
    by_cases e : j = i
    · subst e
      rw [List.getElem?_set_self hih] at hq
      rw [List.getElem?_set_ne (by omega)] at hq'
      cases hq
      exact key j' q' bd ad (by omega) hq' hb ha
    · rw [List.getElem?_set_ne (by omega)] at hq
      by_cases e' : j' = i
      · subst e'
        rw [List.getElem?_set_self hih] at hq'
        cases hq'
        exact fun q3 => key j q ad bd e hq ha hb q3.symm
      · rw [List.getElem?_set_ne (by omega)] at hq'
        exact hr.2.2 j j' q q' hjj hq hq' ad bd ha hb
end
section
variable {P : Program} (w : World)
/-- A list is appended to a list of lists of the call's own. -/
theorem run_appL (t ty e : TypeId) (he : e = 22) (i : TypeInfo) (z : Value) (bytes : Nat) (ht : P.underlying t = some (.slice e)) (hi : P.info? e = some i) (hz : i.zero = some z) (hsize : i.size = 1) (hby : i.bytes = bytes) (hzs : z.cells.size = 1)
    {S B n c m d b o dd : Nat} {a p : Option Addr} {l : List (List Int)} {y : List Int} (ho : OwnL S w B a n c l) (hn : Items Rh.enc 1 w (some ⟨b, o, none⟩) 1 [⟨p, m, d⟩]) (hv : Own .i64 3 w B p m d y) (hf : ∀ ad, p = some ad → S ≤ ad.block)
    (hbytes : (n + 1) * bytes ≤ 140737488355328) (h63 : n + 1 ≤ maxLen) (hB : B ≤ w.heap.size) :
    ∃ a' c' w', (Builtin.append_ #[t, t] ty #[.slice a n c, .slice (some ⟨b, o, none⟩) 1 dd]).run P w = .ok (.slice a' (n + 1) c') w' ∧ OwnL w'.heap.size w' B a' (n + 1) c' (l ++ [y]) ∧ Below B w w' ∧ w.grownBy w' (Value.ownBlock (.slice a n c)) := by
  subst he
  obtain ⟨hs, h1, h2, h3, h4⟩ := ho
  obtain ⟨v', w', hr, q1, q2, _, q3⟩ := run_append_own_at (P := P) w B t ty 22 i z 1 bytes ht hi hz hsize hby hzs (by omega) (.slice a n c) n (flatOf Rh.enc hs) h1.2 ⟨b, o, none⟩ 1 dd (flatOf Rh.enc [⟨p, m, d⟩]) (by rw [flatOf_len Rh.enc_len]; rfl) (items_flat Rh.enc_len (by omega) hn) (fun u hu => by
      obtain ⟨x, _, hx⟩ := List.mem_flatMap.1 hu
      exact Rh.one x u hx) h63 hbytes hB
  rw [← flatOf_app] at q1
  have hsz := q2.size
  have hl : (hs ++ [(⟨p, m, d⟩ : Rh)]).length = n + 1 := by rw [List.length_append, h1.1]; rfl
  have hbw : Below B w w' := grown_to q2 (Below.refl B w) h1.span (Nat.le_refl _) hB
  rcases q1.2 with ⟨rfl, hn'⟩ | ⟨g, cap, cur, rfl, hrest⟩
  · omega
  · have hgb : (∃ bd, a = some bd ∧ bd.block = g) ∨ g = w.heap.size := by
      rcases q3 with e | e
      · left
        cases ha : a with
        | none => rw [ha] at e; simp [Value.ownBlock] at e
        | some bd => rw [ha] at e; simp only [Value.ownBlock, Option.some.injEq] at e; exact ⟨bd, rfl, e.symm⟩
      · right
        simpa [Value.ownBlock] using e
    have hrow : ∀ ad, Value.ownBlock (.slice a n c) = some ad → ∃ bd, a = some bd ∧ bd.block = ad := fun ad e => by
      cases hvp : a with
      | none => rw [hvp] at e; simp [Value.ownBlock] at e
      | some bd => rw [hvp] at e; simp only [Value.ownBlock, Option.some.injEq] at e; exact ⟨bd, rfl, e⟩
    have hpa : ∀ ad bd, p = some ad → a = some bd → ad.block ≠ bd.block := fun ad bd ha hb => by
      have := hf ad ha
      have := h3 bd hb
      omega
    have hpg : ∀ ad, p = some ad → ad.block ≠ g := fun ad ha => by
      rcases hgb with ⟨bd, hb, e⟩ | e
      · rw [← e]; exact hpa ad bd ha hb
      · have := (hv.span ad ha).2
        omega
    have hgw : g < w'.heap.size := by
      have := q1.lt g rfl
      exact this.2
    refine ⟨_, cap, w', hr, ⟨_, ⟨hl, q1⟩, ⟨by rw [List.length_append, List.length_append, h2.1]; rfl, fun j v x hj hx => ?_, fun j j' v v' hjj hj hj' ad bd ha hb => ?_⟩, fun ad e => by cases e; exact hgw, Nat.le_refl _⟩, hbw, q2⟩
    · rcases Nat.lt_or_ge j hs.length with q | q
      · rw [List.getElem?_append_left q] at hj
        rw [List.getElem?_append_left (by rw [← h2.1]; exact q)] at hx
        obtain ⟨ho1, hd1⟩ := h2.2.1 j v x hj hx
        refine ⟨ho1.farL q2 fun ad e e3 => ?_, fun ad ha => ⟨by have := (hd1 ad ha).1; omega, fun bd hb => ?_⟩⟩
        · obtain ⟨bd, hb, hbb⟩ := hrow _ e3
          exact (hd1 ad e).2 bd hb hbb.symm
        · cases hb
          rcases hgb with ⟨cd, hc, e⟩ | e
          · have := (hd1 ad ha).2 cd hc
            rw [e] at this
            exact this
          · have := (hd1 ad ha).1
            dsimp only
            omega
      · obtain rfl : j = hs.length := by have := lt_ofL hj; rw [List.length_append] at this; simp at this; omega
        rw [List.getElem?_append_right (Nat.le_refl _), Nat.sub_self] at hj
        rw [List.getElem?_append_right (by rw [h2.1]; exact Nat.le_refl _), h2.1, Nat.sub_self] at hx
        cases hj
        cases hx
        refine ⟨hv.farL q2 fun ad e e3 => ?_, fun ad ha => ⟨by have := (hv.span ad ha).2; omega, fun bd hb => by cases hb; exact hpg ad ha⟩⟩
        obtain ⟨bd, hb, hbb⟩ := hrow _ e3
        exact hpa ad bd e hb hbb.symm
    · have hjl : j < hs.length := by have := lt_ofL hj'; rw [List.length_append] at this; simp at this; omega
      rw [List.getElem?_append_left hjl] at hj
      rcases Nat.lt_or_ge j' hs.length with q | q
      · rw [List.getElem?_append_left q] at hj'
        exact h2.2.2 j j' v v' hjj hj hj' ad bd ha hb
      · obtain rfl : j' = hs.length := by have := lt_ofL hj'; rw [List.length_append] at this; simp at this; omega
        rw [List.getElem?_append_right (Nat.le_refl _), Nat.sub_self] at hj'
        cases hj'
        have := ((h2.2.1 j v _ hj (List.getElem?_eq_getElem (by rw [← h2.1]; exact hjl))).2 ad ha).1
        have := hf bd hb
        omega
theorem wpl_appL {ops : Array Oper} {rest : List Oper} {o : Oper} {act : Act} {Q : Exit → Act → World → Prop} (hgd : o.guard = none) (q x : Operand) (t : TypeId)
    (ho : o.op = .call { callee := .builtin .append, args := #[q, x], argTypes := #[t, t] })
    (e : TypeId) (he : e = 22) (i : TypeInfo) (z : Value) (bytes : Nat) (ht : P.underlying t = some (.slice e)) (hi : P.info? e = some i) (hz : i.zero = some z) (hsize : i.size = 1) (hby : i.bytes = bytes) (hzs : z.cells.size = 1)
    {S B n c m d b off dd : Nat} {a p : Option Addr} {l : List (List Int)} {y : List Int} (hq : act.eval q = .slice a n c) (hown : OwnL S w B a n c l) (hx : act.eval x = .slice (some ⟨b, off, none⟩) 1 dd) (hnew : Items Rh.enc 1 w (some ⟨b, off, none⟩) 1 [⟨p, m, d⟩]) (hv : Own .i64 3 w B p m d y) (hf : ∀ ad, p = some ad → S ≤ ad.block)
    (hb1 : 0 < bytes) (hbytes : (n + 1) * bytes ≤ 140737488355328) (hB : B ≤ w.heap.size)
    (h : ∀ a' c' w', OwnL w'.heap.size w' B a' (n + 1) c' (l ++ [y]) → Below B w w' → w.grownBy w' (Value.ownBlock (.slice a n c)) → wpList P ops Q rest (act.put o.dst (.slice a' (n + 1) c')) w') : wpList P ops Q (o :: rest) act w := by
  refine wpList_plain hgd fun K hK => ?_
  have h63 : n + 1 ≤ maxLen := by
    have := Nat.mul_le_mul_left (n + 1) hb1
    unfold maxLen
    omega
  obtain ⟨a', c', w', hr, h2, h3, h4⟩ := run_appL (P := P) (dd := dd) w t o.type e he i z bytes ht hi hz hsize hby hzs hown hnew hv hf hbytes h63 hB
  unfold Oper.wp execOp
  simp only [ho, resolve, invoke, builtin, Sem.run_bind, Sem.run_pure, Result.andThen_ok, List.map_toArray, List.map_cons, List.map_nil, hq, hx, hr]
  exact hK _ _ (h a' c' w' h2 h3 h4)
/-- The same at a step of a region that draws its order. -/
theorem step_appL {ops : Array Oper} {o : Oper} {act : Act} {K : Act → World → Prop} {Q : Exit → Act → World → Prop} {E : Prop} (hgd : o.guard = none) (q x : Operand) (t : TypeId)
    (ho : o.op = .call { callee := .builtin .append, args := #[q, x], argTypes := #[t, t] })
    (e : TypeId) (he : e = 22) (i : TypeInfo) (z : Value) (bytes : Nat) (ht : P.underlying t = some (.slice e)) (hi : P.info? e = some i) (hz : i.zero = some z) (hsize : i.size = 1) (hby : i.bytes = bytes) (hzs : z.cells.size = 1)
    {S B n c m d b off dd : Nat} {a p : Option Addr} {l : List (List Int)} {y : List Int} (hq : act.eval q = .slice a n c) (hown : OwnL S w B a n c l) (hx : act.eval x = .slice (some ⟨b, off, none⟩) 1 dd) (hnew : Items Rh.enc 1 w (some ⟨b, off, none⟩) 1 [⟨p, m, d⟩]) (hv : Own .i64 3 w B p m d y) (hf : ∀ ad, p = some ad → S ≤ ad.block)
    (hb1 : 0 < bytes) (hbytes : (n + 1) * bytes ≤ 140737488355328) (hB : B ≤ w.heap.size)
    (h : ∀ a' c' w', OwnL w'.heap.size w' B a' (n + 1) c' (l ++ [y]) → Below B w w' → w.grownBy w' (Value.ownBlock (.slice a n c)) → K (act.put o.dst (.slice a' (n + 1) c')) w') :
    if Region.wanted o (yielded ops act.tmps) = true then Oper.wp P o act w K Q else E := by
  have hw : Region.wanted o (yielded ops act.tmps) = true := by simp [Region.wanted, hgd]
  rw [if_pos hw]
  have h63 : n + 1 ≤ maxLen := by
    have := Nat.mul_le_mul_left (n + 1) hb1
    unfold maxLen
    omega
  obtain ⟨a', c', w', hr, h2, h3, h4⟩ := run_appL (P := P) (dd := dd) w t o.type e he i z bytes ht hi hz hsize hby hzs hown hnew hv hf hbytes h63 hB
  unfold Oper.wp execOp
  simp only [ho, resolve, invoke, builtin, Sem.run_bind, Sem.run_pure, Result.andThen_ok, List.map_toArray, List.map_cons, List.map_nil, hq, hx, hr]
  exact h a' c' w' h2 h3 h4
end
/-- What a function leaves that makes a list of lists. -/
def MadeL (B : Nat) (l : List (List Int)) (w : World) (e : Ending) (w' : World) : Prop :=
  ∃ a n c, e = .returned (.slice a n c) ∧ OwnL w'.heap.size w' B a n c l ∧ Below B w w'
end Go.Proofs.Ytcmjadfpifpknaa
namespace Go.Proofs.Ytcmjadfpifpknaa
set_option linter.unusedVariables false

def byteB (z : Int) : Bool := decide (0 ≤ z) && decide (z ≤ 255)
def rowB (y : List Int) : Bool := y.all byteB
def isTr (l : List (List Int)) : Bool := decide (l.length ≤ 12) && l.all rowB
/-- A message is taken into the hash. -/
def thStep (h : Int) (y : List Int) : Int := hashOf ([h, (y.length : Int)] ++ y)
def thAll (l : List (List Int)) : Int := l.foldl thStep 1
def trH (l : List (List Int)) : Int := if isTr l then thAll l else 0
def keyB (k : Int) : Bool := decide (1 ≤ k) && decide (k ≤ 2147483646)
def sideB (s : Int) : Bool := decide (0 ≤ s) && decide (s ≤ 1)
def finP (k : Int) (l : List (List Int)) (s : Int) : Int := if keyB k && isTr l && sideB s then khash k [s, trH l] else 0
def chkP (k : Int) (l : List (List Int)) (s f : Int) : Bool := !(f == 0) && (finP k l s == f)
theorem rowB_no {y : List Int} {j : Nat} {z : Int} (hz : y[j]? = some z) (h : byteB z = false) : rowB y = false := by
  unfold rowB
  rw [List.all_eq_false]
  exact ⟨z, List.mem_of_getElem? hz, by rw [h]; decide⟩
theorem rowB_zero (y : List Int) : rowB (y.take 0) = true := by simp [rowB]
theorem rowB_step {y : List Int} {j : Nat} {z : Int} (h : rowB (y.take j) = true) (hz : y[j]? = some z) (hi : byteB z = true) : rowB (y.take (j + 1)) = true := by
  unfold rowB at *
  rw [List.take_add_one, hz, Option.toList_some, List.all_append, h]
  simpa using hi
theorem allR_step {l : List (List Int)} {j : Nat} {y : List Int} (h : (l.take j).all rowB = true) (hy : l[j]? = some y) (hi : rowB y = true) : (l.take (j + 1)).all rowB = true := by
  rw [List.take_add_one, hy, Option.toList_some, List.all_append, h]
  simpa using hi
theorem allR_no {l : List (List Int)} {j : Nat} {y : List Int} (hy : l[j]? = some y) (h : rowB y = false) : l.all rowB = false := by
  rw [List.all_eq_false]
  exact ⟨y, List.mem_of_getElem? hy, by rw [h]; decide⟩
theorem thAll_snoc (l : List (List Int)) (y : List Int) : thAll (l ++ [y]) = thStep (thAll l) y := by unfold thAll; rw [List.foldl_append]; rfl
theorem thAll_take {l : List (List Int)} {j : Nat} {y : List Int} (h : l[j]? = some y) : thAll (l.take (j + 1)) = thStep (thAll (l.take j)) y := by rw [List.take_add_one, h]; exact thAll_snoc _ _
theorem thAll_bd (l : List (List Int)) : 0 ≤ thAll l ∧ thAll l < 2147483647 := by
  rcases List.eq_nil_or_concat l with rfl | ⟨r, y, rfl⟩
  · exact ⟨by decide, by decide⟩
  · rw [List.concat_eq_append, thAll_snoc]
    exact hashOf_bd _
theorem trH_bd (l : List (List Int)) : 0 ≤ trH l ∧ trH l < 2147483647 := by
  unfold trH
  split
  · exact thAll_bd l
  · exact ⟨by decide, by decide⟩
theorem finP_bd (k : Int) (l : List (List Int)) (s : Int) : 0 ≤ finP k l s ∧ finP k l s < 2147483647 := by
  unfold finP
  split
  · exact khash_bd _ _
  · exact ⟨by decide, by decide⟩
theorem isTr_parts {l : List (List Int)} (h : isTr l = true) : l.length ≤ 12 ∧ l.all rowB = true := by
  unfold isTr at h
  rw [Bool.and_eq_true] at h
  exact ⟨of_decide_eq_true h.1, h.2⟩
theorem row_fits {l : List (List Int)} (h : l.all rowB = true) {y : List Int} (hy : y ∈ l) : ∀ z ∈ y, 0 ≤ z ∧ z ≤ 255 := fun z hz => by
  have h1 := List.all_eq_true.1 h y hy
  have h2 := List.all_eq_true.1 h1 z hz
  unfold byteB at h2
  rw [Bool.and_eq_true] at h2
  exact ⟨of_decide_eq_true h2.1, of_decide_eq_true h2.2⟩
theorem finP_zero {k : Int} {l : List (List Int)} {s : Int} (h : keyB k = false ∨ isTr l = false ∨ sideB s = false) : finP k l s = 0 := by
  unfold finP
  rw [if_neg]
  rcases h with h | h | h <;> simp [h]
theorem finP_some {k : Int} {l : List (List Int)} {s : Int} (h1 : keyB k = true) (h2 : isTr l = true) (h3 : sideB s = true) : finP k l s = khash k [s, trH l] := by
  unfold finP
  rw [if_pos (by simp [h1, h2, h3])]
end Go.Proofs.Ytcmjadfpifpknaa
namespace Go.Proofs.Ytcmjadfpifpknaa
open Go.ChangeShapes Go.WideShapes Go.ChangeAt Go.RowKit
set_option linter.unusedVariables false

structure Et where
  kind : Int
  n : Int
instance : Inhabited Et := ⟨⟨0, 0⟩⟩
def Et.enc (x : Et) : List Value := [.int .i64 x.kind, .int .i64 x.n]
def Et.val (x : Et) : Value := .agg #[.int .i64 x.kind, .int .i64 x.n]
def Et.wf (x : Et) : Prop := (Lit.int .i64 x.kind).wf = true ∧ (Lit.int .i64 x.n).wf = true
theorem Et.enc_len (x : Et) : x.enc.length = 2 := rfl
theorem Et.cells (x : Et) : ∀ u ∈ x.enc, u.oneCell' = true := by
  intro u hu
  simp only [Et.enc, List.mem_cons, List.not_mem_nil, or_false] at hu
  rcases hu with rfl | rfl <;> rfl
abbrev Ets := Items Et.enc 2
abbrev OwnEt := OwnI Et.enc 2
theorem ets_at {w : World} {a : Option Addr} {n : Nat} {l : List Et} (h : Ets w a n l) {j : Nat} (hj : j < n) : ∃ b o x, a = some ⟨b, o, none⟩ ∧ l[j]? = some x ∧
    w.cell? ⟨b, o + j * 2, none⟩ = some (.int .i64 x.kind) ∧ w.cell? ⟨b, o + j * 2 + 1, none⟩ = some (.int .i64 x.n) := by
  obtain ⟨b, o, x, e, hl, hx⟩ := h.at_ hj
  exact ⟨b, o, x, e, hl, hx 0 _ rfl, hx 1 _ rfl⟩
end Go.Proofs.Ytcmjadfpifpknaa
