/- The helpers of the exact laws at hellos and answers: counted, copied, compared. The helpers of the exact laws at lists of extensions: marked, looked at. The helpers of the exact laws at hellos and answers: marked, looked at. How a hello and an answer among the arguments are read. -/
import Derived.Test.YtcpnchjgklemgaaG17
import Derived.Test.YtcpnchjgklemgaaG13
import Derived.Test.YtcpnchjgklemgaaG8
import Derived.Deep.QuietTactic
import Derived.BigQuiet
import Derived.RegionTactic
import Derived.Handy
import Derived.Test.YtcpnchjgklemgaaG15
import Derived.Test.YtcpnchjgklemgaaG10
import Derived.Test.YtcpnchjgklemgaaG1
import Derived.Lib.SmallJoins
import Derived.Deep.Slices
import Derived.Deep.Fields
namespace Go.Proofs.Ytcpnchjgklemgaa
open Go.ChangeShapes Go.WideShapes Go.ChangeAt Go.RowKit
set_option linter.unusedVariables false
set_option linter.unusedSimpArgs false

theorem leftOf_yes {left : Int} {n : Nat} (h : (n : Int) ≤ left) : leftOf left n = left - n := if_pos h
theorem leftOf_no {left : Int} {n : Nat} (h : ¬ (n : Int) ≤ left) : leftOf left n = -1 := if_neg h
theorem threeH (w : World) (A B C : Array Value) (t1 t2 t3 : TypeId) :
    w.heap.size + 3 = (((w.alloc (.cells A t1)).alloc (.cells B t2)).alloc (.cells C t3)).heap.size ∧
    (((w.alloc (.cells A t1)).alloc (.cells B t2)).alloc (.cells C t3)).heap[w.heap.size]? = some (.cells A t1 (0, 0)) ∧
    (((w.alloc (.cells A t1)).alloc (.cells B t2)).alloc (.cells C t3)).heap[w.heap.size + 1]? = some (.cells B t2 (0, 0)) ∧
    (((w.alloc (.cells A t1)).alloc (.cells B t2)).alloc (.cells C t3)).heap[w.heap.size + 2]? = some (.cells C t3 (0, 0)) ∧
    Below w.heap.size w (((w.alloc (.cells A t1)).alloc (.cells B t2)).alloc (.cells C t3)) := by
  obtain ⟨h1, h2, h3, h4⟩ := two w A B t1 t2
  refine ⟨by simp, ?_, ?_, ?_, h4.alloc (by omega) _⟩
  · rw [Below.heap_alloc _ _ _ (by omega)]; exact h2
  · rw [Below.heap_alloc _ _ _ (by omega)]; exact h3
  · have := heap_alloc_new ((w.alloc (.cells A t1)).alloc (.cells B t2)) (.cells C t3)
    rw [← h1] at this
    exact this
theorem set1_inside (w : World) (g o : Nat) (u : Value) : Inside g (g + 1) w (w.setCell ⟨g, o, none⟩ u) :=
  Inside.row (lo := g) (hi := g + 1) (set_grown w g o u) (fun r e => by cases e; exact ⟨Nat.le_refl _, Nat.lt_succ_self _⟩)
theorem setPair_inside (w : World) (g : Nat) (u v : Value) : Inside g (g + 1) w ((w.setCell ⟨g, 0, none⟩ u).setCell ⟨g, 1, none⟩ v) := (set1_inside w g 0 u).trans (set1_inside _ g 1 v)
set_option maxHeartbeats 1000000 in
set_option maxRecDepth 100000 in
theorem szHello_yes {w : World} {v : Value} {x : Hel} (left : Int) (h : HelW w v x) (hle : (x.parts : Int) ≤ left) (hl : left ≤ 1048576) :
    Calls Try.prog 28 #[v, .int .i64 left] w (Told (.int .i64 (left - (x.parts : Int))) w) := by
  obtain ⟨va, vn, vc, xa, xn, xc, rfl, g1, g2, g3⟩ := h
  have e1 := g1.len
  have f1 := g1.fits
  have e2 := g2.len
  unfold Hel.parts at hle ⊢
  rw [e1, e2] at hle ⊢
  have HB := Lib.hid (alloc_same w (.cells #[.slice va vn vc, .slice xa xn xc] 48))
  have hC := heap_alloc_new w (.cells #[.slice va vn vc, .slice xa xn xc] 48 (0, 0))
  change (w.alloc (.cells #[.slice va vn vc, .slice xa xn xc] 48)).heap[w.heap.size]? = _ at hC
  have hlt : w.heap.size < (w.alloc (.cells #[.slice va vn vc, .slice xa xn xc] 48)).heap.size := by simp
  have KI := Lib.hid (szIntS_any va vn vc left (w.alloc (.cells #[.slice va vn vc, .slice xa xn xc] 48)) f1 (by omega) hl)
  rw [leftOf_yes (by omega)] at KI
  have KE := Lib.hid (fun w0 (hb : Below w.heap.size w w0) => szExtS_yes xa xn xc x.exts (left - vn) w0 (g2.same hb) (by omega) (by omega))
  rw [show left - ((vn + (xn + itemsOf x.exts) : Nat) : Int) = left - vn - xn - itemsOf x.exts by omega]
  have hn1 : (0 : Int) ≤ left - vn := by omega
  have hn2 : (0 : Int) ≤ left - vn - xn - itemsOf x.exts := by omega
  clear g1 g2 g3 e1 e2 f1
  go_enter Try.func28, Try.ntmps28
  go_wp2_with fail
  generalize w.alloc (.cells #[.slice va vn vc, .slice xa xn xc] 48) = W0 at *
  refine KI.out.mono ?_
  rintro e w1 ⟨rfl, rfl⟩
  obtain ⟨c0, c1, _, _⟩ := two_cells hC
  clear hC
  go_wp2_with fail
  refine (KE.out _ HB.out).mono ?_
  rintro e w2 ⟨rfl, hb⟩
  have HB2 := Lib.hid (HB.out.trans (hb.mono HB.out.size))
  clear hb c0 c1
  go_wp2_with fail
  go_ret
  exact ⟨rfl, HB2.out⟩
set_option maxHeartbeats 1000000 in
set_option maxRecDepth 100000 in
theorem szHello_no {w : World} {v : Value} {x : Hel} (left : Int) (h : HelW w v x) (hlt0 : left < (x.parts : Int)) (h0 : 0 ≤ left) (hl : left ≤ 1048576) :
    Calls Try.prog 28 #[v, .int .i64 left] w (Told (.int .i64 (-1)) w) := by
  obtain ⟨va, vn, vc, xa, xn, xc, rfl, g1, g2, g3⟩ := h
  have e1 := g1.len
  have f1 := g1.fits
  have e2 := g2.len
  unfold Hel.parts at hlt0
  rw [e1, e2] at hlt0
  have HB := Lib.hid (alloc_same w (.cells #[.slice va vn vc, .slice xa xn xc] 48))
  have hC := heap_alloc_new w (.cells #[.slice va vn vc, .slice xa xn xc] 48 (0, 0))
  change (w.alloc (.cells #[.slice va vn vc, .slice xa xn xc] 48)).heap[w.heap.size]? = _ at hC
  have hlt : w.heap.size < (w.alloc (.cells #[.slice va vn vc, .slice xa xn xc] 48)).heap.size := by simp
  have KI := Lib.hid (szIntS_any va vn vc left (w.alloc (.cells #[.slice va vn vc, .slice xa xn xc] 48)) f1 h0 hl)
  by_cases hv : (vn : Int) ≤ left
  · rw [leftOf_yes hv] at KI
    have KE := Lib.hid (fun w0 (hb : Below w.heap.size w w0) => szExtS_no xa xn xc x.exts (left - vn) w0 (g2.same hb) (by omega) (by omega) (by omega))
    have hn1 : (0 : Int) ≤ left - vn := by omega
    clear g1 g2 g3 e1 e2 f1
    go_enter Try.func28, Try.ntmps28
    go_wp2_with fail
    generalize w.alloc (.cells #[.slice va vn vc, .slice xa xn xc] 48) = W0 at *
    refine KI.out.mono ?_
    rintro e w1 ⟨rfl, rfl⟩
    obtain ⟨c0, c1, _, _⟩ := two_cells hC
    clear hC
    go_wp2_with fail
    refine (KE.out _ HB.out).mono ?_
    rintro e w2 ⟨rfl, hb⟩
    have HB2 := Lib.hid (HB.out.trans (hb.mono HB.out.size))
    clear hb c0 c1
    go_wp2_with fail
    go_ret
    exact ⟨rfl, HB2.out⟩
  · rw [leftOf_no hv] at KI
    clear g1 g2 g3 e1 e2 f1
    go_enter Try.func28, Try.ntmps28
    go_wp2_with fail
    generalize w.alloc (.cells #[.slice va vn vc, .slice xa xn xc] 48) = W0 at *
    refine KI.out.mono ?_
    rintro e w1 ⟨rfl, rfl⟩
    clear hC
    go_wp2_with fail
    go_ret
    exact ⟨rfl, HB.out⟩
set_option maxHeartbeats 1000000 in
set_option maxRecDepth 100000 in
theorem szAnswer_yes {w : World} {v : Value} {x : Ans} (left : Int) (h : AnsW w v x) (hle : (x.parts : Int) ≤ left) (hl : left ≤ 1048576) :
    Calls Try.prog 31 #[v, .int .i64 left] w (Told (.int .i64 (left - (x.parts : Int))) w) := by
  obtain ⟨xa, xn, xc, rfl, g2, g3⟩ := h
  have e2 := g2.len
  unfold Ans.parts at hle ⊢
  rw [e2] at hle ⊢
  have HB := Lib.hid (alloc_same w (.cells #[.int .i64 x.ver, .slice xa xn xc] 53))
  have hC := heap_alloc_new w (.cells #[.int .i64 x.ver, .slice xa xn xc] 53 (0, 0))
  change (w.alloc (.cells #[.int .i64 x.ver, .slice xa xn xc] 53)).heap[w.heap.size]? = _ at hC
  have hlt : w.heap.size < (w.alloc (.cells #[.int .i64 x.ver, .slice xa xn xc] 53)).heap.size := by simp
  have KE := Lib.hid (fun w0 (hb : Below w.heap.size w w0) => szExtS_yes xa xn xc x.exts left w0 (g2.same hb) hl (by omega))
  rw [show left - ((xn + itemsOf x.exts : Nat) : Int) = left - xn - itemsOf x.exts by omega]
  have hn2 : (0 : Int) ≤ left - xn - itemsOf x.exts := by omega
  clear g2 g3 e2 hC
  go_enter Try.func31, Try.ntmps31
  go_wp2_with fail
  generalize w.alloc (.cells #[.int .i64 x.ver, .slice xa xn xc] 53) = W0 at *
  refine (KE.out _ HB.out).mono ?_
  rintro e w2 ⟨rfl, hb⟩
  have HB2 := Lib.hid (HB.out.trans (hb.mono HB.out.size))
  clear hb
  go_wp2_with fail
  go_ret
  exact ⟨rfl, HB2.out⟩
set_option maxHeartbeats 1000000 in
set_option maxRecDepth 100000 in
theorem szAnswer_no {w : World} {v : Value} {x : Ans} (left : Int) (h : AnsW w v x) (hlt0 : left < (x.parts : Int)) (h0 : 0 ≤ left) (hl : left ≤ 1048576) :
    Calls Try.prog 31 #[v, .int .i64 left] w (Told (.int .i64 (-1)) w) := by
  obtain ⟨xa, xn, xc, rfl, g2, g3⟩ := h
  have e2 := g2.len
  unfold Ans.parts at hlt0
  rw [e2] at hlt0
  have HB := Lib.hid (alloc_same w (.cells #[.int .i64 x.ver, .slice xa xn xc] 53))
  have hC := heap_alloc_new w (.cells #[.int .i64 x.ver, .slice xa xn xc] 53 (0, 0))
  change (w.alloc (.cells #[.int .i64 x.ver, .slice xa xn xc] 53)).heap[w.heap.size]? = _ at hC
  have hlt : w.heap.size < (w.alloc (.cells #[.int .i64 x.ver, .slice xa xn xc] 53)).heap.size := by simp
  have KE := Lib.hid (fun w0 (hb : Below w.heap.size w w0) => szExtS_no xa xn xc x.exts left w0 (g2.same hb) h0 hl (by omega))
  clear g2 g3 e2 hC
  go_enter Try.func31, Try.ntmps31
  go_wp2_with fail
  generalize w.alloc (.cells #[.int .i64 x.ver, .slice xa xn xc] 53) = W0 at *
  refine (KE.out _ HB.out).mono ?_
  rintro e w2 ⟨rfl, hb⟩
  have HB2 := Lib.hid (HB.out.trans (hb.mono HB.out.size))
  clear hb
  go_wp2_with fail
  go_ret
  exact ⟨rfl, HB2.out⟩
set_option maxHeartbeats 4000000 in
set_option maxRecDepth 100000 in
theorem toHello_any {w : World} {v : Value} {x : Hel} (h : HelW w v x) (hn : x.parts ≤ 1048576000) : Calls Try.prog 29 #[v] w (MadeHel w.heap.size x w) := by
  obtain ⟨va, vn, vc, xa, xn, xc, rfl, g1, g2, g3⟩ := h
  have e1 := g1.len
  have e2 := g2.len
  unfold Hel.parts at hn
  rw [e1, e2] at hn
  obtain ⟨hsz, hA, hM, hL, hb0⟩ := threeH w #[.slice va vn vc, .slice xa xn xc] #[.slice none 0 0, .slice none 0 0] #[.slice none 0 0, .slice none 0 0] 48 27 27
  have HB := Lib.hid hb0
  have G := Lib.hid (And.intro g1 g2)
  have KI := Lib.hid (toIntS_any va vn vc x.vers (((w.alloc (.cells #[.slice va vn vc, .slice xa xn xc] 48)).alloc (.cells #[.slice none 0 0, .slice none 0 0] 27)).alloc (.cells #[.slice none 0 0, .slice none 0 0] 27)) (g1.same hb0) (by omega))
  clear g1 g2 g3 hb0 e1 e2
  go_enter Try.func29, Try.ntmps29
  go_wp2_with fail
  generalize (((w.alloc (.cells #[.slice va vn vc, .slice xa xn xc] 48)).alloc (.cells #[.slice none 0 0, .slice none 0 0] 27)).alloc (.cells #[.slice none 0 0, .slice none 0 0] 27)) = W0 at *
  refine KI.out.mono ?_
  rintro e w1 ⟨q, k, r, rfl, ho, hb⟩
  have HBa := Lib.hid (HB.out.trans (hb.mono HB.out.size))
  have hA1 := (hb.block w.heap.size (by omega)).trans hA
  have hM1 := (hb.block (w.heap.size + 1) (by omega)).trans hM
  have hL1 := (hb.block (w.heap.size + 2) (by omega)).trans hL
  have hs1 := hb.size
  obtain ⟨m0, m1, q0, q1⟩ := two_cells hL1
  obtain ⟨W1, hW1⟩ : ∃ W1, W1 = w1.setCell ⟨w.heap.size + 2, 0, none⟩ (.slice q k r) := ⟨_, rfl⟩
  have hin1 : Inside (w.heap.size + 2) (w.heap.size + 3) w1 W1 := by rw [hW1]; exact set1_inside _ _ _ _
  have hsW : W1.heap.size = w1.heap.size := by rw [hW1]; exact World.size_setCell _ _ _
  have hL2 : W1.heap[w.heap.size + 2]? = some (.cells #[.slice q k r, .slice none 0 0] 27 (0, 0)) := by
    rw [hW1]; exact heap_setCell_same w1 (w.heap.size + 2) 0 _ _ (.slice q k r) hL1
  have hA2 := (hin1.block w.heap.size (by omega) (Or.inl (by omega))).trans hA1
  have hM2 := (hin1.block (w.heap.size + 1) (by omega) (Or.inl (by omega))).trans hM1
  have HO1 := Lib.hid (ho.aside hin1 ho.span (Or.inl (by omega)))
  have HS1 := Lib.hid ho.span
  have HB1 := Lib.hid (hin1.to HBa.out (by omega) HBa.out.size)
  have KE := Lib.hid (toExtS_any xa xn xc x.exts W1 (G.out.2.same HB1.out) (by omega))
  have hA1' := (block_cell hA2 1).trans rfl
  have HM2 := Lib.hid hM2
  have HL2 := Lib.hid hL2
  have hle1 : w.heap.size + 3 ≤ W1.heap.size := by omega
  have hle0 : W0.heap.size ≤ W1.heap.size := by omega
  have HEQ := Lib.hid (And.intro hsz (And.intro hs1 hsW))
  clear hA hM hL hA1 hM1 hL1 hA2 hM2 hL2 ho hb KI hin1
  rw [hW1] at hA1'
  go_wp2_with fail
  rw [← hW1]
  clear hA1' m0 m1 q0 q1 hW1 hsz hs1 hsW
  refine KE.out.mono ?_
  rintro e w2 ⟨p, u, y, rfl, ho, hb⟩
  have HBb := Lib.hid (HB1.out.trans (hb.mono HB1.out.size))
  have hM3 := (hb.block (w.heap.size + 1) (by omega)).trans HM2.out
  have hL3 := (hb.block (w.heap.size + 2) (by omega)).trans HL2.out
  have hs2 := hb.size
  have hsW1 := HEQ.out.2.2
  have HH2 := Lib.hid (own_hel (B := W0.heap.size) (S := w2.heap.size) (HO1.out.same hb) ho.lim HS1.out (Nat.le_refl _) hle0 (by omega) (Nat.le_refl _) (Or.inl (Nat.le_of_eq hsW1.symm)) (Nat.le_refl _))
  obtain ⟨m0, m1, q0, q1⟩ := two_cells hL3
  obtain ⟨W2, hW2⟩ : ∃ W2, W2 = w2.setCell ⟨w.heap.size + 2, 1, none⟩ (.slice p u y) := ⟨_, rfl⟩
  have hin2 : Inside (w.heap.size + 2) (w.heap.size + 3) w2 W2 := by rw [hW2]; exact set1_inside _ _ _ _
  have hsW2 : W2.heap.size = w2.heap.size := by rw [hW2]; exact World.size_setCell _ _ _
  have hL4 : W2.heap[w.heap.size + 2]? = some (.cells #[.slice q k r, .slice p u y] 27 (0, 0)) := by
    rw [hW2]; exact heap_setCell_same w2 (w.heap.size + 2) 1 _ _ (.slice p u y) hL3
  have hM4 := (hin2.block (w.heap.size + 1) (by omega) (Or.inl (by omega))).trans hM3
  have HB2 := Lib.hid (hin2.to HBb.out (by omega) HBb.out.size)
  have HH3 := Lib.hid (HH2.out.aside hin2 (Or.inl (by have := HEQ.out.1; omega)))
  have HEQ2 := Lib.hid (And.intro hsW2 hs2)
  obtain ⟨l0, l1, _, _⟩ := two_cells hL4
  obtain ⟨n0, n1, r0, r1⟩ := two_cells hM4
  obtain ⟨z0, z1, hZ⟩ := two_put hM4 (.slice q k r) (.slice p u y)
  clear hM3 hL3 hL4 hM4 hZ ho hb KE hin2 hs2 hsW1
  rw [hW2] at l0 l1 n0 n1 r0 r1 z0 z1
  go_wp2_with fail
  (try simp only [Exit.inBlock, Exit.then])
  refine bodyPost_ret (by simp [results, Try.results29, go_sem, z0, z1]; try rfl) rfl ?_
  rw [← hW2]
  have hfin := (HH3.out.aside (setPair_inside W2 (w.heap.size + 1) (.slice q k r) (.slice p u y)) (Or.inl (by have := HEQ.out.1; omega))).lower (B' := w.heap.size) (by have := HEQ.out.1; omega)
  have hfs : ((W2.setCell ⟨w.heap.size + 1, 0, none⟩ (.slice q k r)).setCell ⟨w.heap.size + 1, 1, none⟩ (.slice p u y)).heap.size = w2.heap.size := by rw [World.size_setCell, World.size_setCell]; exact HEQ2.out.1
  exact ⟨_, rfl, by rw [hfs]; exact hfin, (HB2.out.setCell (Nat.le_succ _) _).setCell (Nat.le_succ _) _⟩
set_option maxHeartbeats 4000000 in
set_option maxRecDepth 100000 in
theorem toAnswer_any {w : World} {v : Value} {x : Ans} (h : AnsW w v x) (hn : x.parts ≤ 1048576000) : Calls Try.prog 33 #[v] w (MadeAns w.heap.size x w) := by
  obtain ⟨xa, xn, xc, rfl, g2, g3⟩ := h
  have e2 := g2.len
  unfold Ans.parts at hn
  rw [e2] at hn
  obtain ⟨hsz, hA, hM, hL, hb0⟩ := threeH w #[.int .i64 x.ver, .slice xa xn xc] #[.int .i64 0, .slice none 0 0] #[.int .i64 x.ver, .slice none 0 0] 53 39 39
  have HB := Lib.hid hb0
  have KE := Lib.hid (toExtS_any xa xn xc x.exts (((w.alloc (.cells #[.int .i64 x.ver, .slice xa xn xc] 53)).alloc (.cells #[.int .i64 0, .slice none 0 0] 39)).alloc (.cells #[.int .i64 x.ver, .slice none 0 0] 39)) (g2.same hb0) (by omega))
  clear g2 g3 hb0 e2
  go_enter Try.func33, Try.ntmps33
  go_wp2_with fail
  generalize (((w.alloc (.cells #[.int .i64 x.ver, .slice xa xn xc] 53)).alloc (.cells #[.int .i64 0, .slice none 0 0] 39)).alloc (.cells #[.int .i64 x.ver, .slice none 0 0] 39)) = W0 at *
  refine KE.out.mono ?_
  rintro e w2 ⟨p, u, y, rfl, ho, hb⟩
  have HBb := Lib.hid (HB.out.trans (hb.mono HB.out.size))
  have hM3 := (hb.block (w.heap.size + 1) (by omega)).trans hM
  have hL3 := (hb.block (w.heap.size + 2) (by omega)).trans hL
  have hs2 := hb.size
  have HH2 := Lib.hid (own_ans (B := W0.heap.size) (S := w2.heap.size) (k := x.ver) ho.lim (Nat.le_refl _) (Nat.le_refl _) (Nat.le_refl _))
  obtain ⟨m0, m1, q0, q1⟩ := two_cells hL3
  obtain ⟨W2, hW2⟩ : ∃ W2, W2 = w2.setCell ⟨w.heap.size + 2, 1, none⟩ (.slice p u y) := ⟨_, rfl⟩
  have hin2 : Inside (w.heap.size + 2) (w.heap.size + 3) w2 W2 := by rw [hW2]; exact set1_inside _ _ _ _
  have hsW2 : W2.heap.size = w2.heap.size := by rw [hW2]; exact World.size_setCell _ _ _
  have hL4 : W2.heap[w.heap.size + 2]? = some (.cells #[.int .i64 x.ver, .slice p u y] 39 (0, 0)) := by
    rw [hW2]; exact heap_setCell_same w2 (w.heap.size + 2) 1 _ _ (.slice p u y) hL3
  have hM4 := (hin2.block (w.heap.size + 1) (by omega) (Or.inl (by omega))).trans hM3
  have HB2 := Lib.hid (hin2.to HBb.out (by omega) HBb.out.size)
  have HH3 := Lib.hid (HH2.out.aside hin2 (Or.inl (by omega)))
  have HEQ := Lib.hid (And.intro hsz (And.intro hsW2 hs2))
  obtain ⟨l0, l1, _, _⟩ := two_cells hL4
  obtain ⟨n0, n1, r0, r1⟩ := two_cells hM4
  obtain ⟨z0, z1, hZ⟩ := two_put hM4 (.int .i64 x.ver) (.slice p u y)
  clear hM3 hL3 hL4 hM4 hZ ho hb KE hin2 hs2 hA hM hL hsz
  rw [hW2] at l0 l1 n0 n1 r0 r1 z0 z1
  go_wp2_with fail
  (try simp only [Exit.inBlock, Exit.then])
  refine bodyPost_ret (by simp [results, Try.results33, go_sem, z0, z1]; try rfl) rfl ?_
  rw [← hW2]
  have hfin := (HH3.out.aside (setPair_inside W2 (w.heap.size + 1) (.int .i64 x.ver) (.slice p u y)) (Or.inl (by have := HEQ.out.1; omega))).lower (B' := w.heap.size) (by have := HEQ.out.1; omega)
  have hfs : ((W2.setCell ⟨w.heap.size + 1, 0, none⟩ (.int .i64 x.ver)).setCell ⟨w.heap.size + 1, 1, none⟩ (.slice p u y)).heap.size = w2.heap.size := by rw [World.size_setCell, World.size_setCell]; exact HEQ.out.2.1
  exact ⟨_, rfl, by rw [hfs]; exact hfin, (HB2.out.setCell (Nat.le_succ _) _).setCell (Nat.le_succ _) _⟩
set_option maxHeartbeats 1000000 in
set_option maxRecDepth 100000 in
theorem eqHello_yes {w : World} {v v' : Value} {x : Hel} (h : HelW w v x) (h' : HelW w v' x) : Calls Try.prog 30 #[v, v'] w (Told (.bool true) w) := by
  obtain ⟨va, vn, vc, xa, xn, xc, rfl, g1, g2, g3⟩ := h
  obtain ⟨va', vn', vc', xa', xn', xc', rfl, k1, k2, k3⟩ := h'
  obtain ⟨hsz, hC, hD, hb0⟩ := two w #[.slice va vn vc, .slice xa xn xc] #[.slice va' vn' vc', .slice xa' xn' xc'] 27 27
  have HB := Lib.hid hb0
  have KE := Lib.hid (fun w0 (hb : Below w.heap.size w w0) => eqExtS_yes xa xa' xn xn' xc xc' x.exts w0 (g2.same hb) (k2.same hb))
  have KI := Lib.hid (fun w0 (hb : Below w.heap.size w w0) => eqIntS_yes va va' vn vn' vc vc' x.vers w0 (g1.same hb) (k1.same hb))
  clear g1 k1 g2 k2 g3 k3 hb0
  go_enter Try.func30, Try.ntmps30
  go_wp2_with fail
  generalize ((w.alloc (.cells #[.slice va vn vc, .slice xa xn xc] 27)).alloc (.cells #[.slice va' vn' vc', .slice xa' xn' xc'] 27)) = W0 at *
  refine (KI.out _ HB.out).mono ?_
  rintro e w1 ⟨rfl, hb⟩
  have HB1 := Lib.hid (HB.out.trans (hb.mono HB.out.size))
  obtain ⟨c0, c1, _, _⟩ := two_cells ((hb.block w.heap.size (by omega)).trans hC)
  obtain ⟨d0, d1, _, _⟩ := two_cells ((hb.block (w.heap.size + 1) (by omega)).trans hD)
  clear hb hC hD
  go_wp2_with fail
  refine (KE.out _ HB1.out).mono ?_
  rintro e w2 ⟨rfl, hb⟩
  have HB2 := Lib.hid (HB1.out.trans (hb.mono HB1.out.size))
  clear hb
  go_wp2_with fail
  go_ret
  exact ⟨rfl, HB2.out⟩
set_option maxHeartbeats 1000000 in
set_option maxRecDepth 100000 in
theorem eqAnswer_yes {w : World} {v v' : Value} {x : Ans} (h : AnsW w v x) (h' : AnsW w v' x) : Calls Try.prog 35 #[v, v'] w (Told (.bool true) w) := by
  obtain ⟨xa, xn, xc, rfl, g2, g3⟩ := h
  obtain ⟨xa', xn', xc', rfl, k2, k3⟩ := h'
  obtain ⟨hsz, hC, hD, hb0⟩ := two w #[.int .i64 x.ver, .slice xa xn xc] #[.int .i64 x.ver, .slice xa' xn' xc'] 39 39
  have HB := Lib.hid hb0
  have KE := Lib.hid (fun w0 (hb : Below w.heap.size w w0) => eqExtS_yes xa xa' xn xn' xc xc' x.exts w0 (g2.same hb) (k2.same hb))
  clear g2 k2 g3 k3 hb0
  go_enter Try.func35, Try.ntmps35
  go_wp2_with fail
  generalize ((w.alloc (.cells #[.int .i64 x.ver, .slice xa xn xc] 39)).alloc (.cells #[.int .i64 x.ver, .slice xa' xn' xc'] 39)) = W0 at *
  have HB1 := HB
  refine (KE.out _ HB1.out).mono ?_
  rintro e w2 ⟨rfl, hb⟩
  have HB2 := Lib.hid (HB1.out.trans (hb.mono HB1.out.size))
  clear hb
  go_wp2_with fail
  go_ret
  exact ⟨rfl, HB2.out⟩
end Go.Proofs.Ytcpnchjgklemgaa
namespace Go.Proofs.Ytcpnchjgklemgaa
open Go.ChangeShapes Go.WideShapes Go.ChangeAt Go.RowKit
set_option linter.unusedVariables false

set_option maxHeartbeats 2000000 in
set_option maxRecDepth 100000 in
theorem markExtS_any (S B : Nat) (a : Option Addr) (n c j0 : Nat) (l : List Vl) (w : World) (h : OwnVB S 99 3 w B a n c l) (h0 : j0 ≤ 100000000000) (hn : n ≤ 1000000000) (hit : itemsOf l ≤ 1000000000) :
    Calls Try.prog 84 #[.slice a n c, .int .i64 j0] w fun e w' => e = .returned (.int .i64 ((j0 + n + itemsOf l : Nat) : Int)) ∧ OwnVB S 99 3 w' B a n c (marksV j0 l) ∧ Inside B S w w' := by
  have H := Lib.hid h
  have hln := Lib.hid h.len
  clear h
  go_enter Try.func84, Try.ntmps84
  go_wp2_with fail
  go_loopw [1, 5] (fun q i wr => ∃ j : Nat, j ≤ n ∧ i = .int .i64 j ∧ q = .int .i64 ((j0 + j + itemsOf (l.take j) : Nat) : Int) ∧ OwnVB S 99 3 wr B a n c (marksV j0 (l.take j) ++ l.drop j) ∧ Inside B S w wr) (fun _ i _ => n - (intOf i).toNat)
  case atStart => exact ⟨0, Nat.zero_le _, rfl, by simp [itemsOf], by simpa [marksV] using H.out, Inside.refl _ _ _⟩
  case round =>
    obtain ⟨j, hj, rfl, rfl, hown, hg⟩ := hrel
    by_cases hlt : j < n
    · obtain ⟨x, hx⟩ : ∃ x, l[j]? = some x := ⟨_, List.getElem?_eq_getElem (by rw [hln.out]; exact hlt)⟩
      have hst := itemsOf_at hx
      have hle := itemsOf_le l (j + 1)
      have hpre : (marksV j0 (l.take j)).length = j := by rw [marksV_len, List.length_take, hln.out]; omega
      rw [drop_at hx] at hown
      have hmid := get_mid _ j hpre x (l.drop (j + 1))
      obtain ⟨q, hq⟩ : ∃ q : Nat, q = j0 + j + itemsOf (l.take j) := ⟨_, rfl⟩
      have hqb : q ≤ 200000000000 := by omega
      have hnext : j0 + (j + 1) + itemsOf (l.take (j + 1)) = q + 1 + x.items.length := by omega
      have hxl : x.items.length ≤ 1000000000 := by omega
      rw [← hq]
      obtain ⟨hs, h1, h2, hL⟩ := hown
      obtain ⟨g, e, _, _⟩ := h1.head (by omega)
      subst e
      have hp := OwnVB.putNum ⟨hs, h1, h2, hL⟩ hmid (q : Int)
      rw [set_mid _ j hpre] at hp
      have hf0 := h1.2.frozenAt (j * 2)
      obtain ⟨u0, hu0⟩ := row_cell h1.2 (k := j * 2) (by omega)
      obtain ⟨hs2, k1, k2, kL⟩ := hp.1
      have hjv : j < hs2.length := by rw [k2.1]; simp; omega
      have hmid2 := get_mid _ j hpre (⟨(q : Int), x.items⟩ : Vl) (l.drop (j + 1))
      have hv := List.getElem?_eq_getElem hjv
      obtain ⟨v, hvv⟩ : ∃ v, v = hs2[j] := ⟨_, rfl⟩
      rw [← hvv] at hv
      obtain ⟨vn, vp, vm, vc⟩ := v
      obtain ⟨e1, ho, _⟩ := k2.2.1 j _ _ hv hmid2
      dsimp only at ho
      have hc1 := (k1.items Vh.enc_len).at_ (j := j) (by omega)
      obtain ⟨b', o', g', eb, hg', hcell⟩ := hc1
      cases eb
      rw [hv] at hg'
      cases hg'
      have hhdr := hcell 1 _ rfl
      dsimp only at hhdr
      have hvm : vm = x.items.length := by rw [← ho.len]
      subst hvm
      have HMK := Lib.hid (markIntS_any B vp x.items.length vc (q + 1) x.items _ ho (by omega) (by omega))
      have HIN := Lib.hid (hg.trans hp.2)
      have HOV := Lib.hid (fun (w' : World) (y : List Int) => OwnVB.over (w' := w') (y := y) k1 k2 kL hmid2 hv)
      have HX := Lib.hid hx
      have HPRE := Lib.hid hpre
      have HQ := Lib.hid hq
      have HN := Lib.hid hnext
      clear hx hpre hmid hmid2 h1 h2 hL hp k1 k2 kL hv hvv e1 ho hcell hg hq hst hnext
      simp only [Nat.zero_add] at hhdr
      go_wp2_with fail
      refine HMK.out.mono ?_
      rintro e w2 ⟨rfl, ho2, hg2⟩
      obtain ⟨k3, hi3⟩ := HOV.out _ _ hg2 ho2
      rw [set_mid _ j HPRE.out] at k3
      have HOW := Lib.hid k3
      have HIN2 := Lib.hid (HIN.out.trans hi3)
      clear k3 hi3 ho2 hg2 HOV HMK
      go_wp2_with fail
      go_roundw
      case rel =>
        refine ⟨j + 1, by omega, by go_num, ?_, ?_, HIN2.out⟩
        · rw [HN.out]
          congr 1
        · rw [marksV_take j0 HX.out, List.append_assoc, ← HQ.out]
          exact HOW.out
      case measure => simp [intOf]; omega
    · obtain rfl : j = n := by omega
      have hall : l.take j = l := List.take_of_length_le (by rw [hln.out]; omega)
      have hnone : l.drop j = [] := List.drop_eq_nil_of_le (by rw [hln.out]; omega)
      rw [hall, hnone, List.append_nil] at hown
      rw [hall]
      have HW := Lib.hid hown
      have HG := Lib.hid hg
      clear hown hg hall hnone
      go_wp2_with fail
      go_ret
      exact ⟨rfl, HW.out, HG.out⟩
set_option maxHeartbeats 2000000 in
set_option maxRecDepth 100000 in
theorem heldExtS_any (a : Option Addr) (n c j0 : Nat) (l : List Vl) (w : World) (h : Vals w a n (marksV j0 l)) (h0 : j0 ≤ 100000000000) (hn : n ≤ 1000000000) (hit : itemsOf l ≤ 1000000000) :
    Calls Try.prog 86 #[.slice a n c, .int .i64 j0] w (Told (.int .i64 ((j0 + n + itemsOf l : Nat) : Int)) w) := by
  have H := Lib.hid h
  have hln : Hid (l.length = n) := Lib.hid (by rw [← h.len, marksV_len])
  clear h
  go_enter Try.func86, Try.ntmps86
  go_wp2_with fail
  go_loopw [1, 5] (fun q i wr => ∃ j : Nat, j ≤ n ∧ i = .int .i64 j ∧ q = .int .i64 ((j0 + j + itemsOf (l.take j) : Nat) : Int) ∧ Below w.heap.size w wr) (fun _ i _ => n - (intOf i).toNat)
  case atStart => exact ⟨0, Nat.zero_le _, rfl, by simp [itemsOf], Below.refl _ _⟩
  case round =>
    obtain ⟨j, hj, rfl, rfl, hb⟩ := hrel
    have HB := Lib.hid hb
    clear hb
    by_cases hlt : j < n
    · obtain ⟨x, hx⟩ : ∃ x, l[j]? = some x := ⟨_, List.getElem?_eq_getElem (by rw [hln.out]; exact hlt)⟩
      have hst := itemsOf_at hx
      have hle := itemsOf_le l (j + 1)
      have hmk := marksV_at j0 hx
      obtain ⟨q, hq⟩ : ∃ q : Nat, q = j0 + j + itemsOf (l.take j) := ⟨_, rfl⟩
      have hnext : j0 + (j + 1) + itemsOf (l.take (j + 1)) = q + 1 + x.items.length := by omega
      have hqb : q ≤ 200000000000 := by omega
      have hxl : x.items.length ≤ 1000000000 := by omega
      rw [← hq] at hmk ⊢
      obtain ⟨b, o, p, m, d, k, y, rfl, hy, hc0, hc1, hN, hr⟩ := (H.out.same HB.out).at_ hlt
      rw [hmk] at hy
      cases hy
      have hmx : m = x.items.length := by rw [← hN.len, marksIntS_len]
      subst hmx
      have HH := Lib.hid (heldIntS_any p x.items.length d (q + 1) wr hN (by omega) (by omega))
      have HNX := Lib.hid hnext
      clear hx hst hmk hq hN hnext
      go_wp2_with fail
      refine HH.out.mono ?_
      rintro e w2 ⟨rfl, hb2⟩
      have HB2 := Lib.hid (HB.out.trans (hb2.mono HB.out.size))
      clear hb2 hc0 hc1 HH
      go_wp2_with fail
      go_roundw
      case rel => exact ⟨j + 1, by omega, by go_num, by rw [HNX.out]; congr 1, HB2.out⟩
      case measure => simp [intOf]; omega
    · obtain rfl : j = n := by omega
      have hall : l.take j = l := List.take_of_length_le (by rw [hln.out]; omega)
      rw [hall]
      clear hall
      go_wp2_with fail
      go_ret
      exact ⟨rfl, HB.out⟩
end Go.Proofs.Ytcpnchjgklemgaa
namespace Go.Proofs.Ytcpnchjgklemgaa
open Go.ChangeShapes Go.WideShapes Go.ChangeAt Go.RowKit
set_option linter.unusedVariables false
set_option linter.unusedSimpArgs false

theorem rdHel_parts (y : List Int) : (rdHel y).parts ≤ 1000 := by
  have := rdHel_few y
  unfold Hel.parts
  omega
theorem chAns_parts (vs ts : List Int) (x : Hel) : (chAns vs ts x).parts ≤ 1000 := by
  have := chAns_few vs ts x
  unfold Ans.parts
  omega
def marksHel (k : Nat) (x : Hel) : Hel := ⟨marksIntS k x.vers.length, marksV (k + x.vers.length) x.exts⟩
def marksAns (k : Nat) (x : Ans) : Ans := ⟨x.ver, marksV k x.exts⟩
set_option maxHeartbeats 1000000 in
set_option maxRecDepth 100000 in
theorem markHello_any {S B k : Nat} {w : World} {v : Value} {x : Hel} (h : OwnHel S w B v x) (hk : k ≤ 1000000000) (hn : x.parts ≤ 1000000000) :
    Calls Try.prog 38 #[v, .int .i64 k] w fun e w' => e = .returned (.int .i64 ((k + x.parts : Nat) : Int)) ∧ OwnHel S w' B v (marksHel k x) ∧ Inside B S w w' := by
  obtain ⟨va, vn, vc, xa, xn, xc, lo, hi, lo', hi', rfl, g1, g2, h3, h4, h5, h6, h7⟩ := h
  have e1 := g1.len
  have e2 := g2.len
  unfold Hel.parts at hn
  unfold Hel.parts marksHel
  rw [e1, e2] at hn ⊢
  have HB := Lib.hid (alloc_same w (.cells #[.slice va vn vc, .slice xa xn xc] 27))
  have hC := heap_alloc_new w (.cells #[.slice va vn vc, .slice xa xn xc] 27 (0, 0))
  change (w.alloc (.cells #[.slice va vn vc, .slice xa xn xc] 27)).heap[w.heap.size]? = _ at hC
  have hlt : w.heap.size < (w.alloc (.cells #[.slice va vn vc, .slice xa xn xc] 27)).heap.size := by simp
  have KI := Lib.hid (markIntS_any lo va vn vc k x.vers (w.alloc (.cells #[.slice va vn vc, .slice xa xn xc] 27)) (g1.same HB.out) (by omega) (by omega))
  have G2 := Lib.hid (g2.same HB.out)
  have HH := Lib.hid (And.intro h3 (And.intro h4 (And.intro h5 (And.intro h6 h7))))
  have HI0 : Hid (Inside B S w (w.alloc (.cells #[.slice va vn vc, .slice xa xn xc] 27))) := Lib.hid (Inside.row (grown_below HB.out none) (fun r e => by cases e))
  have HN := Lib.hid hn
  clear g1 g2 h3 h4 h5 h6 h7 e1 e2 hn
  go_enter Try.func38, Try.ntmps38
  go_wp2_with fail
  generalize w.alloc (.cells #[.slice va vn vc, .slice xa xn xc] 27) = W0 at *
  refine KI.out.mono ?_
  rintro e w1 ⟨rfl, ho, hg⟩
  obtain ⟨h3, h4, h5, h6, h7⟩ := HH.out
  have hin : Inside lo hi W0 w1 := Inside.row hg (fun r e => by obtain ⟨ad, e1, rfl⟩ := block_of e; exact h3 ad e1)
  have hC1 := (hin.block w.heap.size hlt (Or.inr (by omega))).trans hC
  obtain ⟨c0, c1, _, _⟩ := two_cells hC1
  have HI1 := Lib.hid (HI0.out.trans (Inside.mk hin.os hin.tape hin.output hin.size (fun q hq hd => hin.block q hq (by omega))))
  have HO1 := Lib.hid ho
  have KE := Lib.hid (markExtS_any hi' lo' xa xn xc (k + vn) x.exts w1 (G2.out.aside hin h6) (by have := HN.out; omega) (by have := HN.out; omega) (by have := HN.out; omega))
  clear ho hg hin hC1 hC h3 h4 h5 h6 h7
  go_wp2_with fail
  refine KE.out.mono ?_
  rintro e w2 ⟨rfl, ho, hin2⟩
  obtain ⟨h3, h4, h5, h6, h7⟩ := HH.out
  have HI2 := Lib.hid (HI1.out.trans (Inside.mk hin2.os hin2.tape hin2.output hin2.size (fun q hq hd => hin2.block q hq (by omega))))
  have HF := Lib.hid (own_hel (B := B) (S := S) (HO1.out.aside hin2 h3 (by omega)) ho h3 h4.1 h4.2 h5.1 h5.2 h6 (Nat.le_trans h7 HI2.out.size))
  clear ho hin2 h3 h4 h5 h6 h7 c0 c1
  go_wp2_with fail
  go_ret
  rw [show k + (vn + (xn + itemsOf x.exts)) = k + vn + xn + itemsOf x.exts by omega]
  exact ⟨rfl, HF.out, HI2.out⟩
set_option maxHeartbeats 1000000 in
set_option maxRecDepth 100000 in
theorem markAnswer_any {S B k : Nat} {w : World} {v : Value} {x : Ans} (h : OwnAns S w B v x) (hk : k ≤ 1000000000) (hn : x.parts ≤ 1000000000) :
    Calls Try.prog 45 #[v, .int .i64 k] w fun e w' => e = .returned (.int .i64 ((k + x.parts : Nat) : Int)) ∧ OwnAns S w' B v (marksAns k x) ∧ Inside B S w w' := by
  obtain ⟨xa, xn, xc, lo, hi, rfl, g2, h4, h5, h7⟩ := h
  have e2 := g2.len
  unfold Ans.parts at hn
  unfold Ans.parts marksAns
  rw [e2] at hn ⊢
  have HB := Lib.hid (alloc_same w (.cells #[.int .i64 x.ver, .slice xa xn xc] 39))
  have hC := heap_alloc_new w (.cells #[.int .i64 x.ver, .slice xa xn xc] 39 (0, 0))
  change (w.alloc (.cells #[.int .i64 x.ver, .slice xa xn xc] 39)).heap[w.heap.size]? = _ at hC
  have hlt : w.heap.size < (w.alloc (.cells #[.int .i64 x.ver, .slice xa xn xc] 39)).heap.size := by simp
  have KE := Lib.hid (markExtS_any hi lo xa xn xc k x.exts (w.alloc (.cells #[.int .i64 x.ver, .slice xa xn xc] 39)) (g2.same HB.out) (by omega) (by omega) (by omega))
  have HH := Lib.hid (And.intro h4 (And.intro h5 h7))
  have HI0 : Hid (Inside B S w (w.alloc (.cells #[.int .i64 x.ver, .slice xa xn xc] 39))) := Lib.hid (Inside.row (grown_below HB.out none) (fun r e => by cases e))
  clear g2 h4 h5 h7 e2 hn hC
  go_enter Try.func45, Try.ntmps45
  go_wp2_with fail
  generalize w.alloc (.cells #[.int .i64 x.ver, .slice xa xn xc] 39) = W0 at *
  refine KE.out.mono ?_
  rintro e w2 ⟨rfl, ho, hin2⟩
  obtain ⟨h4, h5, h7⟩ := HH.out
  have HI2 := Lib.hid (HI0.out.trans (Inside.mk hin2.os hin2.tape hin2.output hin2.size (fun q hq hd => hin2.block q hq (by omega))))
  have HF := Lib.hid (own_ans (B := B) (S := S) (k := x.ver) ho h4 h5 (Nat.le_trans h7 HI2.out.size))
  clear ho hin2 h4 h5 h7
  go_wp2_with fail
  go_ret
  rw [show k + (xn + itemsOf x.exts) = k + xn + itemsOf x.exts by omega]
  exact ⟨rfl, HF.out, HI2.out⟩
set_option maxHeartbeats 1000000 in
set_option maxRecDepth 100000 in
theorem heldHello_any {k : Nat} {w : World} {v : Value} {x : Hel} (h : HelW w v (marksHel k x)) (hk : k ≤ 1000000000) (hn : x.parts ≤ 1000000000) :
    Calls Try.prog 43 #[v, .int .i64 k] w (Told (.int .i64 ((k + x.parts : Nat) : Int)) w) := by
  obtain ⟨va, vn, vc, xa, xn, xc, rfl, g1, g2, g3⟩ := h
  have e1 : x.vers.length = vn := by have := g1.len; simpa [marksHel, marksIntS_len] using this
  have e2 : x.exts.length = xn := by have := g2.len; simpa [marksHel, marksV_len] using this
  have G1 : Hid (Nums .i64 w va vn (marksIntS k vn)) := by simp only [marksHel, e1] at g1; exact Lib.hid g1
  have G2 : Hid (Vals w xa xn (marksV (k + vn) x.exts)) := by simp only [marksHel, e1] at g2; exact Lib.hid g2
  unfold Hel.parts at hn ⊢
  rw [e1, e2] at hn ⊢
  have HB := Lib.hid (alloc_same w (.cells #[.slice va vn vc, .slice xa xn xc] 27))
  have hC := heap_alloc_new w (.cells #[.slice va vn vc, .slice xa xn xc] 27 (0, 0))
  change (w.alloc (.cells #[.slice va vn vc, .slice xa xn xc] 27)).heap[w.heap.size]? = _ at hC
  have hlt : w.heap.size < (w.alloc (.cells #[.slice va vn vc, .slice xa xn xc] 27)).heap.size := by simp
  have KI := Lib.hid (heldIntS_any va vn vc k (w.alloc (.cells #[.slice va vn vc, .slice xa xn xc] 27)) (G1.out.same HB.out) (by omega) (by omega))
  have KE := Lib.hid (fun w0 (hb : Below w.heap.size w w0) => heldExtS_any xa xn xc (k + vn) x.exts w0 (G2.out.same hb) (by omega) (by omega) (by omega))
  clear g1 g2 g3 e1 e2 hn
  go_enter Try.func43, Try.ntmps43
  go_wp2_with fail
  generalize w.alloc (.cells #[.slice va vn vc, .slice xa xn xc] 27) = W0 at *
  refine KI.out.mono ?_
  rintro e w1 ⟨rfl, hb⟩
  have HB1 := Lib.hid (HB.out.trans (hb.mono HB.out.size))
  obtain ⟨c0, c1, _, _⟩ := two_cells ((hb.block w.heap.size hlt).trans hC)
  clear hb hC
  go_wp2_with fail
  refine (KE.out _ HB1.out).mono ?_
  rintro e w2 ⟨rfl, hb⟩
  have HB2 := Lib.hid (HB1.out.trans (hb.mono HB1.out.size))
  clear hb c0 c1
  go_wp2_with fail
  go_ret
  rw [show k + (vn + (xn + itemsOf x.exts)) = k + vn + xn + itemsOf x.exts by omega]
  exact ⟨rfl, HB2.out⟩
set_option maxHeartbeats 1000000 in
set_option maxRecDepth 100000 in
theorem heldAnswer_any {k : Nat} {w : World} {v : Value} {x : Ans} (h : AnsW w v (marksAns k x)) (hk : k ≤ 1000000000) (hn : x.parts ≤ 1000000000) :
    Calls Try.prog 47 #[v, .int .i64 k] w (Told (.int .i64 ((k + x.parts : Nat) : Int)) w) := by
  obtain ⟨xa, xn, xc, rfl, g2, g3⟩ := h
  simp only [marksAns]
  have e2 : x.exts.length = xn := by have := g2.len; simpa [marksAns, marksV_len] using this
  have G2 : Hid (Vals w xa xn (marksV k x.exts)) := by simp only [marksAns] at g2; exact Lib.hid g2
  unfold Ans.parts at hn ⊢
  rw [e2] at hn ⊢
  have HB := Lib.hid (alloc_same w (.cells #[.int .i64 x.ver, .slice xa xn xc] 39))
  have hC := heap_alloc_new w (.cells #[.int .i64 x.ver, .slice xa xn xc] 39 (0, 0))
  change (w.alloc (.cells #[.int .i64 x.ver, .slice xa xn xc] 39)).heap[w.heap.size]? = _ at hC
  have hlt : w.heap.size < (w.alloc (.cells #[.int .i64 x.ver, .slice xa xn xc] 39)).heap.size := by simp
  have KE := Lib.hid (fun w0 (hb : Below w.heap.size w w0) => heldExtS_any xa xn xc k x.exts w0 (G2.out.same hb) (by omega) (by omega) (by omega))
  clear g2 g3 e2 hn hC
  go_enter Try.func47, Try.ntmps47
  go_wp2_with fail
  generalize w.alloc (.cells #[.int .i64 x.ver, .slice xa xn xc] 39) = W0 at *
  refine (KE.out _ HB.out).mono ?_
  rintro e w2 ⟨rfl, hb⟩
  have HB2 := Lib.hid (HB.out.trans (hb.mono HB.out.size))
  clear hb
  go_wp2_with fail
  go_ret
  rw [show k + (xn + itemsOf x.exts) = k + xn + itemsOf x.exts by omega]
  exact ⟨rfl, HB2.out⟩
end Go.Proofs.Ytcpnchjgklemgaa
namespace Go.Proofs.Ytcpnchjgklemgaa
open Go.ChangeShapes Go.WideShapes Go.ChangeAt Go.RowKit
set_option linter.unusedVariables false

set_option maxRecDepth 100000 in
theorem trod_vals {T E I : TypeId} {f0 f1 : Field} (hT : Try.prog.underlying T = some (.slice E)) (hE : Try.prog.underlying E = some (.struct #[f0, f1])) (hone : Go.Deep.oneCellFields Try.prog #[f0, f1] = true) (hC : Try.prog.cellsOf E = 2)
    (t0 : Try.prog.underlying f0.type = some (.int .i64)) (t1 : Try.prog.underlying f1.type = some (.slice I)) (tI : Try.prog.underlying I = some (.int .i64)) (hI : Try.prog.cellsOf I = 1)
    {H : Type} {enc : TypeId × Value → H} {W : World} {fuel : Nat} {cs : List Value} {y : DataW H × List MemPlace} (h : DataW.trod enc Try.prog W 0 (fun _ => true) true fuel T cs = some y) :
    ∃ (a : Option Addr) (n c : Nat) (l : List Vl), cs = [.slice a n c] ∧ Vals W a n l ∧ (∀ x ∈ l, x.wf) ∧ n ≤ c ∧ (c : Int) ≤ 9223372036854775807 := by
  rcases Go.Deep.open_slice hT h with ⟨hcs, hx⟩ | ⟨a, len, cap, m, n, D, Pl, hcs, hb, hl, hm, hmm, hx, hi⟩
  · exact ⟨none, 0, 0, [], hcs, Vals.nothing, (fun _ h => by cases h), Nat.le_refl _, by omega⟩
  · simp only [if_true] at hmm
    subst hmm
    have each : ∀ i, i < len → ∃ x : Vl, (∃ q k e, W.cell? ((a.add (i * 2)).add 0) = some (.int .i64 x.num) ∧ W.cell? ((a.add (i * 2)).add 1) = some (.slice q k e) ∧ Nums .i64 W q k x.items ∧ k ≤ e ∧ (e : Int) ≤ 9223372036854775807) ∧ x.wf := by
      intro i hil
      obtain ⟨cs', hc, ht'⟩ := hi i (by omega)
      rw [hC] at hc
      obtain ⟨ys, k, _, _, hlen, hyl, hfs⟩ := DataW.trod_struct hE ht'
      obtain ⟨_, hcl, hat⟩ := World.cells?_some hc
      obtain ⟨o0, k0⟩ := Go.Deep.hone_of hone 0 f0 rfl
      obtain ⟨o1, k1⟩ := Go.Deep.hone_of hone 1 f1 rfl
      match cs', hlen.trans hC with
      | [c0, c1], _ =>
        have g0 := hfs 0 f0 rfl
        have g1 := hfs 1 f1 rfl
        rw [o0, k0] at g0
        rw [o1, k1] at g1
        have hys : ys.length = 2 := hyl
        obtain ⟨x0, rfl, w0⟩ := one_cell t0 g0 (by rw [List.getElem?_eq_getElem (by omega)]; rfl)
        obtain ⟨y1, g1'⟩ := trod_some g1 (by rw [List.getElem?_eq_getElem (by omega)]; rfl)
        obtain ⟨q, kk, e, l, hq, hN, hw, hr⟩ := trod_nums t1 tI hI g1'
        have hc1 : c1 = .slice q kk e := by simpa using hq
        subst hc1
        exact ⟨⟨x0, l⟩, ⟨q, kk, e, by rw [hat 0 (by omega)]; rfl, by rw [hat 1 (by omega)]; rfl, hN, hr⟩, w0, hw⟩
    have each' : ∀ i, ∃ x : Vl, i < len → (∃ q k e, W.cell? ((a.add (i * 2)).add 0) = some (.int .i64 x.num) ∧ W.cell? ((a.add (i * 2)).add 1) = some (.slice q k e) ∧ Nums .i64 W q k x.items ∧ k ≤ e ∧ (e : Int) ≤ 9223372036854775807) ∧ x.wf := fun i => by
      by_cases h : i < len
      · obtain ⟨x, hx⟩ := each i h
        exact ⟨x, fun _ => hx⟩
      · exact ⟨⟨0, []⟩, fun h' => absurd h' h⟩
    obtain ⟨g, hg⟩ := Classical.axiomOfChoice each'
    unfold maxLen at hm
    refine ⟨some a, len, m, (List.range len).map g, hcs, ⟨by simp, by omega, fun j x hj => ?_⟩, ?_, hl, by omega⟩
    · have hjl : j < len := by
        rcases Nat.lt_or_ge j len with h | h
        · exact h
        · rw [List.getElem?_eq_none (by simpa using h)] at hj; cases hj
      rw [List.getElem?_map, List.getElem?_range hjl] at hj
      cases hj
      obtain ⟨q, k, e, h0, h1, hN, hr⟩ := (hg j hjl).1
      obtain ⟨q', k', e', z0, _⟩ := (hg 0 (by omega)).1
      obtain ⟨b, o, spot⟩ := a
      have hspot : spot = none := by
        rw [addr_add, show (0 * 2 + 0) = 0 from rfl, show (⟨b, o, spot⟩ : Addr).add 0 = ⟨b, o, spot⟩ from rfl] at z0
        exact World.cell?_spot z0
      subst hspot
      have e0 : ∀ i, ((⟨b, o, none⟩ : Addr).add (j * 2)).add i = ⟨b, o + j * 2 + i, none⟩ := fun i => by
        rw [addr_add]
        unfold Addr.add
        split <;> simp_all <;> omega
      rw [e0] at h0 h1
      exact ⟨b, o, q, k, e, rfl, h0, h1, hN, hr⟩
    · intro x hx
      obtain ⟨i, hi', rfl⟩ := List.mem_map.1 hx
      exact (hg i (List.mem_range.1 hi')).2
def Hel.wf (x : Hel) : Prop := (∀ z ∈ x.vers, (Lit.int .i64 z).wf = true) ∧ ∀ z ∈ x.exts, z.wf
def Ans.wf (x : Ans) : Prop := (Lit.int .i64 x.ver).wf = true ∧ ∀ z ∈ x.exts, z.wf
set_option maxRecDepth 100000 in
theorem open_hel {E I M : TypeId} {f0 f1 g0 g1 : Field} (hE : Try.prog.underlying E = some (.struct #[f0, f1])) (hone : Go.Deep.oneCellFields Try.prog #[f0, f1] = true) (hC : Try.prog.cellsOf E = 2)
    (t0 : Try.prog.underlying f0.type = some (.slice I)) (tI : Try.prog.underlying I = some (.int .i64)) (hI : Try.prog.cellsOf I = 1)
    (t1 : Try.prog.underlying f1.type = some (.slice M)) (hM : Try.prog.underlying M = some (.struct #[g0, g1])) (honeM : Go.Deep.oneCellFields Try.prog #[g0, g1] = true) (hCM : Try.prog.cellsOf M = 2)
    (m0 : Try.prog.underlying g0.type = some (.int .i64)) (m1 : Try.prog.underlying g1.type = some (.slice I))
    {H : Type} {enc : TypeId × Value → H} {W : World} {base : Nat} {v : Value} {d : DataW H} {p : List MemPlace}
    (hval : Value.okWide Try.prog W .any base E v) (h : DataW.Trod enc Try.prog W 0 (fun _ => true) true E v d p) : ∃ x : Hel, HelW W v x ∧ x.wf := by
  obtain ⟨v0, v1, y0, y1, n, rfl, _, _, h0, h1⟩ := Go.Joins.open_agg2 hE hone hC hval h
  obtain ⟨a, k, c, l1, e1, b1, w1, r1⟩ := trod_nums t0 tI hI h0
  obtain ⟨b, m, dd, l2, e2, b2, w2, r2⟩ := trod_vals t1 hM honeM hCM m0 m1 tI hI h1
  have f1 : v0 = .slice a k c := by simpa using e1
  have f2 : v1 = .slice b m dd := by simpa using e2
  subst f1 f2
  exact ⟨⟨l1, l2⟩, ⟨a, k, c, b, m, dd, rfl, b1, b2, r1, r2⟩, w1, w2⟩
set_option maxRecDepth 100000 in
theorem open_ans {E I M : TypeId} {f0 f1 g0 g1 : Field} (hE : Try.prog.underlying E = some (.struct #[f0, f1])) (hone : Go.Deep.oneCellFields Try.prog #[f0, f1] = true) (hC : Try.prog.cellsOf E = 2)
    (t0 : Try.prog.underlying f0.type = some (.int .i64)) (tI : Try.prog.underlying I = some (.int .i64)) (hI : Try.prog.cellsOf I = 1)
    (t1 : Try.prog.underlying f1.type = some (.slice M)) (hM : Try.prog.underlying M = some (.struct #[g0, g1])) (honeM : Go.Deep.oneCellFields Try.prog #[g0, g1] = true) (hCM : Try.prog.cellsOf M = 2)
    (m0 : Try.prog.underlying g0.type = some (.int .i64)) (m1 : Try.prog.underlying g1.type = some (.slice I))
    {H : Type} {enc : TypeId × Value → H} {W : World} {base : Nat} {v : Value} {d : DataW H} {p : List MemPlace}
    (hval : Value.okWide Try.prog W .any base E v) (h : DataW.Trod enc Try.prog W 0 (fun _ => true) true E v d p) : ∃ x : Ans, AnsW W v x ∧ x.wf := by
  obtain ⟨v0, v1, y0, y1, n, rfl, _, _, h0, h1⟩ := Go.Joins.open_agg2 hE hone hC hval h
  obtain ⟨x0, rfl, w0⟩ := one_cell t0 h0 rfl
  obtain ⟨b, m, dd, l2, e2, b2, w2, r2⟩ := trod_vals t1 hM honeM hCM m0 m1 tI hI h1
  have f2 : v1 = .slice b m dd := by simpa using e2
  subst f2
  exact ⟨⟨x0, l2⟩, ⟨b, m, dd, rfl, b2, r2⟩, w0, w2⟩
end Go.Proofs.Ytcpnchjgklemgaa
