/- A field's value off the cursor, by the program. -/
import Derived.Test.YtjmabidahofbbaaNextI
import Derived.Test.YtjmabidahofbbaaRpM
import Derived.Test.YtjmabidahofbbaaFitsF
namespace Go.Proofs.Ytjmabidahofbbaa
open Go.ChangeShapes Go.WideShapes Go.ChangeAt Go.RowKit
set_option linter.unusedVariables false

theorem two (w : World) (A B : Array Value) (t1 t2 : TypeId) :
    w.heap.size + 2 = ((w.alloc (.cells A t1)).alloc (.cells B t2)).heap.size ∧
    ((w.alloc (.cells A t1)).alloc (.cells B t2)).heap[w.heap.size]? = some (.cells A t1 (0, 0)) ∧
    ((w.alloc (.cells A t1)).alloc (.cells B t2)).heap[w.heap.size + 1]? = some (.cells B t2 (0, 0)) ∧
    Below w.heap.size w ((w.alloc (.cells A t1)).alloc (.cells B t2)) := by
  refine ⟨by simp, ?_, ?_, ((Below.refl _ w).alloc (Nat.le_refl _) _).alloc (by simp) _⟩
  · rw [Below.heap_alloc _ _ _ (by simp)]
    exact heap_alloc_new w _
  · have := heap_alloc_new (w.alloc (.cells A t1)) (.cells B t2)
    simpa using this
/-- What a function leaves that reads a field's value off the cursor at place k. -/
def RfTold (tI : TypeId) (g : Nat) (b : Option Addr) (m d : Nat) (x : Fd) (y : List Int) (k : Nat) (w : World) (e : Ending) (w' : World) : Prop :=
  match rdF x y k with
  | none => Rdn g w e w'
  | some (v, k') => ∃ p q r, e = .returned (.tuple #[.agg #[.int .i64 v.num, .slice p q r], .bool true]) ∧ Own .i64 tI w' w.heap.size p q r v.items ∧ Cur w' g b m d k' ∧ w.grownBy w' (some g)
theorem Cur.set1 {w : World} {g m d k R : Nat} {b : Option Addr} (h : Cur w g b m d k) (hR : g ≠ R) (o : Nat) (u : Value) : Cur (w.setCell ⟨R, o, none⟩ u) g b m d k := by
  unfold Cur
  rw [Below.heap_setCell _ _ _ _ (by dsimp only; omega)]
  exact h

set_option maxHeartbeats 2000000 in
set_option maxRecDepth 100000 in
theorem readFieldNum_fail (xm xt xi : Int) (g : Nat) (b : Option Addr) (m d k : Nat) (w : World) (h : Cur w g b m d k)
    (hr : ∀ w0, Below w.heap.size w w0 → Calls Try.prog 105 #[.pointer (some ⟨g, 0, none⟩)] w0 (Rdn g w0)) :
    Calls Try.prog 83 #[.pointer (some ⟨g, 0, none⟩), .agg #[.int .i64 1, .int .i64 xm, .int .i64 xt, .int .i64 xi]] w (Rdn g w) := by
  have hgl := h.lt
  have KR := Lib.hid hr
  obtain ⟨hsz, hX, hM, hB⟩ := two w #[.int .i64 1, .int .i64 xm, .int .i64 xt, .int .i64 xi] #[.int .i64 0, .slice none 0 0] 70 73
  clear h hr
  unfold Rdn at KR
  unfold Rdn
  have F0 := numCode_read
  go_enter Try.func83, Try.ntmps83
  go_wp2_with fail
  generalize ((w.alloc (.cells #[.int .i64 1, .int .i64 xm, .int .i64 xt, .int .i64 xi] 70)).alloc (.cells #[.int .i64 0, .slice none 0 0] 73)) = W2 at *
  refine (codeOf_num _).mono ?_
  rintro e w3 ⟨rfl, hb3⟩
  unfold numCode
  have hX3 : w3.heap[w.heap.size]? = some (.cells #[.int .i64 1, .int .i64 xm, .int .i64 xt, .int .i64 xi] 70 (0, 0)) := by rw [hb3.block _ (by omega)]; exact hX
  have hM3 : w3.heap[w.heap.size + 1]? = some (.cells #[.int .i64 0, .slice none 0 0] 73 (0, 0)) := by rw [hb3.block _ (by omega)]; exact hM
  have hs3 : w.heap.size + 2 ≤ w3.heap.size := by have := hb3.size; omega
  have HB3 := Lib.hid (hB.trans (hb3.mono hB.size))
  clear hX hM hB hb3 hsz
  go_wp2_with fail
  refine (KR.out w3 HB3.out).mono ?_
  rintro e w4 ⟨rfl, hg4⟩
  have hs4 : w.heap.size + 2 ≤ w4.heap.size := Nat.le_trans hs3 hg4.size
  have hM4 : w4.heap[w.heap.size + 1]? = some (.cells #[.int .i64 0, .slice none 0 0] 73 (0, 0)) := by rw [hg4.block _ (by omega) (by simp; omega)]; exact hM3
  have HG5 : Hid (w.grownBy (w4.alloc (.cells #[.int .i64 0, .slice none 0 0] 73)) (some g)) := Lib.hid (((grown_below HB3.out (some g)).trans hg4).trans (grown_below (alloc_same _ _) _))
  have hM5 : (w4.alloc (.cells #[.int .i64 0, .slice none 0 0] 73)).heap[w.heap.size + 1]? = some (.cells #[.int .i64 0, .slice none 0 0] 73 (0, 0)) := by rw [Below.heap_alloc _ _ _ (by omega)]; exact hM4
  obtain ⟨m0, m1, g0, g1⟩ := two_cells hM5
  obtain ⟨z0, z1, hZ⟩ := two_put hM5 (.int .i64 0) (.slice none 0 0)
  clear hX3 hM3 hg4 hM4 hM5 hZ
  go_wp2_with fail
  (try simp only [Exit.inBlock, Exit.then])
  refine bodyPost_ret (by simp [results, Try.results83, go_sem, z0, z1]; try rfl) rfl ?_
  exact ⟨rfl, grown_set2 HG5.out (by omega) _ _⟩

set_option maxHeartbeats 2000000 in
set_option maxRecDepth 100000 in
theorem readFieldNum_unfit (xm xt xi : Int) (g : Nat) (b : Option Addr) (m d k : Nat) (num : Int) (q : Nat) (it : List Int) (k2 : Nat) (hq : q ≤ 1000000000) (w : World) (h : Cur w g b m d k)
    (hr : ∀ w0, Below w.heap.size w w0 → Calls Try.prog 105 #[.pointer (some ⟨g, 0, none⟩)] w0 (Rdd g b m d num q it k2 w0)) (hf : fitsField ⟨1, xm, xt, xi⟩ num it = false) :
    Calls Try.prog 83 #[.pointer (some ⟨g, 0, none⟩), .agg #[.int .i64 1, .int .i64 xm, .int .i64 xt, .int .i64 xi]] w (Rdn g w) := by
  have hgl := h.lt
  have KR := Lib.hid hr
  have KV := Lib.hid (fun w0 p r (h0 : Nums .i64 w0 p q it) => fitsField_any ⟨1, xm, xt, xi⟩ num p q r it w0 h0)
  rw [hf] at KV
  unfold Fd.val at KV
  obtain ⟨hsz, hX, hM, hB⟩ := two w #[.int .i64 1, .int .i64 xm, .int .i64 xt, .int .i64 xi] #[.int .i64 0, .slice none 0 0] 70 73
  clear h hr hf
  unfold Rdd at KR
  unfold Rdn
  have F0 := numCode_read
  go_enter Try.func83, Try.ntmps83
  go_wp2_with fail
  generalize ((w.alloc (.cells #[.int .i64 1, .int .i64 xm, .int .i64 xt, .int .i64 xi] 70)).alloc (.cells #[.int .i64 0, .slice none 0 0] 73)) = W2 at *
  refine (codeOf_num _).mono ?_
  rintro e w3 ⟨rfl, hb3⟩
  unfold numCode
  have hX3 : w3.heap[w.heap.size]? = some (.cells #[.int .i64 1, .int .i64 xm, .int .i64 xt, .int .i64 xi] 70 (0, 0)) := by rw [hb3.block _ (by omega)]; exact hX
  have hM3 : w3.heap[w.heap.size + 1]? = some (.cells #[.int .i64 0, .slice none 0 0] 73 (0, 0)) := by rw [hb3.block _ (by omega)]; exact hM
  have hs3 : w.heap.size + 2 ≤ w3.heap.size := by have := hb3.size; omega
  have HB3 := Lib.hid (hB.trans (hb3.mono hB.size))
  clear hX hM hB hb3 hsz
  go_wp2_with fail
  refine (KR.out w3 HB3.out).mono ?_
  rintro e w4 ⟨p, r, rfl, hfx, hc4, hg4⟩
  have hs4 : w.heap.size + 2 ≤ w4.heap.size := Nat.le_trans hs3 hg4.size
  have hX4 : w4.heap[w.heap.size]? = some (.cells #[.int .i64 1, .int .i64 xm, .int .i64 xt, .int .i64 xi] 70 (0, 0)) := by rw [hg4.block _ (by omega) (by simp; omega)]; exact hX3
  have hM4 : w4.heap[w.heap.size + 1]? = some (.cells #[.int .i64 0, .slice none 0 0] 73 (0, 0)) := by rw [hg4.block _ (by omega) (by simp; omega)]; exact hM3
  have HG5 : Hid (w.grownBy (w4.alloc (.cells #[.int .i64 num, .slice p q r] 73)) (some g)) := Lib.hid (((grown_below HB3.out (some g)).trans hg4).trans (grown_below (alloc_same _ _) _))
  have HC5 : Hid (Cur (w4.alloc (.cells #[.int .i64 num, .slice p q r] 73)) g b m d k2) := Lib.hid (hc4.same (alloc_same _ _))
  have hX5 : (w4.alloc (.cells #[.int .i64 num, .slice p q r] 73)).heap[w.heap.size]? = some (.cells #[.int .i64 1, .int .i64 xm, .int .i64 xt, .int .i64 xi] 70 (0, 0)) := by rw [Below.heap_alloc _ _ _ (by omega)]; exact hX4
  have hM5 : (w4.alloc (.cells #[.int .i64 num, .slice p q r] 73)).heap[w.heap.size + 1]? = some (.cells #[.int .i64 0, .slice none 0 0] 73 (0, 0)) := by rw [Below.heap_alloc _ _ _ (by omega)]; exact hM4
  have hL5 : (w4.alloc (.cells #[.int .i64 num, .slice p q r] 73)).heap[w4.heap.size]? = some (.cells #[.int .i64 num, .slice p q r] 73 (0, 0)) := heap_alloc_new w4 _
  have hs5 : w4.heap.size + 1 = (w4.alloc (.cells #[.int .i64 num, .slice p q r] 73)).heap.size := by simp
  have HN5 := Lib.hid (hfx _ (hg4.trans (grown_below (alloc_same w4 (.cells #[.int .i64 num, .slice p q r] 73)) (some g))))
  have x0 := (block_cell hX5 0).trans rfl
  have x1 := (block_cell hX5 1).trans rfl
  have x2 := (block_cell hX5 2).trans rfl
  have x3 := (block_cell hX5 3).trans rfl
  obtain ⟨l0, l1, _, _⟩ := two_cells hL5
  clear hX3 hM3 hX4 hM4 hg4 hc4 hfx hX5
  go_wp2_with fail
  clear x0 x1 x2 x3 l0 l1
  generalize (w4.alloc (.cells #[.int .i64 num, .slice p q r] 73)) = W5 at *
  refine (KV.out W5 p r HN5.out).mono ?_
  rintro e w6 ⟨rfl, hb6⟩
  have hM6 : w6.heap[w.heap.size + 1]? = some (.cells #[.int .i64 0, .slice none 0 0] 73 (0, 0)) := by rw [hb6.block _ (by omega)]; exact hM5
  have HG6 := Lib.hid (HG5.out.trans (grown_below hb6 (some g)))
  obtain ⟨m0, m1, g0, g1⟩ := two_cells hM6
  obtain ⟨z0, z1, hZ⟩ := two_put hM6 (.int .i64 0) (.slice none 0 0)
  clear hM5 hM6 hb6 hL5 hZ
  go_wp2_with fail
  (try simp only [Exit.inBlock, Exit.then])
  refine bodyPost_ret (by simp [results, Try.results83, go_sem, z0, z1]; try rfl) rfl ?_
  exact ⟨rfl, grown_set2 HG6.out (by omega) _ _⟩

set_option maxHeartbeats 2000000 in
set_option maxRecDepth 100000 in
theorem readFieldNum_fit (xm xt xi : Int) (g : Nat) (b : Option Addr) (m d k : Nat) (num : Int) (q : Nat) (it : List Int) (k2 : Nat) (hq : q ≤ 1000000000) (w : World) (h : Cur w g b m d k)
    (hr : ∀ w0, Below w.heap.size w w0 → Calls Try.prog 105 #[.pointer (some ⟨g, 0, none⟩)] w0 (Rdd g b m d num q it k2 w0)) (hf : fitsField ⟨1, xm, xt, xi⟩ num it = true) :
    Calls Try.prog 83 #[.pointer (some ⟨g, 0, none⟩), .agg #[.int .i64 1, .int .i64 xm, .int .i64 xt, .int .i64 xi]] w (fun e w' => ∃ p r, e = .returned (.tuple #[.agg #[.int .i64 num, .slice p q r], .bool true]) ∧ Own .i64 3 w' w.heap.size p q r it ∧ Cur w' g b m d k2 ∧ w.grownBy w' (some g)) := by
  have hgl := h.lt
  have KR := Lib.hid hr
  have KV := Lib.hid (fun w0 p r (h0 : Nums .i64 w0 p q it) => fitsField_any ⟨1, xm, xt, xi⟩ num p q r it w0 h0)
  rw [hf] at KV
  unfold Fd.val at KV
  obtain ⟨i0, hi, hz0, hz1, hz2⟩ := info_parts infoIntS
  have HI := Lib.hid (And.intro hi (And.intro hz0 (And.intro hz1 hz2)))
  clear hi hz0 hz1 hz2
  obtain ⟨hsz, hX, hM, hB⟩ := two w #[.int .i64 1, .int .i64 xm, .int .i64 xt, .int .i64 xi] #[.int .i64 0, .slice none 0 0] 70 73
  clear h hr hf
  unfold Rdd at KR
  have F0 := numCode_read
  go_enter Try.func83, Try.ntmps83
  go_wp2_with fail
  generalize ((w.alloc (.cells #[.int .i64 1, .int .i64 xm, .int .i64 xt, .int .i64 xi] 70)).alloc (.cells #[.int .i64 0, .slice none 0 0] 73)) = W2 at *
  refine (codeOf_num _).mono ?_
  rintro e w3 ⟨rfl, hb3⟩
  unfold numCode
  have hX3 : w3.heap[w.heap.size]? = some (.cells #[.int .i64 1, .int .i64 xm, .int .i64 xt, .int .i64 xi] 70 (0, 0)) := by rw [hb3.block _ (by omega)]; exact hX
  have hM3 : w3.heap[w.heap.size + 1]? = some (.cells #[.int .i64 0, .slice none 0 0] 73 (0, 0)) := by rw [hb3.block _ (by omega)]; exact hM
  have hs3 : w.heap.size + 2 ≤ w3.heap.size := by have := hb3.size; omega
  have HB3 := Lib.hid (hB.trans (hb3.mono hB.size))
  clear hX hM hB hb3 hsz
  go_wp2_with fail
  refine (KR.out w3 HB3.out).mono ?_
  rintro e w4 ⟨p, r, rfl, hfx, hc4, hg4⟩
  have hs4 : w.heap.size + 2 ≤ w4.heap.size := Nat.le_trans hs3 hg4.size
  have hX4 : w4.heap[w.heap.size]? = some (.cells #[.int .i64 1, .int .i64 xm, .int .i64 xt, .int .i64 xi] 70 (0, 0)) := by rw [hg4.block _ (by omega) (by simp; omega)]; exact hX3
  have hM4 : w4.heap[w.heap.size + 1]? = some (.cells #[.int .i64 0, .slice none 0 0] 73 (0, 0)) := by rw [hg4.block _ (by omega) (by simp; omega)]; exact hM3
  have HG5 : Hid (w.grownBy (w4.alloc (.cells #[.int .i64 num, .slice p q r] 73)) (some g)) := Lib.hid (((grown_below HB3.out (some g)).trans hg4).trans (grown_below (alloc_same _ _) _))
  have HC5 : Hid (Cur (w4.alloc (.cells #[.int .i64 num, .slice p q r] 73)) g b m d k2) := Lib.hid (hc4.same (alloc_same _ _))
  have hX5 : (w4.alloc (.cells #[.int .i64 num, .slice p q r] 73)).heap[w.heap.size]? = some (.cells #[.int .i64 1, .int .i64 xm, .int .i64 xt, .int .i64 xi] 70 (0, 0)) := by rw [Below.heap_alloc _ _ _ (by omega)]; exact hX4
  have hM5 : (w4.alloc (.cells #[.int .i64 num, .slice p q r] 73)).heap[w.heap.size + 1]? = some (.cells #[.int .i64 0, .slice none 0 0] 73 (0, 0)) := by rw [Below.heap_alloc _ _ _ (by omega)]; exact hM4
  have hL5 : (w4.alloc (.cells #[.int .i64 num, .slice p q r] 73)).heap[w4.heap.size]? = some (.cells #[.int .i64 num, .slice p q r] 73 (0, 0)) := heap_alloc_new w4 _
  have hs5 : w4.heap.size + 1 = (w4.alloc (.cells #[.int .i64 num, .slice p q r] 73)).heap.size := by simp
  have HN5 := Lib.hid (hfx _ (hg4.trans (grown_below (alloc_same w4 (.cells #[.int .i64 num, .slice p q r] 73)) (some g))))
  have x0 := (block_cell hX5 0).trans rfl
  have x1 := (block_cell hX5 1).trans rfl
  have x2 := (block_cell hX5 2).trans rfl
  have x3 := (block_cell hX5 3).trans rfl
  obtain ⟨l0, l1, _, _⟩ := two_cells hL5
  clear hX3 hM3 hX4 hM4 hg4 hc4 hfx hX5
  go_wp2_with fail
  clear x0 x1 x2 x3 l0 l1
  generalize (w4.alloc (.cells #[.int .i64 num, .slice p q r] 73)) = W5 at *
  refine (KV.out W5 p r HN5.out).mono ?_
  rintro e w6 ⟨rfl, hb6⟩
  have hM6 : w6.heap[w.heap.size + 1]? = some (.cells #[.int .i64 0, .slice none 0 0] 73 (0, 0)) := by rw [hb6.block _ (by omega)]; exact hM5
  have HG6 := Lib.hid (HG5.out.trans (grown_below hb6 (some g)))
  have hL6 : w6.heap[w4.heap.size]? = some (.cells #[.int .i64 num, .slice p q r] 73 (0, 0)) := by rw [hb6.block _ (by omega)]; exact hL5
  have HC6 := Lib.hid (HC5.out.same hb6)
  have HN6 := Lib.hid (HN5.out.same hb6)
  have hs6 : w4.heap.size + 1 ≤ w6.heap.size := by have := hb6.size; omega
  obtain ⟨l0, l1, _, _⟩ := two_cells hL6
  have HM6 := Lib.hid hM6
  have HL6 := Lib.hid hL6
  clear hM5 hM6 hb6 hL5 hL6
  go_wp2_with (at_builtin; refine wpl_app _ rfl (.const (.slice none 0 0)) (.tmp 27) 29 rfl .i64 3 i0 (.int .i64 0) 8 Try.underlying29 HI.out.1 HI.out.2.1 HI.out.2.2.1 HI.out.2.2.2 rfl rfl (Own.nil (B := w6.heap.size)) rfl HN6.out (by omega) ?c1 ?c2 ?_)
  case c1 => omega
  case c2 => exact Nat.le_refl _
  intro a7 c7 w7 ho7 hb7
  have hs7 := hb7.size
  have hL7 : w7.heap[w4.heap.size]? = some (.cells #[.int .i64 num, .slice p q r] 73 (0, 0)) := by rw [hb7.block _ (by omega)]; exact HL6.out
  have hM7 : w7.heap[w.heap.size + 1]? = some (.cells #[.int .i64 0, .slice none 0 0] 73 (0, 0)) := by rw [hb7.block _ (by omega)]; exact HM6.out
  have HC7 := Lib.hid (HC6.out.same hb7)
  have HG7 := Lib.hid (HG6.out.trans (grown_below hb7 (some g)))
  have hout : ∀ z, z < w6.heap.size → ∀ ad, a7 = some ad → ad.block ≠ z := fun z hz ad e => by
    have := (ho7.span ad e).1
    omega
  have HO7 := Lib.hid ho7
  have HOUT := Lib.hid hout
  have h8 : (w7.setCell ⟨w4.heap.size, 1, none⟩ (.slice a7 q c7)).heap[w4.heap.size]? = some (.cells #[.int .i64 num, .slice a7 q c7] 73 (0, 0)) := heap_setCell_same w7 w4.heap.size 1 _ _ (.slice a7 q c7) hL7
  have hM8 : (w7.setCell ⟨w4.heap.size, 1, none⟩ (.slice a7 q c7)).heap[w.heap.size + 1]? = some (.cells #[.int .i64 0, .slice none 0 0] 73 (0, 0)) := by
    rw [Below.heap_setCell _ _ _ _ (by dsimp only; omega)]; exact hM7
  obtain ⟨_, c1, _, f1⟩ := two_cells hL7
  obtain ⟨l0, l1, _, _⟩ := two_cells h8
  obtain ⟨m0, m1, g0, g1⟩ := two_cells hM8
  obtain ⟨z0, z1, hZ⟩ := two_put hM8 (.int .i64 num) (.slice a7 q c7)
  clear ho7 hb7 hL7 hM7 hout h8 hM8 hZ
  go_wp2_with fail
  (try simp only [Exit.inBlock, Exit.then])
  refine bodyPost_ret (by simp [results, Try.results83, go_sem, z0, z1]; try rfl) rfl ?_
  refine ⟨a7, c7, rfl, (((HO7.out.lower (by omega)).set (HOUT.out _ (by omega)) _ _).set (HOUT.out _ (by omega)) _ _).set (HOUT.out _ (by omega)) _ _, (HC7.out.set1 (by omega) _ _).set2 (by omega) _ _, grown_set2 (grown_on HG7.out (set_grown w7 w4.heap.size 1 _) (fun r e => Or.inr (by cases e; omega))) (by omega) _ _⟩

set_option maxHeartbeats 2000000 in
set_option maxRecDepth 100000 in
theorem readFieldItems_fail (xk : Int) (xm xt xi : Int) (g : Nat) (b : Option Addr) (m d k : Nat) (w : World) (h : Cur w g b m d k) (hk : xk = 2 ∨ xk = 3)
    (hr : ∀ w0, Below w.heap.size w w0 → Calls Try.prog 102 #[.pointer (some ⟨g, 0, none⟩)] w0 (Rdn g w0)) :
    Calls Try.prog 83 #[.pointer (some ⟨g, 0, none⟩), .agg #[.int .i64 xk, .int .i64 xm, .int .i64 xt, .int .i64 xi]] w (Rdn g w) := by
  have hgl := h.lt
  have KR := Lib.hid hr
  have HK := Lib.hid hk
  obtain ⟨hsz, hX, hM, hB⟩ := two w #[.int .i64 xk, .int .i64 xm, .int .i64 xt, .int .i64 xi] #[.int .i64 0, .slice none 0 0] 70 73
  clear h hr hk
  unfold Rdn at KR
  unfold Rdn
  have F0 := itemsCode_read
  go_enter Try.func83, Try.ntmps83
  go_wp2_with fail
  generalize ((w.alloc (.cells #[.int .i64 xk, .int .i64 xm, .int .i64 xt, .int .i64 xi] 70)).alloc (.cells #[.int .i64 0, .slice none 0 0] 73)) = W2 at *
  refine (codeOf_more HK.out _).mono ?_
  rintro e w3 ⟨rfl, hb3⟩
  unfold itemsCode
  have hX3 : w3.heap[w.heap.size]? = some (.cells #[.int .i64 xk, .int .i64 xm, .int .i64 xt, .int .i64 xi] 70 (0, 0)) := by rw [hb3.block _ (by omega)]; exact hX
  have hM3 : w3.heap[w.heap.size + 1]? = some (.cells #[.int .i64 0, .slice none 0 0] 73 (0, 0)) := by rw [hb3.block _ (by omega)]; exact hM
  have hs3 : w.heap.size + 2 ≤ w3.heap.size := by have := hb3.size; omega
  have HB3 := Lib.hid (hB.trans (hb3.mono hB.size))
  clear hX hM hB hb3 hsz
  go_wp2_with fail
  refine (KR.out w3 HB3.out).mono ?_
  rintro e w4 ⟨rfl, hg4⟩
  have hs4 : w.heap.size + 2 ≤ w4.heap.size := Nat.le_trans hs3 hg4.size
  have hM4 : w4.heap[w.heap.size + 1]? = some (.cells #[.int .i64 0, .slice none 0 0] 73 (0, 0)) := by rw [hg4.block _ (by omega) (by simp; omega)]; exact hM3
  have HG5 : Hid (w.grownBy (w4.alloc (.cells #[.int .i64 0, .slice none 0 0] 73)) (some g)) := Lib.hid (((grown_below HB3.out (some g)).trans hg4).trans (grown_below (alloc_same _ _) _))
  have hM5 : (w4.alloc (.cells #[.int .i64 0, .slice none 0 0] 73)).heap[w.heap.size + 1]? = some (.cells #[.int .i64 0, .slice none 0 0] 73 (0, 0)) := by rw [Below.heap_alloc _ _ _ (by omega)]; exact hM4
  obtain ⟨m0, m1, g0, g1⟩ := two_cells hM5
  obtain ⟨z0, z1, hZ⟩ := two_put hM5 (.int .i64 0) (.slice none 0 0)
  clear hX3 hM3 hg4 hM4 hM5 hZ
  go_wp2_with fail
  (try simp only [Exit.inBlock, Exit.then])
  refine bodyPost_ret (by simp [results, Try.results83, go_sem, z0, z1]; try rfl) rfl ?_
  exact ⟨rfl, grown_set2 HG5.out (by omega) _ _⟩

set_option maxHeartbeats 2000000 in
set_option maxRecDepth 100000 in
theorem readFieldItems_unfit (xk : Int) (xm xt xi : Int) (g : Nat) (b : Option Addr) (m d k : Nat) (num : Int) (q : Nat) (it : List Int) (k2 : Nat) (hq : q ≤ 1000000000) (w : World) (h : Cur w g b m d k) (hk : xk = 2 ∨ xk = 3)
    (hr : ∀ w0, Below w.heap.size w w0 → Calls Try.prog 102 #[.pointer (some ⟨g, 0, none⟩)] w0 (Rdd g b m d num q it k2 w0)) (hf : fitsField ⟨xk, xm, xt, xi⟩ num it = false) :
    Calls Try.prog 83 #[.pointer (some ⟨g, 0, none⟩), .agg #[.int .i64 xk, .int .i64 xm, .int .i64 xt, .int .i64 xi]] w (Rdn g w) := by
  have hgl := h.lt
  have KR := Lib.hid hr
  have HK := Lib.hid hk
  have KV := Lib.hid (fun w0 p r (h0 : Nums .i64 w0 p q it) => fitsField_any ⟨xk, xm, xt, xi⟩ num p q r it w0 h0)
  rw [hf] at KV
  unfold Fd.val at KV
  obtain ⟨hsz, hX, hM, hB⟩ := two w #[.int .i64 xk, .int .i64 xm, .int .i64 xt, .int .i64 xi] #[.int .i64 0, .slice none 0 0] 70 73
  clear h hr hk hf
  unfold Rdd at KR
  unfold Rdn
  have F0 := itemsCode_read
  go_enter Try.func83, Try.ntmps83
  go_wp2_with fail
  generalize ((w.alloc (.cells #[.int .i64 xk, .int .i64 xm, .int .i64 xt, .int .i64 xi] 70)).alloc (.cells #[.int .i64 0, .slice none 0 0] 73)) = W2 at *
  refine (codeOf_more HK.out _).mono ?_
  rintro e w3 ⟨rfl, hb3⟩
  unfold itemsCode
  have hX3 : w3.heap[w.heap.size]? = some (.cells #[.int .i64 xk, .int .i64 xm, .int .i64 xt, .int .i64 xi] 70 (0, 0)) := by rw [hb3.block _ (by omega)]; exact hX
  have hM3 : w3.heap[w.heap.size + 1]? = some (.cells #[.int .i64 0, .slice none 0 0] 73 (0, 0)) := by rw [hb3.block _ (by omega)]; exact hM
  have hs3 : w.heap.size + 2 ≤ w3.heap.size := by have := hb3.size; omega
  have HB3 := Lib.hid (hB.trans (hb3.mono hB.size))
  clear hX hM hB hb3 hsz
  go_wp2_with fail
  refine (KR.out w3 HB3.out).mono ?_
  rintro e w4 ⟨p, r, rfl, hfx, hc4, hg4⟩
  have hs4 : w.heap.size + 2 ≤ w4.heap.size := Nat.le_trans hs3 hg4.size
  have hX4 : w4.heap[w.heap.size]? = some (.cells #[.int .i64 xk, .int .i64 xm, .int .i64 xt, .int .i64 xi] 70 (0, 0)) := by rw [hg4.block _ (by omega) (by simp; omega)]; exact hX3
  have hM4 : w4.heap[w.heap.size + 1]? = some (.cells #[.int .i64 0, .slice none 0 0] 73 (0, 0)) := by rw [hg4.block _ (by omega) (by simp; omega)]; exact hM3
  have HG5 : Hid (w.grownBy (w4.alloc (.cells #[.int .i64 num, .slice p q r] 73)) (some g)) := Lib.hid (((grown_below HB3.out (some g)).trans hg4).trans (grown_below (alloc_same _ _) _))
  have HC5 : Hid (Cur (w4.alloc (.cells #[.int .i64 num, .slice p q r] 73)) g b m d k2) := Lib.hid (hc4.same (alloc_same _ _))
  have hX5 : (w4.alloc (.cells #[.int .i64 num, .slice p q r] 73)).heap[w.heap.size]? = some (.cells #[.int .i64 xk, .int .i64 xm, .int .i64 xt, .int .i64 xi] 70 (0, 0)) := by rw [Below.heap_alloc _ _ _ (by omega)]; exact hX4
  have hM5 : (w4.alloc (.cells #[.int .i64 num, .slice p q r] 73)).heap[w.heap.size + 1]? = some (.cells #[.int .i64 0, .slice none 0 0] 73 (0, 0)) := by rw [Below.heap_alloc _ _ _ (by omega)]; exact hM4
  have hL5 : (w4.alloc (.cells #[.int .i64 num, .slice p q r] 73)).heap[w4.heap.size]? = some (.cells #[.int .i64 num, .slice p q r] 73 (0, 0)) := heap_alloc_new w4 _
  have hs5 : w4.heap.size + 1 = (w4.alloc (.cells #[.int .i64 num, .slice p q r] 73)).heap.size := by simp
  have HN5 := Lib.hid (hfx _ (hg4.trans (grown_below (alloc_same w4 (.cells #[.int .i64 num, .slice p q r] 73)) (some g))))
  have x0 := (block_cell hX5 0).trans rfl
  have x1 := (block_cell hX5 1).trans rfl
  have x2 := (block_cell hX5 2).trans rfl
  have x3 := (block_cell hX5 3).trans rfl
  obtain ⟨l0, l1, _, _⟩ := two_cells hL5
  clear hX3 hM3 hX4 hM4 hg4 hc4 hfx hX5
  go_wp2_with fail
  clear x0 x1 x2 x3 l0 l1
  generalize (w4.alloc (.cells #[.int .i64 num, .slice p q r] 73)) = W5 at *
  refine (KV.out W5 p r HN5.out).mono ?_
  rintro e w6 ⟨rfl, hb6⟩
  have hM6 : w6.heap[w.heap.size + 1]? = some (.cells #[.int .i64 0, .slice none 0 0] 73 (0, 0)) := by rw [hb6.block _ (by omega)]; exact hM5
  have HG6 := Lib.hid (HG5.out.trans (grown_below hb6 (some g)))
  obtain ⟨m0, m1, g0, g1⟩ := two_cells hM6
  obtain ⟨z0, z1, hZ⟩ := two_put hM6 (.int .i64 0) (.slice none 0 0)
  clear hM5 hM6 hb6 hL5 hZ
  go_wp2_with fail
  (try simp only [Exit.inBlock, Exit.then])
  refine bodyPost_ret (by simp [results, Try.results83, go_sem, z0, z1]; try rfl) rfl ?_
  exact ⟨rfl, grown_set2 HG6.out (by omega) _ _⟩

set_option maxHeartbeats 2000000 in
set_option maxRecDepth 100000 in
theorem readFieldItems_fit (xk : Int) (xm xt xi : Int) (g : Nat) (b : Option Addr) (m d k : Nat) (num : Int) (q : Nat) (it : List Int) (k2 : Nat) (hq : q ≤ 1000000000) (w : World) (h : Cur w g b m d k) (hk : xk = 2 ∨ xk = 3)
    (hr : ∀ w0, Below w.heap.size w w0 → Calls Try.prog 102 #[.pointer (some ⟨g, 0, none⟩)] w0 (Rdd g b m d num q it k2 w0)) (hf : fitsField ⟨xk, xm, xt, xi⟩ num it = true) :
    Calls Try.prog 83 #[.pointer (some ⟨g, 0, none⟩), .agg #[.int .i64 xk, .int .i64 xm, .int .i64 xt, .int .i64 xi]] w (fun e w' => ∃ p r, e = .returned (.tuple #[.agg #[.int .i64 num, .slice p q r], .bool true]) ∧ Own .i64 3 w' w.heap.size p q r it ∧ Cur w' g b m d k2 ∧ w.grownBy w' (some g)) := by
  have hgl := h.lt
  have KR := Lib.hid hr
  have HK := Lib.hid hk
  have KV := Lib.hid (fun w0 p r (h0 : Nums .i64 w0 p q it) => fitsField_any ⟨xk, xm, xt, xi⟩ num p q r it w0 h0)
  rw [hf] at KV
  unfold Fd.val at KV
  obtain ⟨i0, hi, hz0, hz1, hz2⟩ := info_parts infoIntS
  have HI := Lib.hid (And.intro hi (And.intro hz0 (And.intro hz1 hz2)))
  clear hi hz0 hz1 hz2
  obtain ⟨hsz, hX, hM, hB⟩ := two w #[.int .i64 xk, .int .i64 xm, .int .i64 xt, .int .i64 xi] #[.int .i64 0, .slice none 0 0] 70 73
  clear h hr hk hf
  unfold Rdd at KR
  have F0 := itemsCode_read
  go_enter Try.func83, Try.ntmps83
  go_wp2_with fail
  generalize ((w.alloc (.cells #[.int .i64 xk, .int .i64 xm, .int .i64 xt, .int .i64 xi] 70)).alloc (.cells #[.int .i64 0, .slice none 0 0] 73)) = W2 at *
  refine (codeOf_more HK.out _).mono ?_
  rintro e w3 ⟨rfl, hb3⟩
  unfold itemsCode
  have hX3 : w3.heap[w.heap.size]? = some (.cells #[.int .i64 xk, .int .i64 xm, .int .i64 xt, .int .i64 xi] 70 (0, 0)) := by rw [hb3.block _ (by omega)]; exact hX
  have hM3 : w3.heap[w.heap.size + 1]? = some (.cells #[.int .i64 0, .slice none 0 0] 73 (0, 0)) := by rw [hb3.block _ (by omega)]; exact hM
  have hs3 : w.heap.size + 2 ≤ w3.heap.size := by have := hb3.size; omega
  have HB3 := Lib.hid (hB.trans (hb3.mono hB.size))
  clear hX hM hB hb3 hsz
  go_wp2_with fail
  refine (KR.out w3 HB3.out).mono ?_
  rintro e w4 ⟨p, r, rfl, hfx, hc4, hg4⟩
  have hs4 : w.heap.size + 2 ≤ w4.heap.size := Nat.le_trans hs3 hg4.size
  have hX4 : w4.heap[w.heap.size]? = some (.cells #[.int .i64 xk, .int .i64 xm, .int .i64 xt, .int .i64 xi] 70 (0, 0)) := by rw [hg4.block _ (by omega) (by simp; omega)]; exact hX3
  have hM4 : w4.heap[w.heap.size + 1]? = some (.cells #[.int .i64 0, .slice none 0 0] 73 (0, 0)) := by rw [hg4.block _ (by omega) (by simp; omega)]; exact hM3
  have HG5 : Hid (w.grownBy (w4.alloc (.cells #[.int .i64 num, .slice p q r] 73)) (some g)) := Lib.hid (((grown_below HB3.out (some g)).trans hg4).trans (grown_below (alloc_same _ _) _))
  have HC5 : Hid (Cur (w4.alloc (.cells #[.int .i64 num, .slice p q r] 73)) g b m d k2) := Lib.hid (hc4.same (alloc_same _ _))
  have hX5 : (w4.alloc (.cells #[.int .i64 num, .slice p q r] 73)).heap[w.heap.size]? = some (.cells #[.int .i64 xk, .int .i64 xm, .int .i64 xt, .int .i64 xi] 70 (0, 0)) := by rw [Below.heap_alloc _ _ _ (by omega)]; exact hX4
  have hM5 : (w4.alloc (.cells #[.int .i64 num, .slice p q r] 73)).heap[w.heap.size + 1]? = some (.cells #[.int .i64 0, .slice none 0 0] 73 (0, 0)) := by rw [Below.heap_alloc _ _ _ (by omega)]; exact hM4
  have hL5 : (w4.alloc (.cells #[.int .i64 num, .slice p q r] 73)).heap[w4.heap.size]? = some (.cells #[.int .i64 num, .slice p q r] 73 (0, 0)) := heap_alloc_new w4 _
  have hs5 : w4.heap.size + 1 = (w4.alloc (.cells #[.int .i64 num, .slice p q r] 73)).heap.size := by simp
  have HN5 := Lib.hid (hfx _ (hg4.trans (grown_below (alloc_same w4 (.cells #[.int .i64 num, .slice p q r] 73)) (some g))))
  have x0 := (block_cell hX5 0).trans rfl
  have x1 := (block_cell hX5 1).trans rfl
  have x2 := (block_cell hX5 2).trans rfl
  have x3 := (block_cell hX5 3).trans rfl
  obtain ⟨l0, l1, _, _⟩ := two_cells hL5
  clear hX3 hM3 hX4 hM4 hg4 hc4 hfx hX5
  go_wp2_with fail
  clear x0 x1 x2 x3 l0 l1
  generalize (w4.alloc (.cells #[.int .i64 num, .slice p q r] 73)) = W5 at *
  refine (KV.out W5 p r HN5.out).mono ?_
  rintro e w6 ⟨rfl, hb6⟩
  have hM6 : w6.heap[w.heap.size + 1]? = some (.cells #[.int .i64 0, .slice none 0 0] 73 (0, 0)) := by rw [hb6.block _ (by omega)]; exact hM5
  have HG6 := Lib.hid (HG5.out.trans (grown_below hb6 (some g)))
  have hL6 : w6.heap[w4.heap.size]? = some (.cells #[.int .i64 num, .slice p q r] 73 (0, 0)) := by rw [hb6.block _ (by omega)]; exact hL5
  have HC6 := Lib.hid (HC5.out.same hb6)
  have HN6 := Lib.hid (HN5.out.same hb6)
  have hs6 : w4.heap.size + 1 ≤ w6.heap.size := by have := hb6.size; omega
  obtain ⟨l0, l1, _, _⟩ := two_cells hL6
  have HM6 := Lib.hid hM6
  have HL6 := Lib.hid hL6
  clear hM5 hM6 hb6 hL5 hL6
  go_wp2_with (at_builtin; refine wpl_app _ rfl (.const (.slice none 0 0)) (.tmp 27) 29 rfl .i64 3 i0 (.int .i64 0) 8 Try.underlying29 HI.out.1 HI.out.2.1 HI.out.2.2.1 HI.out.2.2.2 rfl rfl (Own.nil (B := w6.heap.size)) rfl HN6.out (by omega) ?c1 ?c2 ?_)
  case c1 => omega
  case c2 => exact Nat.le_refl _
  intro a7 c7 w7 ho7 hb7
  have hs7 := hb7.size
  have hL7 : w7.heap[w4.heap.size]? = some (.cells #[.int .i64 num, .slice p q r] 73 (0, 0)) := by rw [hb7.block _ (by omega)]; exact HL6.out
  have hM7 : w7.heap[w.heap.size + 1]? = some (.cells #[.int .i64 0, .slice none 0 0] 73 (0, 0)) := by rw [hb7.block _ (by omega)]; exact HM6.out
  have HC7 := Lib.hid (HC6.out.same hb7)
  have HG7 := Lib.hid (HG6.out.trans (grown_below hb7 (some g)))
  have hout : ∀ z, z < w6.heap.size → ∀ ad, a7 = some ad → ad.block ≠ z := fun z hz ad e => by
    have := (ho7.span ad e).1
    omega
  have HO7 := Lib.hid ho7
  have HOUT := Lib.hid hout
  have h8 : (w7.setCell ⟨w4.heap.size, 1, none⟩ (.slice a7 q c7)).heap[w4.heap.size]? = some (.cells #[.int .i64 num, .slice a7 q c7] 73 (0, 0)) := heap_setCell_same w7 w4.heap.size 1 _ _ (.slice a7 q c7) hL7
  have hM8 : (w7.setCell ⟨w4.heap.size, 1, none⟩ (.slice a7 q c7)).heap[w.heap.size + 1]? = some (.cells #[.int .i64 0, .slice none 0 0] 73 (0, 0)) := by
    rw [Below.heap_setCell _ _ _ _ (by dsimp only; omega)]; exact hM7
  obtain ⟨_, c1, _, f1⟩ := two_cells hL7
  obtain ⟨l0, l1, _, _⟩ := two_cells h8
  obtain ⟨m0, m1, g0, g1⟩ := two_cells hM8
  obtain ⟨z0, z1, hZ⟩ := two_put hM8 (.int .i64 num) (.slice a7 q c7)
  clear ho7 hb7 hL7 hM7 hout h8 hM8 hZ
  go_wp2_with fail
  (try simp only [Exit.inBlock, Exit.then])
  refine bodyPost_ret (by simp [results, Try.results83, go_sem, z0, z1]; try rfl) rfl ?_
  refine ⟨a7, c7, rfl, (((HO7.out.lower (by omega)).set (HOUT.out _ (by omega)) _ _).set (HOUT.out _ (by omega)) _ _).set (HOUT.out _ (by omega)) _ _, (HC7.out.set1 (by omega) _ _).set2 (by omega) _ _, grown_set2 (grown_on HG7.out (set_grown w7 w4.heap.size 1 _) (fun r e => Or.inr (by cases e; omega))) (by omega) _ _⟩

theorem readField_any (x : Fd) (g : Nat) (b : Option Addr) (m d k : Nat) (y : List Int) (w : World) (h : Cur w g b m d k) (hv : Fix w g b m y) (hd : m ≤ d ∧ (d : Int) ≤ 9223372036854775807) (hm : m ≤ 1000000000) (hk : k ≤ m) (hx : x.kind = 1 ∨ x.kind = 2 ∨ x.kind = 3) :
    Calls Try.prog 83 #[.pointer (some ⟨g, 0, none⟩), x.val] w (RfTold 3 g b m d x y k w) := by
  obtain ⟨xk, xm, xt, xi⟩ := x
  have hyl := hv.len
  unfold Fd.val RfTold
  dsimp only at hx
  by_cases h1 : k = m
  · subst h1
    rw [rdF_end (by omega)]
    rcases hx with rfl | hx
    · exact readFieldNum_fail xm xt xi g b k d k w h (fun w0 hb => readNum_no g b k d w0 (h.same hb) hm)
    · exact readFieldItems_fail xk xm xt xi g b k d k w h hx (fun w0 hb => readItems_no g b k d w0 (h.same hb) hm)
  · have hlt : k < y.length := by omega
    obtain ⟨z, hz⟩ : ∃ z, y[k]? = some z := ⟨_, List.getElem?_eq_getElem hlt⟩
    rcases hx with rfl | hx
    · rw [rdF_num hz rfl]
      cases hf : fitsField ⟨1, xm, xt, xi⟩ z [] with
      | false => exact readFieldNum_unfit xm xt xi g b m d k z 0 [] (k + 1) (by omega) w h (fun w0 hb => readNum_yes g b m d k y z w0 (h.same hb) (hv.same hb) hd hm hz) hf
      | true =>
        refine (readFieldNum_fit xm xt xi g b m d k z 0 [] (k + 1) (by omega) w h (fun w0 hb => readNum_yes g b m d k y z w0 (h.same hb) (hv.same hb) hd hm hz) hf).mono ?_
        rintro e w' ⟨p, r, e1, e2⟩
        exact ⟨p, 0, r, e1, e2⟩
    · by_cases h3 : 0 ≤ z ∧ z ≤ (m : Int) - k - 1
      · obtain ⟨q, rfl⟩ : ∃ q : Nat, z = q := ⟨z.toNat, by omega⟩
        rw [rdF_row hz (by dsimp only; omega) (by omega)]
        cases hf : fitsField ⟨xk, xm, xt, xi⟩ 0 ((y.drop (k + 1)).take q) with
        | false => exact readFieldItems_unfit xk xm xt xi g b m d k 0 q _ (k + 1 + q) (by omega) w h hx (fun w0 hb => readItems_yes g b m d k q y w0 (h.same hb) (hv.same hb) hd hm hz (by omega)) hf
        | true =>
          refine (readFieldItems_fit xk xm xt xi g b m d k 0 q _ (k + 1 + q) (by omega) w h hx (fun w0 hb => readItems_yes g b m d k q y w0 (h.same hb) (hv.same hb) hd hm hz (by omega)) hf).mono ?_
          rintro e w' ⟨p, r, e1, e2⟩
          exact ⟨p, q, r, e1, e2⟩
      · rw [rdF_out hz (by dsimp only; omega) (by rw [hyl]; exact h3)]
        exact readFieldItems_fail xk xm xt xi g b m d k w h hx (fun w0 hb => readItems_out g b m d k y z w0 (h.same hb) (hv.same hb) hd hm hz h3)
end Go.Proofs.Ytjmabidahofbbaa
