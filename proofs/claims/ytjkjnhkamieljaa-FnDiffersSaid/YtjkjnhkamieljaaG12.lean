/- A field's value off the cursor, by the program. A message read from the beginning of its bytes, and from all of them, by the program. The value that is made of a field, and the message that is made of a format, by the program. The bytes of a message, a message's length, the greatest length of a format's messages: by the program. The message that is made of a format and a seed, and its bytes, by the program. -/
import Derived.Test.YtjkjnhkamieljaaG11
import Derived.Test.YtjkjnhkamieljaaG7
import Derived.Test.YtjkjnhkamieljaaG5
import Derived.Test.YtjkjnhkamieljaaG4
namespace Go.Proofs.Ytjkjnhkamieljaa
open Go.ChangeShapes Go.WideShapes Go.ChangeAt Go.RowKit
set_option linter.unusedVariables false

theorem two (w : World) (A B : Array Value) (t1 t2 : TypeId) :
    w.heap.size + 2 = ((w.alloc (.cells A t1)).alloc (.cells B t2)).heap.size ∧
    ((w.alloc (.cells A t1)).alloc (.cells B t2)).heap[w.heap.size]? = some (.cells A t1 (0, 0)) ∧
    ((w.alloc (.cells A t1)).alloc (.cells B t2)).heap[w.heap.size + 1]? = some (.cells B t2 (0, 0)) ∧
    Below w.heap.size w ((w.alloc (.cells A t1)).alloc (.cells B t2)) := by
  refine ⟨by simp, ?_, ?_, ((Below.refl _ w).alloc (Nat.le_refl _) _).alloc (by simp) _⟩
  · rw [Below.heap_alloc _ _ _ (by simp)]
    exact heap_alloc_new w _
  · have := heap_alloc_new (w.alloc (.cells A t1)) (.cells B t2)
    simpa using this
/-- What a function leaves that reads a field's value off the cursor at place k. -/
def RfTold (tI : TypeId) (g : Nat) (b : Option Addr) (m d : Nat) (x : Fd) (y : List Int) (k : Nat) (w : World) (e : Ending) (w' : World) : Prop :=
  match rdF x y k with
  | none => Rdn g w e w'
  | some (v, k') => ∃ p q r, e = .returned (.tuple #[.agg #[.int .i64 v.num, .slice p q r], .bool true]) ∧ Own .i64 tI w' w.heap.size p q r v.items ∧ Cur w' g b m d k' ∧ w.grownBy w' (some g)
theorem Cur.set1 {w : World} {g m d k R : Nat} {b : Option Addr} (h : Cur w g b m d k) (hR : g ≠ R) (o : Nat) (u : Value) : Cur (w.setCell ⟨R, o, none⟩ u) g b m d k := by
  unfold Cur
  rw [Below.heap_setCell _ _ _ _ (by dsimp only; omega)]
  exact h

set_option maxHeartbeats 2000000 in
set_option maxRecDepth 100000 in
theorem readFieldNum_fail (xm xt xi : Int) (g : Nat) (b : Option Addr) (m d k : Nat) (w : World) (h : Cur w g b m d k)
    (hr : ∀ w0, Below w.heap.size w w0 → Calls Try.prog 84 #[.pointer (some ⟨g, 0, none⟩)] w0 (Rdn g w0)) :
    Calls Try.prog 64 #[.pointer (some ⟨g, 0, none⟩), .agg #[.int .i64 1, .int .i64 xm, .int .i64 xt, .int .i64 xi]] w (Rdn g w) := by
  have hgl := h.lt
  have KR := Lib.hid hr
  obtain ⟨hsz, hX, hM, hB⟩ := two w #[.int .i64 1, .int .i64 xm, .int .i64 xt, .int .i64 xi] #[.int .i64 0, .slice none 0 0] 50 64
  clear h hr
  unfold Rdn at KR
  unfold Rdn
  have F0 := numCode_read
  go_enter Try.func64, Try.ntmps64
  go_wp2_with fail
  generalize ((w.alloc (.cells #[.int .i64 1, .int .i64 xm, .int .i64 xt, .int .i64 xi] 50)).alloc (.cells #[.int .i64 0, .slice none 0 0] 64)) = W2 at *
  refine (codeOf_num _).mono ?_
  rintro e w3 ⟨rfl, hb3⟩
  unfold numCode
  have hX3 : w3.heap[w.heap.size]? = some (.cells #[.int .i64 1, .int .i64 xm, .int .i64 xt, .int .i64 xi] 50 (0, 0)) := by rw [hb3.block _ (by omega)]; exact hX
  have hM3 : w3.heap[w.heap.size + 1]? = some (.cells #[.int .i64 0, .slice none 0 0] 64 (0, 0)) := by rw [hb3.block _ (by omega)]; exact hM
  have hs3 : w.heap.size + 2 ≤ w3.heap.size := by have := hb3.size; omega
  have HB3 := Lib.hid (hB.trans (hb3.mono hB.size))
  clear hX hM hB hb3 hsz
  go_wp2_with fail
  refine (KR.out w3 HB3.out).mono ?_
  rintro e w4 ⟨rfl, hg4⟩
  have hs4 : w.heap.size + 2 ≤ w4.heap.size := Nat.le_trans hs3 hg4.size
  have hM4 : w4.heap[w.heap.size + 1]? = some (.cells #[.int .i64 0, .slice none 0 0] 64 (0, 0)) := by rw [hg4.block _ (by omega) (by simp; omega)]; exact hM3
  have HG5 : Hid (w.grownBy (w4.alloc (.cells #[.int .i64 0, .slice none 0 0] 64)) (some g)) := Lib.hid (((grown_below HB3.out (some g)).trans hg4).trans (grown_below (alloc_same _ _) _))
  have hM5 : (w4.alloc (.cells #[.int .i64 0, .slice none 0 0] 64)).heap[w.heap.size + 1]? = some (.cells #[.int .i64 0, .slice none 0 0] 64 (0, 0)) := by rw [Below.heap_alloc _ _ _ (by omega)]; exact hM4
  obtain ⟨m0, m1, g0, g1⟩ := two_cells hM5
  obtain ⟨z0, z1, hZ⟩ := two_put hM5 (.int .i64 0) (.slice none 0 0)
  clear hX3 hM3 hg4 hM4 hM5 hZ
  go_wp2_with fail
  (try simp only [Exit.inBlock, Exit.then])
  refine bodyPost_ret (by simp [results, Try.results64, go_sem, z0, z1]; try rfl) rfl ?_
  exact ⟨rfl, grown_set2 HG5.out (by omega) _ _⟩

set_option maxHeartbeats 2000000 in
set_option maxRecDepth 100000 in
theorem readFieldNum_unfit (xm xt xi : Int) (g : Nat) (b : Option Addr) (m d k : Nat) (num : Int) (q : Nat) (it : List Int) (k2 : Nat) (hq : q ≤ 1000000000) (w : World) (h : Cur w g b m d k)
    (hr : ∀ w0, Below w.heap.size w w0 → Calls Try.prog 84 #[.pointer (some ⟨g, 0, none⟩)] w0 (Rdd g b m d num q it k2 w0)) (hf : fitsField ⟨1, xm, xt, xi⟩ num it = false) :
    Calls Try.prog 64 #[.pointer (some ⟨g, 0, none⟩), .agg #[.int .i64 1, .int .i64 xm, .int .i64 xt, .int .i64 xi]] w (Rdn g w) := by
  have hgl := h.lt
  have KR := Lib.hid hr
  have KV := Lib.hid (fun w0 p r (h0 : Nums .i64 w0 p q it) => fitsField_any ⟨1, xm, xt, xi⟩ num p q r it w0 h0)
  rw [hf] at KV
  unfold Fd.val at KV
  obtain ⟨hsz, hX, hM, hB⟩ := two w #[.int .i64 1, .int .i64 xm, .int .i64 xt, .int .i64 xi] #[.int .i64 0, .slice none 0 0] 50 64
  clear h hr hf
  unfold Rdd at KR
  unfold Rdn
  have F0 := numCode_read
  go_enter Try.func64, Try.ntmps64
  go_wp2_with fail
  generalize ((w.alloc (.cells #[.int .i64 1, .int .i64 xm, .int .i64 xt, .int .i64 xi] 50)).alloc (.cells #[.int .i64 0, .slice none 0 0] 64)) = W2 at *
  refine (codeOf_num _).mono ?_
  rintro e w3 ⟨rfl, hb3⟩
  unfold numCode
  have hX3 : w3.heap[w.heap.size]? = some (.cells #[.int .i64 1, .int .i64 xm, .int .i64 xt, .int .i64 xi] 50 (0, 0)) := by rw [hb3.block _ (by omega)]; exact hX
  have hM3 : w3.heap[w.heap.size + 1]? = some (.cells #[.int .i64 0, .slice none 0 0] 64 (0, 0)) := by rw [hb3.block _ (by omega)]; exact hM
  have hs3 : w.heap.size + 2 ≤ w3.heap.size := by have := hb3.size; omega
  have HB3 := Lib.hid (hB.trans (hb3.mono hB.size))
  clear hX hM hB hb3 hsz
  go_wp2_with fail
  refine (KR.out w3 HB3.out).mono ?_
  rintro e w4 ⟨p, r, rfl, hfx, hc4, hg4⟩
  have hs4 : w.heap.size + 2 ≤ w4.heap.size := Nat.le_trans hs3 hg4.size
  have hX4 : w4.heap[w.heap.size]? = some (.cells #[.int .i64 1, .int .i64 xm, .int .i64 xt, .int .i64 xi] 50 (0, 0)) := by rw [hg4.block _ (by omega) (by simp; omega)]; exact hX3
  have hM4 : w4.heap[w.heap.size + 1]? = some (.cells #[.int .i64 0, .slice none 0 0] 64 (0, 0)) := by rw [hg4.block _ (by omega) (by simp; omega)]; exact hM3
  have HG5 : Hid (w.grownBy (w4.alloc (.cells #[.int .i64 num, .slice p q r] 64)) (some g)) := Lib.hid (((grown_below HB3.out (some g)).trans hg4).trans (grown_below (alloc_same _ _) _))
  have HC5 : Hid (Cur (w4.alloc (.cells #[.int .i64 num, .slice p q r] 64)) g b m d k2) := Lib.hid (hc4.same (alloc_same _ _))
  have hX5 : (w4.alloc (.cells #[.int .i64 num, .slice p q r] 64)).heap[w.heap.size]? = some (.cells #[.int .i64 1, .int .i64 xm, .int .i64 xt, .int .i64 xi] 50 (0, 0)) := by rw [Below.heap_alloc _ _ _ (by omega)]; exact hX4
  have hM5 : (w4.alloc (.cells #[.int .i64 num, .slice p q r] 64)).heap[w.heap.size + 1]? = some (.cells #[.int .i64 0, .slice none 0 0] 64 (0, 0)) := by rw [Below.heap_alloc _ _ _ (by omega)]; exact hM4
  have hL5 : (w4.alloc (.cells #[.int .i64 num, .slice p q r] 64)).heap[w4.heap.size]? = some (.cells #[.int .i64 num, .slice p q r] 64 (0, 0)) := heap_alloc_new w4 _
  have hs5 : w4.heap.size + 1 = (w4.alloc (.cells #[.int .i64 num, .slice p q r] 64)).heap.size := by simp
  have HN5 := Lib.hid (hfx _ (hg4.trans (grown_below (alloc_same w4 (.cells #[.int .i64 num, .slice p q r] 64)) (some g))))
  have x0 := (block_cell hX5 0).trans rfl
  have x1 := (block_cell hX5 1).trans rfl
  have x2 := (block_cell hX5 2).trans rfl
  have x3 := (block_cell hX5 3).trans rfl
  obtain ⟨l0, l1, _, _⟩ := two_cells hL5
  clear hX3 hM3 hX4 hM4 hg4 hc4 hfx hX5
  go_wp2_with fail
  clear x0 x1 x2 x3 l0 l1
  generalize (w4.alloc (.cells #[.int .i64 num, .slice p q r] 64)) = W5 at *
  refine (KV.out W5 p r HN5.out).mono ?_
  rintro e w6 ⟨rfl, hb6⟩
  have hM6 : w6.heap[w.heap.size + 1]? = some (.cells #[.int .i64 0, .slice none 0 0] 64 (0, 0)) := by rw [hb6.block _ (by omega)]; exact hM5
  have HG6 := Lib.hid (HG5.out.trans (grown_below hb6 (some g)))
  obtain ⟨m0, m1, g0, g1⟩ := two_cells hM6
  obtain ⟨z0, z1, hZ⟩ := two_put hM6 (.int .i64 0) (.slice none 0 0)
  clear hM5 hM6 hb6 hL5 hZ
  go_wp2_with fail
  (try simp only [Exit.inBlock, Exit.then])
  refine bodyPost_ret (by simp [results, Try.results64, go_sem, z0, z1]; try rfl) rfl ?_
  exact ⟨rfl, grown_set2 HG6.out (by omega) _ _⟩

set_option maxHeartbeats 2000000 in
set_option maxRecDepth 100000 in
theorem readFieldNum_fit (xm xt xi : Int) (g : Nat) (b : Option Addr) (m d k : Nat) (num : Int) (q : Nat) (it : List Int) (k2 : Nat) (hq : q ≤ 1000000000) (w : World) (h : Cur w g b m d k)
    (hr : ∀ w0, Below w.heap.size w w0 → Calls Try.prog 84 #[.pointer (some ⟨g, 0, none⟩)] w0 (Rdd g b m d num q it k2 w0)) (hf : fitsField ⟨1, xm, xt, xi⟩ num it = true) :
    Calls Try.prog 64 #[.pointer (some ⟨g, 0, none⟩), .agg #[.int .i64 1, .int .i64 xm, .int .i64 xt, .int .i64 xi]] w (fun e w' => ∃ p r, e = .returned (.tuple #[.agg #[.int .i64 num, .slice p q r], .bool true]) ∧ Own .i64 3 w' w.heap.size p q r it ∧ Cur w' g b m d k2 ∧ w.grownBy w' (some g)) := by
  have hgl := h.lt
  have KR := Lib.hid hr
  have KV := Lib.hid (fun w0 p r (h0 : Nums .i64 w0 p q it) => fitsField_any ⟨1, xm, xt, xi⟩ num p q r it w0 h0)
  rw [hf] at KV
  unfold Fd.val at KV
  obtain ⟨i0, hi, hz0, hz1, hz2⟩ := info_parts infoIntS
  have HI := Lib.hid (And.intro hi (And.intro hz0 (And.intro hz1 hz2)))
  clear hi hz0 hz1 hz2
  obtain ⟨hsz, hX, hM, hB⟩ := two w #[.int .i64 1, .int .i64 xm, .int .i64 xt, .int .i64 xi] #[.int .i64 0, .slice none 0 0] 50 64
  clear h hr hf
  unfold Rdd at KR
  have F0 := numCode_read
  go_enter Try.func64, Try.ntmps64
  go_wp2_with fail
  generalize ((w.alloc (.cells #[.int .i64 1, .int .i64 xm, .int .i64 xt, .int .i64 xi] 50)).alloc (.cells #[.int .i64 0, .slice none 0 0] 64)) = W2 at *
  refine (codeOf_num _).mono ?_
  rintro e w3 ⟨rfl, hb3⟩
  unfold numCode
  have hX3 : w3.heap[w.heap.size]? = some (.cells #[.int .i64 1, .int .i64 xm, .int .i64 xt, .int .i64 xi] 50 (0, 0)) := by rw [hb3.block _ (by omega)]; exact hX
  have hM3 : w3.heap[w.heap.size + 1]? = some (.cells #[.int .i64 0, .slice none 0 0] 64 (0, 0)) := by rw [hb3.block _ (by omega)]; exact hM
  have hs3 : w.heap.size + 2 ≤ w3.heap.size := by have := hb3.size; omega
  have HB3 := Lib.hid (hB.trans (hb3.mono hB.size))
  clear hX hM hB hb3 hsz
  go_wp2_with fail
  refine (KR.out w3 HB3.out).mono ?_
  rintro e w4 ⟨p, r, rfl, hfx, hc4, hg4⟩
  have hs4 : w.heap.size + 2 ≤ w4.heap.size := Nat.le_trans hs3 hg4.size
  have hX4 : w4.heap[w.heap.size]? = some (.cells #[.int .i64 1, .int .i64 xm, .int .i64 xt, .int .i64 xi] 50 (0, 0)) := by rw [hg4.block _ (by omega) (by simp; omega)]; exact hX3
  have hM4 : w4.heap[w.heap.size + 1]? = some (.cells #[.int .i64 0, .slice none 0 0] 64 (0, 0)) := by rw [hg4.block _ (by omega) (by simp; omega)]; exact hM3
  have HG5 : Hid (w.grownBy (w4.alloc (.cells #[.int .i64 num, .slice p q r] 64)) (some g)) := Lib.hid (((grown_below HB3.out (some g)).trans hg4).trans (grown_below (alloc_same _ _) _))
  have HC5 : Hid (Cur (w4.alloc (.cells #[.int .i64 num, .slice p q r] 64)) g b m d k2) := Lib.hid (hc4.same (alloc_same _ _))
  have hX5 : (w4.alloc (.cells #[.int .i64 num, .slice p q r] 64)).heap[w.heap.size]? = some (.cells #[.int .i64 1, .int .i64 xm, .int .i64 xt, .int .i64 xi] 50 (0, 0)) := by rw [Below.heap_alloc _ _ _ (by omega)]; exact hX4
  have hM5 : (w4.alloc (.cells #[.int .i64 num, .slice p q r] 64)).heap[w.heap.size + 1]? = some (.cells #[.int .i64 0, .slice none 0 0] 64 (0, 0)) := by rw [Below.heap_alloc _ _ _ (by omega)]; exact hM4
  have hL5 : (w4.alloc (.cells #[.int .i64 num, .slice p q r] 64)).heap[w4.heap.size]? = some (.cells #[.int .i64 num, .slice p q r] 64 (0, 0)) := heap_alloc_new w4 _
  have hs5 : w4.heap.size + 1 = (w4.alloc (.cells #[.int .i64 num, .slice p q r] 64)).heap.size := by simp
  have HN5 := Lib.hid (hfx _ (hg4.trans (grown_below (alloc_same w4 (.cells #[.int .i64 num, .slice p q r] 64)) (some g))))
  have x0 := (block_cell hX5 0).trans rfl
  have x1 := (block_cell hX5 1).trans rfl
  have x2 := (block_cell hX5 2).trans rfl
  have x3 := (block_cell hX5 3).trans rfl
  obtain ⟨l0, l1, _, _⟩ := two_cells hL5
  clear hX3 hM3 hX4 hM4 hg4 hc4 hfx hX5
  go_wp2_with fail
  clear x0 x1 x2 x3 l0 l1
  generalize (w4.alloc (.cells #[.int .i64 num, .slice p q r] 64)) = W5 at *
  refine (KV.out W5 p r HN5.out).mono ?_
  rintro e w6 ⟨rfl, hb6⟩
  have hM6 : w6.heap[w.heap.size + 1]? = some (.cells #[.int .i64 0, .slice none 0 0] 64 (0, 0)) := by rw [hb6.block _ (by omega)]; exact hM5
  have HG6 := Lib.hid (HG5.out.trans (grown_below hb6 (some g)))
  have hL6 : w6.heap[w4.heap.size]? = some (.cells #[.int .i64 num, .slice p q r] 64 (0, 0)) := by rw [hb6.block _ (by omega)]; exact hL5
  have HC6 := Lib.hid (HC5.out.same hb6)
  have HN6 := Lib.hid (HN5.out.same hb6)
  have hs6 : w4.heap.size + 1 ≤ w6.heap.size := by have := hb6.size; omega
  obtain ⟨l0, l1, _, _⟩ := two_cells hL6
  have HM6 := Lib.hid hM6
  have HL6 := Lib.hid hL6
  clear hM5 hM6 hb6 hL5 hL6
  go_wp2_with (at_builtin; refine wpl_app _ rfl (.const (.slice none 0 0)) (.tmp 27) 32 rfl .i64 3 i0 (.int .i64 0) 8 Try.underlying32 HI.out.1 HI.out.2.1 HI.out.2.2.1 HI.out.2.2.2 rfl rfl (Own.nil (B := w6.heap.size)) rfl HN6.out (by omega) ?c1 ?c2 ?_)
  case c1 => omega
  case c2 => exact Nat.le_refl _
  intro a7 c7 w7 ho7 hb7
  have hs7 := hb7.size
  have hL7 : w7.heap[w4.heap.size]? = some (.cells #[.int .i64 num, .slice p q r] 64 (0, 0)) := by rw [hb7.block _ (by omega)]; exact HL6.out
  have hM7 : w7.heap[w.heap.size + 1]? = some (.cells #[.int .i64 0, .slice none 0 0] 64 (0, 0)) := by rw [hb7.block _ (by omega)]; exact HM6.out
  have HC7 := Lib.hid (HC6.out.same hb7)
  have HG7 := Lib.hid (HG6.out.trans (grown_below hb7 (some g)))
  have hout : ∀ z, z < w6.heap.size → ∀ ad, a7 = some ad → ad.block ≠ z := fun z hz ad e => by
    have := (ho7.span ad e).1
    omega
  have HO7 := Lib.hid ho7
  have HOUT := Lib.hid hout
  have h8 : (w7.setCell ⟨w4.heap.size, 1, none⟩ (.slice a7 q c7)).heap[w4.heap.size]? = some (.cells #[.int .i64 num, .slice a7 q c7] 64 (0, 0)) := heap_setCell_same w7 w4.heap.size 1 _ _ (.slice a7 q c7) hL7
  have hM8 : (w7.setCell ⟨w4.heap.size, 1, none⟩ (.slice a7 q c7)).heap[w.heap.size + 1]? = some (.cells #[.int .i64 0, .slice none 0 0] 64 (0, 0)) := by
    rw [Below.heap_setCell _ _ _ _ (by dsimp only; omega)]; exact hM7
  obtain ⟨_, c1, _, f1⟩ := two_cells hL7
  obtain ⟨l0, l1, _, _⟩ := two_cells h8
  obtain ⟨m0, m1, g0, g1⟩ := two_cells hM8
  obtain ⟨z0, z1, hZ⟩ := two_put hM8 (.int .i64 num) (.slice a7 q c7)
  clear ho7 hb7 hL7 hM7 hout h8 hM8 hZ
  go_wp2_with fail
  (try simp only [Exit.inBlock, Exit.then])
  refine bodyPost_ret (by simp [results, Try.results64, go_sem, z0, z1]; try rfl) rfl ?_
  refine ⟨a7, c7, rfl, (((HO7.out.lower (by omega)).set (HOUT.out _ (by omega)) _ _).set (HOUT.out _ (by omega)) _ _).set (HOUT.out _ (by omega)) _ _, (HC7.out.set1 (by omega) _ _).set2 (by omega) _ _, grown_set2 (grown_on HG7.out (set_grown w7 w4.heap.size 1 _) (fun r e => Or.inr (by cases e; omega))) (by omega) _ _⟩

set_option maxHeartbeats 2000000 in
set_option maxRecDepth 100000 in
theorem readFieldItems_fail (xk : Int) (xm xt xi : Int) (g : Nat) (b : Option Addr) (m d k : Nat) (w : World) (h : Cur w g b m d k) (hk : xk = 2 ∨ xk = 3)
    (hr : ∀ w0, Below w.heap.size w w0 → Calls Try.prog 81 #[.pointer (some ⟨g, 0, none⟩)] w0 (Rdn g w0)) :
    Calls Try.prog 64 #[.pointer (some ⟨g, 0, none⟩), .agg #[.int .i64 xk, .int .i64 xm, .int .i64 xt, .int .i64 xi]] w (Rdn g w) := by
  have hgl := h.lt
  have KR := Lib.hid hr
  have HK := Lib.hid hk
  obtain ⟨hsz, hX, hM, hB⟩ := two w #[.int .i64 xk, .int .i64 xm, .int .i64 xt, .int .i64 xi] #[.int .i64 0, .slice none 0 0] 50 64
  clear h hr hk
  unfold Rdn at KR
  unfold Rdn
  have F0 := itemsCode_read
  go_enter Try.func64, Try.ntmps64
  go_wp2_with fail
  generalize ((w.alloc (.cells #[.int .i64 xk, .int .i64 xm, .int .i64 xt, .int .i64 xi] 50)).alloc (.cells #[.int .i64 0, .slice none 0 0] 64)) = W2 at *
  refine (codeOf_more HK.out _).mono ?_
  rintro e w3 ⟨rfl, hb3⟩
  unfold itemsCode
  have hX3 : w3.heap[w.heap.size]? = some (.cells #[.int .i64 xk, .int .i64 xm, .int .i64 xt, .int .i64 xi] 50 (0, 0)) := by rw [hb3.block _ (by omega)]; exact hX
  have hM3 : w3.heap[w.heap.size + 1]? = some (.cells #[.int .i64 0, .slice none 0 0] 64 (0, 0)) := by rw [hb3.block _ (by omega)]; exact hM
  have hs3 : w.heap.size + 2 ≤ w3.heap.size := by have := hb3.size; omega
  have HB3 := Lib.hid (hB.trans (hb3.mono hB.size))
  clear hX hM hB hb3 hsz
  go_wp2_with fail
  refine (KR.out w3 HB3.out).mono ?_
  rintro e w4 ⟨rfl, hg4⟩
  have hs4 : w.heap.size + 2 ≤ w4.heap.size := Nat.le_trans hs3 hg4.size
  have hM4 : w4.heap[w.heap.size + 1]? = some (.cells #[.int .i64 0, .slice none 0 0] 64 (0, 0)) := by rw [hg4.block _ (by omega) (by simp; omega)]; exact hM3
  have HG5 : Hid (w.grownBy (w4.alloc (.cells #[.int .i64 0, .slice none 0 0] 64)) (some g)) := Lib.hid (((grown_below HB3.out (some g)).trans hg4).trans (grown_below (alloc_same _ _) _))
  have hM5 : (w4.alloc (.cells #[.int .i64 0, .slice none 0 0] 64)).heap[w.heap.size + 1]? = some (.cells #[.int .i64 0, .slice none 0 0] 64 (0, 0)) := by rw [Below.heap_alloc _ _ _ (by omega)]; exact hM4
  obtain ⟨m0, m1, g0, g1⟩ := two_cells hM5
  obtain ⟨z0, z1, hZ⟩ := two_put hM5 (.int .i64 0) (.slice none 0 0)
  clear hX3 hM3 hg4 hM4 hM5 hZ
  go_wp2_with fail
  (try simp only [Exit.inBlock, Exit.then])
  refine bodyPost_ret (by simp [results, Try.results64, go_sem, z0, z1]; try rfl) rfl ?_
  exact ⟨rfl, grown_set2 HG5.out (by omega) _ _⟩

set_option maxHeartbeats 2000000 in
set_option maxRecDepth 100000 in
theorem readFieldItems_unfit (xk : Int) (xm xt xi : Int) (g : Nat) (b : Option Addr) (m d k : Nat) (num : Int) (q : Nat) (it : List Int) (k2 : Nat) (hq : q ≤ 1000000000) (w : World) (h : Cur w g b m d k) (hk : xk = 2 ∨ xk = 3)
    (hr : ∀ w0, Below w.heap.size w w0 → Calls Try.prog 81 #[.pointer (some ⟨g, 0, none⟩)] w0 (Rdd g b m d num q it k2 w0)) (hf : fitsField ⟨xk, xm, xt, xi⟩ num it = false) :
    Calls Try.prog 64 #[.pointer (some ⟨g, 0, none⟩), .agg #[.int .i64 xk, .int .i64 xm, .int .i64 xt, .int .i64 xi]] w (Rdn g w) := by
  have hgl := h.lt
  have KR := Lib.hid hr
  have HK := Lib.hid hk
  have KV := Lib.hid (fun w0 p r (h0 : Nums .i64 w0 p q it) => fitsField_any ⟨xk, xm, xt, xi⟩ num p q r it w0 h0)
  rw [hf] at KV
  unfold Fd.val at KV
  obtain ⟨hsz, hX, hM, hB⟩ := two w #[.int .i64 xk, .int .i64 xm, .int .i64 xt, .int .i64 xi] #[.int .i64 0, .slice none 0 0] 50 64
  clear h hr hk hf
  unfold Rdd at KR
  unfold Rdn
  have F0 := itemsCode_read
  go_enter Try.func64, Try.ntmps64
  go_wp2_with fail
  generalize ((w.alloc (.cells #[.int .i64 xk, .int .i64 xm, .int .i64 xt, .int .i64 xi] 50)).alloc (.cells #[.int .i64 0, .slice none 0 0] 64)) = W2 at *
  refine (codeOf_more HK.out _).mono ?_
  rintro e w3 ⟨rfl, hb3⟩
  unfold itemsCode
  have hX3 : w3.heap[w.heap.size]? = some (.cells #[.int .i64 xk, .int .i64 xm, .int .i64 xt, .int .i64 xi] 50 (0, 0)) := by rw [hb3.block _ (by omega)]; exact hX
  have hM3 : w3.heap[w.heap.size + 1]? = some (.cells #[.int .i64 0, .slice none 0 0] 64 (0, 0)) := by rw [hb3.block _ (by omega)]; exact hM
  have hs3 : w.heap.size + 2 ≤ w3.heap.size := by have := hb3.size; omega
  have HB3 := Lib.hid (hB.trans (hb3.mono hB.size))
  clear hX hM hB hb3 hsz
  go_wp2_with fail
  refine (KR.out w3 HB3.out).mono ?_
  rintro e w4 ⟨p, r, rfl, hfx, hc4, hg4⟩
  have hs4 : w.heap.size + 2 ≤ w4.heap.size := Nat.le_trans hs3 hg4.size
  have hX4 : w4.heap[w.heap.size]? = some (.cells #[.int .i64 xk, .int .i64 xm, .int .i64 xt, .int .i64 xi] 50 (0, 0)) := by rw [hg4.block _ (by omega) (by simp; omega)]; exact hX3
  have hM4 : w4.heap[w.heap.size + 1]? = some (.cells #[.int .i64 0, .slice none 0 0] 64 (0, 0)) := by rw [hg4.block _ (by omega) (by simp; omega)]; exact hM3
  have HG5 : Hid (w.grownBy (w4.alloc (.cells #[.int .i64 num, .slice p q r] 64)) (some g)) := Lib.hid (((grown_below HB3.out (some g)).trans hg4).trans (grown_below (alloc_same _ _) _))
  have HC5 : Hid (Cur (w4.alloc (.cells #[.int .i64 num, .slice p q r] 64)) g b m d k2) := Lib.hid (hc4.same (alloc_same _ _))
  have hX5 : (w4.alloc (.cells #[.int .i64 num, .slice p q r] 64)).heap[w.heap.size]? = some (.cells #[.int .i64 xk, .int .i64 xm, .int .i64 xt, .int .i64 xi] 50 (0, 0)) := by rw [Below.heap_alloc _ _ _ (by omega)]; exact hX4
  have hM5 : (w4.alloc (.cells #[.int .i64 num, .slice p q r] 64)).heap[w.heap.size + 1]? = some (.cells #[.int .i64 0, .slice none 0 0] 64 (0, 0)) := by rw [Below.heap_alloc _ _ _ (by omega)]; exact hM4
  have hL5 : (w4.alloc (.cells #[.int .i64 num, .slice p q r] 64)).heap[w4.heap.size]? = some (.cells #[.int .i64 num, .slice p q r] 64 (0, 0)) := heap_alloc_new w4 _
  have hs5 : w4.heap.size + 1 = (w4.alloc (.cells #[.int .i64 num, .slice p q r] 64)).heap.size := by simp
  have HN5 := Lib.hid (hfx _ (hg4.trans (grown_below (alloc_same w4 (.cells #[.int .i64 num, .slice p q r] 64)) (some g))))
  have x0 := (block_cell hX5 0).trans rfl
  have x1 := (block_cell hX5 1).trans rfl
  have x2 := (block_cell hX5 2).trans rfl
  have x3 := (block_cell hX5 3).trans rfl
  obtain ⟨l0, l1, _, _⟩ := two_cells hL5
  clear hX3 hM3 hX4 hM4 hg4 hc4 hfx hX5
  go_wp2_with fail
  clear x0 x1 x2 x3 l0 l1
  generalize (w4.alloc (.cells #[.int .i64 num, .slice p q r] 64)) = W5 at *
  refine (KV.out W5 p r HN5.out).mono ?_
  rintro e w6 ⟨rfl, hb6⟩
  have hM6 : w6.heap[w.heap.size + 1]? = some (.cells #[.int .i64 0, .slice none 0 0] 64 (0, 0)) := by rw [hb6.block _ (by omega)]; exact hM5
  have HG6 := Lib.hid (HG5.out.trans (grown_below hb6 (some g)))
  obtain ⟨m0, m1, g0, g1⟩ := two_cells hM6
  obtain ⟨z0, z1, hZ⟩ := two_put hM6 (.int .i64 0) (.slice none 0 0)
  clear hM5 hM6 hb6 hL5 hZ
  go_wp2_with fail
  (try simp only [Exit.inBlock, Exit.then])
  refine bodyPost_ret (by simp [results, Try.results64, go_sem, z0, z1]; try rfl) rfl ?_
  exact ⟨rfl, grown_set2 HG6.out (by omega) _ _⟩

set_option maxHeartbeats 2000000 in
set_option maxRecDepth 100000 in
theorem readFieldItems_fit (xk : Int) (xm xt xi : Int) (g : Nat) (b : Option Addr) (m d k : Nat) (num : Int) (q : Nat) (it : List Int) (k2 : Nat) (hq : q ≤ 1000000000) (w : World) (h : Cur w g b m d k) (hk : xk = 2 ∨ xk = 3)
    (hr : ∀ w0, Below w.heap.size w w0 → Calls Try.prog 81 #[.pointer (some ⟨g, 0, none⟩)] w0 (Rdd g b m d num q it k2 w0)) (hf : fitsField ⟨xk, xm, xt, xi⟩ num it = true) :
    Calls Try.prog 64 #[.pointer (some ⟨g, 0, none⟩), .agg #[.int .i64 xk, .int .i64 xm, .int .i64 xt, .int .i64 xi]] w (fun e w' => ∃ p r, e = .returned (.tuple #[.agg #[.int .i64 num, .slice p q r], .bool true]) ∧ Own .i64 3 w' w.heap.size p q r it ∧ Cur w' g b m d k2 ∧ w.grownBy w' (some g)) := by
  have hgl := h.lt
  have KR := Lib.hid hr
  have HK := Lib.hid hk
  have KV := Lib.hid (fun w0 p r (h0 : Nums .i64 w0 p q it) => fitsField_any ⟨xk, xm, xt, xi⟩ num p q r it w0 h0)
  rw [hf] at KV
  unfold Fd.val at KV
  obtain ⟨i0, hi, hz0, hz1, hz2⟩ := info_parts infoIntS
  have HI := Lib.hid (And.intro hi (And.intro hz0 (And.intro hz1 hz2)))
  clear hi hz0 hz1 hz2
  obtain ⟨hsz, hX, hM, hB⟩ := two w #[.int .i64 xk, .int .i64 xm, .int .i64 xt, .int .i64 xi] #[.int .i64 0, .slice none 0 0] 50 64
  clear h hr hk hf
  unfold Rdd at KR
  have F0 := itemsCode_read
  go_enter Try.func64, Try.ntmps64
  go_wp2_with fail
  generalize ((w.alloc (.cells #[.int .i64 xk, .int .i64 xm, .int .i64 xt, .int .i64 xi] 50)).alloc (.cells #[.int .i64 0, .slice none 0 0] 64)) = W2 at *
  refine (codeOf_more HK.out _).mono ?_
  rintro e w3 ⟨rfl, hb3⟩
  unfold itemsCode
  have hX3 : w3.heap[w.heap.size]? = some (.cells #[.int .i64 xk, .int .i64 xm, .int .i64 xt, .int .i64 xi] 50 (0, 0)) := by rw [hb3.block _ (by omega)]; exact hX
  have hM3 : w3.heap[w.heap.size + 1]? = some (.cells #[.int .i64 0, .slice none 0 0] 64 (0, 0)) := by rw [hb3.block _ (by omega)]; exact hM
  have hs3 : w.heap.size + 2 ≤ w3.heap.size := by have := hb3.size; omega
  have HB3 := Lib.hid (hB.trans (hb3.mono hB.size))
  clear hX hM hB hb3 hsz
  go_wp2_with fail
  refine (KR.out w3 HB3.out).mono ?_
  rintro e w4 ⟨p, r, rfl, hfx, hc4, hg4⟩
  have hs4 : w.heap.size + 2 ≤ w4.heap.size := Nat.le_trans hs3 hg4.size
  have hX4 : w4.heap[w.heap.size]? = some (.cells #[.int .i64 xk, .int .i64 xm, .int .i64 xt, .int .i64 xi] 50 (0, 0)) := by rw [hg4.block _ (by omega) (by simp; omega)]; exact hX3
  have hM4 : w4.heap[w.heap.size + 1]? = some (.cells #[.int .i64 0, .slice none 0 0] 64 (0, 0)) := by rw [hg4.block _ (by omega) (by simp; omega)]; exact hM3
  have HG5 : Hid (w.grownBy (w4.alloc (.cells #[.int .i64 num, .slice p q r] 64)) (some g)) := Lib.hid (((grown_below HB3.out (some g)).trans hg4).trans (grown_below (alloc_same _ _) _))
  have HC5 : Hid (Cur (w4.alloc (.cells #[.int .i64 num, .slice p q r] 64)) g b m d k2) := Lib.hid (hc4.same (alloc_same _ _))
  have hX5 : (w4.alloc (.cells #[.int .i64 num, .slice p q r] 64)).heap[w.heap.size]? = some (.cells #[.int .i64 xk, .int .i64 xm, .int .i64 xt, .int .i64 xi] 50 (0, 0)) := by rw [Below.heap_alloc _ _ _ (by omega)]; exact hX4
  have hM5 : (w4.alloc (.cells #[.int .i64 num, .slice p q r] 64)).heap[w.heap.size + 1]? = some (.cells #[.int .i64 0, .slice none 0 0] 64 (0, 0)) := by rw [Below.heap_alloc _ _ _ (by omega)]; exact hM4
  have hL5 : (w4.alloc (.cells #[.int .i64 num, .slice p q r] 64)).heap[w4.heap.size]? = some (.cells #[.int .i64 num, .slice p q r] 64 (0, 0)) := heap_alloc_new w4 _
  have hs5 : w4.heap.size + 1 = (w4.alloc (.cells #[.int .i64 num, .slice p q r] 64)).heap.size := by simp
  have HN5 := Lib.hid (hfx _ (hg4.trans (grown_below (alloc_same w4 (.cells #[.int .i64 num, .slice p q r] 64)) (some g))))
  have x0 := (block_cell hX5 0).trans rfl
  have x1 := (block_cell hX5 1).trans rfl
  have x2 := (block_cell hX5 2).trans rfl
  have x3 := (block_cell hX5 3).trans rfl
  obtain ⟨l0, l1, _, _⟩ := two_cells hL5
  clear hX3 hM3 hX4 hM4 hg4 hc4 hfx hX5
  go_wp2_with fail
  clear x0 x1 x2 x3 l0 l1
  generalize (w4.alloc (.cells #[.int .i64 num, .slice p q r] 64)) = W5 at *
  refine (KV.out W5 p r HN5.out).mono ?_
  rintro e w6 ⟨rfl, hb6⟩
  have hM6 : w6.heap[w.heap.size + 1]? = some (.cells #[.int .i64 0, .slice none 0 0] 64 (0, 0)) := by rw [hb6.block _ (by omega)]; exact hM5
  have HG6 := Lib.hid (HG5.out.trans (grown_below hb6 (some g)))
  have hL6 : w6.heap[w4.heap.size]? = some (.cells #[.int .i64 num, .slice p q r] 64 (0, 0)) := by rw [hb6.block _ (by omega)]; exact hL5
  have HC6 := Lib.hid (HC5.out.same hb6)
  have HN6 := Lib.hid (HN5.out.same hb6)
  have hs6 : w4.heap.size + 1 ≤ w6.heap.size := by have := hb6.size; omega
  obtain ⟨l0, l1, _, _⟩ := two_cells hL6
  have HM6 := Lib.hid hM6
  have HL6 := Lib.hid hL6
  clear hM5 hM6 hb6 hL5 hL6
  go_wp2_with (at_builtin; refine wpl_app _ rfl (.const (.slice none 0 0)) (.tmp 27) 32 rfl .i64 3 i0 (.int .i64 0) 8 Try.underlying32 HI.out.1 HI.out.2.1 HI.out.2.2.1 HI.out.2.2.2 rfl rfl (Own.nil (B := w6.heap.size)) rfl HN6.out (by omega) ?c1 ?c2 ?_)
  case c1 => omega
  case c2 => exact Nat.le_refl _
  intro a7 c7 w7 ho7 hb7
  have hs7 := hb7.size
  have hL7 : w7.heap[w4.heap.size]? = some (.cells #[.int .i64 num, .slice p q r] 64 (0, 0)) := by rw [hb7.block _ (by omega)]; exact HL6.out
  have hM7 : w7.heap[w.heap.size + 1]? = some (.cells #[.int .i64 0, .slice none 0 0] 64 (0, 0)) := by rw [hb7.block _ (by omega)]; exact HM6.out
  have HC7 := Lib.hid (HC6.out.same hb7)
  have HG7 := Lib.hid (HG6.out.trans (grown_below hb7 (some g)))
  have hout : ∀ z, z < w6.heap.size → ∀ ad, a7 = some ad → ad.block ≠ z := fun z hz ad e => by
    have := (ho7.span ad e).1
    omega
  have HO7 := Lib.hid ho7
  have HOUT := Lib.hid hout
  have h8 : (w7.setCell ⟨w4.heap.size, 1, none⟩ (.slice a7 q c7)).heap[w4.heap.size]? = some (.cells #[.int .i64 num, .slice a7 q c7] 64 (0, 0)) := heap_setCell_same w7 w4.heap.size 1 _ _ (.slice a7 q c7) hL7
  have hM8 : (w7.setCell ⟨w4.heap.size, 1, none⟩ (.slice a7 q c7)).heap[w.heap.size + 1]? = some (.cells #[.int .i64 0, .slice none 0 0] 64 (0, 0)) := by
    rw [Below.heap_setCell _ _ _ _ (by dsimp only; omega)]; exact hM7
  obtain ⟨_, c1, _, f1⟩ := two_cells hL7
  obtain ⟨l0, l1, _, _⟩ := two_cells h8
  obtain ⟨m0, m1, g0, g1⟩ := two_cells hM8
  obtain ⟨z0, z1, hZ⟩ := two_put hM8 (.int .i64 num) (.slice a7 q c7)
  clear ho7 hb7 hL7 hM7 hout h8 hM8 hZ
  go_wp2_with fail
  (try simp only [Exit.inBlock, Exit.then])
  refine bodyPost_ret (by simp [results, Try.results64, go_sem, z0, z1]; try rfl) rfl ?_
  refine ⟨a7, c7, rfl, (((HO7.out.lower (by omega)).set (HOUT.out _ (by omega)) _ _).set (HOUT.out _ (by omega)) _ _).set (HOUT.out _ (by omega)) _ _, (HC7.out.set1 (by omega) _ _).set2 (by omega) _ _, grown_set2 (grown_on HG7.out (set_grown w7 w4.heap.size 1 _) (fun r e => Or.inr (by cases e; omega))) (by omega) _ _⟩

theorem readField_any (x : Fd) (g : Nat) (b : Option Addr) (m d k : Nat) (y : List Int) (w : World) (h : Cur w g b m d k) (hv : Fix w g b m y) (hd : m ≤ d ∧ (d : Int) ≤ 9223372036854775807) (hm : m ≤ 1000000000) (hk : k ≤ m) (hx : x.kind = 1 ∨ x.kind = 2 ∨ x.kind = 3) :
    Calls Try.prog 64 #[.pointer (some ⟨g, 0, none⟩), x.val] w (RfTold 3 g b m d x y k w) := by
  obtain ⟨xk, xm, xt, xi⟩ := x
  have hyl := hv.len
  unfold Fd.val RfTold
  dsimp only at hx
  by_cases h1 : k = m
  · subst h1
    rw [rdF_end (by omega)]
    rcases hx with rfl | hx
    · exact readFieldNum_fail xm xt xi g b k d k w h (fun w0 hb => readNum_no g b k d w0 (h.same hb) hm)
    · exact readFieldItems_fail xk xm xt xi g b k d k w h hx (fun w0 hb => readItems_no g b k d w0 (h.same hb) hm)
  · have hlt : k < y.length := by omega
    obtain ⟨z, hz⟩ : ∃ z, y[k]? = some z := ⟨_, List.getElem?_eq_getElem hlt⟩
    rcases hx with rfl | hx
    · rw [rdF_num hz rfl]
      cases hf : fitsField ⟨1, xm, xt, xi⟩ z [] with
      | false => exact readFieldNum_unfit xm xt xi g b m d k z 0 [] (k + 1) (by omega) w h (fun w0 hb => readNum_yes g b m d k y z w0 (h.same hb) (hv.same hb) hd hm hz) hf
      | true =>
        refine (readFieldNum_fit xm xt xi g b m d k z 0 [] (k + 1) (by omega) w h (fun w0 hb => readNum_yes g b m d k y z w0 (h.same hb) (hv.same hb) hd hm hz) hf).mono ?_
        rintro e w' ⟨p, r, e1, e2⟩
        exact ⟨p, 0, r, e1, e2⟩
    · by_cases h3 : 0 ≤ z ∧ z ≤ (m : Int) - k - 1
      · obtain ⟨q, rfl⟩ : ∃ q : Nat, z = q := ⟨z.toNat, by omega⟩
        rw [rdF_row hz (by dsimp only; omega) (by omega)]
        cases hf : fitsField ⟨xk, xm, xt, xi⟩ 0 ((y.drop (k + 1)).take q) with
        | false => exact readFieldItems_unfit xk xm xt xi g b m d k 0 q _ (k + 1 + q) (by omega) w h hx (fun w0 hb => readItems_yes g b m d k q y w0 (h.same hb) (hv.same hb) hd hm hz (by omega)) hf
        | true =>
          refine (readFieldItems_fit xk xm xt xi g b m d k 0 q _ (k + 1 + q) (by omega) w h hx (fun w0 hb => readItems_yes g b m d k q y w0 (h.same hb) (hv.same hb) hd hm hz (by omega)) hf).mono ?_
          rintro e w' ⟨p, r, e1, e2⟩
          exact ⟨p, q, r, e1, e2⟩
      · rw [rdF_out hz (by dsimp only; omega) (by rw [hyl]; exact h3)]
        exact readFieldItems_fail xk xm xt xi g b m d k w h hx (fun w0 hb => readItems_out g b m d k y z w0 (h.same hb) (hv.same hb) hd hm hz h3)
end Go.Proofs.Ytjkjnhkamieljaa
namespace Go.Proofs.Ytjkjnhkamieljaa
open Go.ChangeShapes Go.WideShapes Go.ChangeAt Go.RowKit
set_option linter.unusedVariables false

/-- The list of values is the call's own, and block gc is none of its blocks. -/
def OwnVN (gc : Nat) (tO tI : TypeId) (w : World) (B : Nat) (a : Option Addr) (n c : Nat) (l : List Vl) : Prop :=
  ∃ hs : List Vh, OwnI Vh.enc 2 tO w B a n c hs ∧ RowsV tI w B a hs l ∧ (∀ ad, a = some ad → ad.block ≠ gc) ∧ ∀ (j : Nat) (h : Vh) (ad : Addr), hs[j]? = some h → h.p = some ad → ad.block ≠ gc
section
variable {tO tI : TypeId} {w w' u : World} {B n c gc : Nat} {a : Option Addr} {l : List Vl}
theorem OwnVN.ownV (h : OwnVN gc tO tI w B a n c l) : OwnV tO tI w B a n c l := by
  obtain ⟨hs, h1, h2, _, _⟩ := h
  exact ⟨hs, h1, h2⟩
theorem OwnV.newer (h : OwnV tO tI w B a n c l) (hg : w.heap.size ≤ gc) : OwnVN gc tO tI w B a n c l := by
  obtain ⟨hs, h1, h2⟩ := h
  exact ⟨hs, h1, h2, fun ad e => by have := (h1.span ad e).2; omega, fun j g ad hk e => by have := (h2.lt hk e).2; omega⟩
theorem OwnVN.on (h : OwnVN gc tO tI w B a n c l) (hg : w.grownBy w' (some gc)) : OwnVN gc tO tI w' B a n c l := by
  obtain ⟨hs, h1, h2, h3, h4⟩ := h
  refine ⟨hs, h1.far hg fun ad e e2 => h3 ad e (Option.some.inj e2).symm, ⟨h2.1, fun j g x hk hx => ?_, h2.2.2⟩, h3, h4⟩
  obtain ⟨e, ho, hd⟩ := h2.2.1 j g x hk hx
  exact ⟨e, ho.far hg fun ad e e2 => h4 j g ad hk e (Option.some.inj e2).symm, hd⟩
theorem OwnVN.same (h : OwnVN gc tO tI w B a n c l) (hb : Below w.heap.size w w') : OwnVN gc tO tI w' B a n c l := h.on (grown_below hb _)
theorem OwnVN.slots {g : Nat} (h : OwnVN gc tO tI w B (some ⟨g, 0, none⟩) n c l) {j : Nat} (hj : j < n) : (∃ u0, w.cell? ⟨g, j * 2, none⟩ = some u0) ∧ (∃ u1, w.cell? ⟨g, j * 2 + 1, none⟩ = some u1) ∧ w.frozen? ⟨g, j * 2, none⟩ = false ∧ w.frozen? ⟨g, j * 2 + 1, none⟩ = false := by
  obtain ⟨hs, h1, _, _, _⟩ := h
  exact ⟨row_cell h1.2 (by omega), row_cell h1.2 (by omega), h1.2.frozenAt _, h1.2.frozenAt _⟩
/-- A value whose integers lie in memory that is newer than the list is put at place i, after block gc was written. -/
theorem OwnVN.put {g : Nat} (h : OwnVN gc tO tI u B (some ⟨g, 0, none⟩) n c l) (hb : u.grownBy w (some gc)) (hgc : gc < u.heap.size) {i : Nat} (hi : i < n) (k : Int) (p : Option Addr) (m d : Nat) (y : List Int) (hv : Own .i64 tI w B p m d y)
    (hf : ∀ ad, p = some ad → u.heap.size ≤ ad.block) :
    OwnVN gc tO tI ((w.setCell ⟨g, i * 2, none⟩ (.int .i64 k)).setCell ⟨g, i * 2 + 1, none⟩ (.slice p m d)) B (some ⟨g, 0, none⟩) n c (l.set i ⟨k, y⟩) ∧ w.grownBy ((w.setCell ⟨g, i * 2, none⟩ (.int .i64 k)).setCell ⟨g, i * 2 + 1, none⟩ (.slice p m d)) (some g) := by
  have hl := h.ownV.len
  have hgs := h.ownV.span _ rfl
  dsimp only at hgs
  obtain ⟨hs, h1, h2, hA, hR⟩ := h
  have hlt := fun (j : Nat) (k : Vh) (ad : Addr) (hk : hs[j]? = some k) (e : k.p = some ad) => (h2.lt hk e).2
  have h1' := h1.far hb fun ad e e2 => hA ad e (Option.some.inj e2).symm
  have h2' : RowsV tI w B (some ⟨g, 0, none⟩) hs l := ⟨h2.1, fun j g x hk hx => by
    obtain ⟨e, ho, hd⟩ := h2.2.1 j g x hk hx
    exact ⟨e, ho.far hb fun ad e e2 => hR j g ad hk e (Option.some.inj e2).symm, hd⟩, h2.2.2⟩
  have h3 := stored2 h1'.2 (i * 2) (i * 2 + 1) (.int .i64 k) (.slice p m d)
  have hih : i < hs.length := by rw [h1.len]; exact hi
  rw [flatVh_put hs i ⟨k, p, m, d⟩ hih] at h3
  refine ⟨⟨hs.set i ⟨k, p, m, d⟩, ⟨by rw [List.length_set]; exact h1.len, h3.1⟩, ⟨by rw [List.length_set, List.length_set]; exact h2.1, fun j v x hk hx => ?_, fun j j' v v' hjj hk hk' ad bd ha hb' => ?_⟩, hA, fun j v ad hk ha => ?_⟩, h3.2⟩
  · by_cases e : j = i
    · subst e
      rw [List.getElem?_set_self hih] at hk
      rw [List.getElem?_set_self (by rw [hl]; exact hi)] at hx
      cases hk
      cases hx
      refine ⟨rfl, Own.beside (b := some ⟨g, 0, none⟩) (n := n) (c := c) hv h3.2 fun ad bd ha hb' => ?_, fun ad bd ha hb' => ?_⟩
      · cases hb'
        have := hf ad ha
        dsimp only
        omega
      · cases hb'
        have := hf ad ha
        dsimp only
        omega
    · rw [List.getElem?_set_ne (by omega)] at hk hx
      obtain ⟨e1, ho, hd1⟩ := h2'.2.1 j v x hk hx
      exact ⟨e1, Own.beside (b := some ⟨g, 0, none⟩) (n := n) (c := c) ho h3.2 hd1, hd1⟩
  · by_cases e : j = i
    · subst e
      rw [List.getElem?_set_self hih] at hk
      rw [List.getElem?_set_ne (by omega)] at hk'
      cases hk
      have := hlt j' v' bd hk' hb'
      have := hf ad ha
      omega
    · rw [List.getElem?_set_ne (by omega)] at hk
      by_cases e' : j' = i
      · subst e'
        rw [List.getElem?_set_self hih] at hk'
        cases hk'
        have := hlt j v ad hk ha
        have := hf bd hb'
        omega
      · rw [List.getElem?_set_ne (by omega)] at hk'
        exact h2'.2.2 j j' v v' hjj hk hk' ad bd ha hb'
  · by_cases e : j = i
    · subst e
      rw [List.getElem?_set_self hih] at hk
      cases hk
      have := hf ad ha
      omega
    · rw [List.getElem?_set_ne (by omega)] at hk
      exact hR j v ad hk ha
end
theorem rep_put {v : List Vl} {j n : Nat} (hv : v.length = j) (hj : j < n) (x : Vl) : (v ++ List.replicate (n - j) (⟨0, []⟩ : Vl)).set j x = (v ++ [x]) ++ List.replicate (n - (j + 1)) (⟨0, []⟩ : Vl) := by
  rw [List.set_append_right _ _ (by omega), hv, Nat.sub_self, show n - j = (n - (j + 1)) + 1 by omega, List.replicate_succ, List.set_cons_zero]
  simp
theorem rep_not {v : List Vl} {j n : Nat} (hj : j < n) : v ++ List.replicate (n - j) (⟨0, []⟩ : Vl) = (v ++ [⟨0, []⟩]) ++ List.replicate (n - (j + 1)) (⟨0, []⟩ : Vl) := by
  rw [show n - j = (n - (j + 1)) + 1 by omega, List.replicate_succ]
  simp

set_option maxHeartbeats 8000000 in
set_option maxRecDepth 100000 in
theorem readPrefix_any (a : Option Addr) (n c : Nat) (l : List Fd) (b : Option Addr) (m d : Nat) (y : List Int) (w : World) (h : Fds w a n l) (hv : Nums .i64 w b m y) (hfc : n ≤ c ∧ (c : Int) ≤ 9223372036854775807) (hc : m ≤ d ∧ (d : Int) ≤ 9223372036854775807) (hn : n ≤ 1000000000) (hm : m ≤ 1000000000) :
    Calls Try.prog 40 #[.slice a n c, .slice b m d] w (RpTold 64 3 l y w) := by
  have H := Lib.hid h
  have HV := Lib.hid hv
  have hl := Lib.hid h.len
  have hyl := Lib.hid hv.len
  have KF := Lib.hid (isFormat_any a n c l w h hfc)
  obtain ⟨i0, hi, hz0, hz1, hz2⟩ := info_parts infoValueS
  have HI := Lib.hid (And.intro hi (And.intro hz0 (And.intro hz1 hz2)))
  clear h hv hi hz0 hz1 hz2
  unfold RpTold
  cases hf : isFmt l with
  | false =>
    have HE := Lib.hid (rp_none (y := y) (rdP_not hf))
    rw [hf] at KF
    clear hf
    go_enter Try.func40, Try.ntmps40
    go_wp2_with fail
    refine KF.out.mono ?_
    rintro e w1 ⟨rfl, hb1⟩
    have HB1 := Lib.hid hb1
    clear hb1
    go_wp2_with fail
    go_ret2
    exact ⟨_, _, _, by rw [HE.out.2]; rfl, by rw [HE.out.1]; exact OwnV.empty HB1.out.size, HB1.out.alloc HB1.out.size _⟩
  | true =>
    have hF := isFmt_iff.1 hf
    have hn6 : n ≤ 6 := by have := hF.1; have := hl.out; omega
    have HOK := Lib.hid hF.2
    have HSTOP := Lib.hid (fun (j : Nat) (hj : j ≤ l.length) (hr : rdTo l y j = none) => rp_none (rdP_stop hr hj))
    have HALL := Lib.hid (fun (s : List Vl) (k : Nat) (hr : rdTo l y l.length = some (s, k)) => rp_some (rdP_all hf hr))
    have HFORM := Lib.hid (fun (j k : Nat) (v : List Vl) (hj : j ≤ l.length) (hr : rdTo l y j = some (v, k)) => rdTo_form hF.2 j v k hj hr)
    rw [hf] at KF
    clear hf hF
    go_enter Try.func40, Try.ntmps40
    go_wp2_with fail
    refine KF.out.mono ?_
    rintro e w1 ⟨rfl, hb1⟩
    have HB1 := Lib.hid hb1
    clear hb1
    go_wp2_with (with_reducible refine wpList_make_full _ rfl (.tmp 17) (.tmp 17) 34 rfl w.heap.size 64 i0 (.agg #[.int .i64 0, .slice none 0 0]) 2 Try.underlying34 HI.out.1 HI.out.2.1 HI.out.2.2.1 .i64 .i64 _ _ n rfl rfl (by omega) (by omega) ?c1 ?c2 ?c3 ?_)
    case c1 => rw [HI.out.2.2.2]; omega
    case c2 => unfold maxLen; omega
    case c3 => exact HB1.out.size
    intro w2 hown hgrow
    have HB2 : Hid (Below w.heap.size w w2) := Lib.hid (HB1.out.grown hgrow HB1.out.size (fun _ e => by cases e))
    have HO2 : Hid (OwnV 64 3 w2 w.heap.size (some ⟨w1.heap.size, 0, none⟩) n n ([] ++ List.replicate (n - 0) ⟨0, []⟩)) := by
      have hm : (madeCells #[.int .i64 0, .slice none 0 0] (n * 2)).toList = flatOf Vh.enc (List.replicate n ⟨0, none, 0, 0⟩) := made2 n
      rw [hm] at hown
      exact Lib.hid (by simpa using OwnV.zeros hown)
    have hlt2 : w1.heap.size < w2.heap.size := (HO2.out.span _ rfl).2
    have hle1 : w.heap.size ≤ w1.heap.size := HB1.out.size
    clear hown hgrow
    go_wp2_with fail
    have HC3 : Hid (Cur (w2.alloc (.cells #[.slice b m d, .int .i64 0] 92)) w2.heap.size b m d 0) := Lib.hid (heap_alloc_new w2 _)
    have HO3 : Hid (OwnVN w2.heap.size 64 3 (w2.alloc (.cells #[.slice b m d, .int .i64 0] 92)) w.heap.size (some ⟨w1.heap.size, 0, none⟩) n n ([] ++ List.replicate (n - 0) ⟨0, []⟩)) := Lib.hid ((HO2.out.newer (Nat.le_refl _)).same (alloc_same _ _))
    have HB3 : Hid (Below w.heap.size w (w2.alloc (.cells #[.slice b m d, .int .i64 0] 92))) := Lib.hid (HB2.out.alloc HB2.out.size _)
    have hle2 : w.heap.size ≤ w2.heap.size := by omega
    generalize w2.heap.size = gc at *
    generalize w1.heap.size = g0 at *
    go_loopw [24] (fun i wr => ∃ (j k : Nat) (v : List Vl), i = .int .i64 j ∧ j ≤ n ∧ rdTo l y j = some (v, k) ∧ OwnVN gc 64 3 wr w.heap.size (some ⟨g0, 0, none⟩) n n (v ++ List.replicate (n - j) ⟨0, []⟩) ∧ Cur wr gc b m d k ∧ Below w.heap.size w wr) (fun i _ => n - (intOf i).toNat)
    case atStart => exact ⟨0, 0, [], rfl, Nat.zero_le _, rfl, HO3.out, HC3.out, HB3.out⟩
    case round =>
      obtain ⟨j, k, v, rfl, hj, hr, ho, hcu, hb⟩ := hrel
      have hform := HFORM.out j k v (by rw [hl.out]; exact hj) hr
      have hvj : v.length = j := hform.1
      have hkm : k ≤ m := by have := hform.2.1; rw [hyl.out] at this; exact this
      have HO := Lib.hid ho
      have HB := Lib.hid hb
      have HR := Lib.hid hr
      have HC := Lib.hid hcu
      have hgl := hcu.lt
      clear ho hb hr hcu hform
      by_cases hlt : j < n
      · have hltI : (j : Int) < (n : Int) := by omega
        obtain ⟨bb, o, ⟨xk, xm, xt, xi⟩, rfl, hx, hc0, hc1, hc2, hc3⟩ := fds_at (H.out.same HB.out) hlt
        dsimp only at hc0 hc1 hc2 hc3
        have HXW : Hid (Below wr.heap.size wr (wr.alloc (.cells #[.int .i64 xk, .int .i64 xm, .int .i64 xt, .int .i64 xi] 50))) := Lib.hid (alloc_same _ _)
        have HXH : Hid ((wr.alloc (.cells #[.int .i64 xk, .int .i64 xm, .int .i64 xt, .int .i64 xi] 50)).heap[wr.heap.size]? = some (.cells #[.int .i64 xk, .int .i64 xm, .int .i64 xt, .int .i64 xi] 50 (0, 0))) := Lib.hid (heap_alloc_new wr _)
        have hxs : (wr.alloc (.cells #[.int .i64 xk, .int .i64 xm, .int .i64 xt, .int .i64 xi] 50)).heap.size = wr.heap.size + 1 := by simp
        have HXB := Lib.hid (HB.out.trans (HXW.out.mono HB.out.size))
        have HKIND := Lib.hid (kind_in HOK.out (by rw [hl.out]; exact hlt) hx)
        have KTJ := isThere_any _ n c l (some ⟨g0, 0, none⟩) n n (v ++ List.replicate (n - j) ⟨0, []⟩) j _ (H.out.same HXB.out) (HO.out.same HXW.out).ownV.vals hn hn
        rw [isThere_part (v' := v) hx (okTo_cond HOK.out (by rw [hl.out]; exact hlt) hx) (fun q hq => List.getElem?_append_left (by omega))] at KTJ
        cases ht : isThere l v j with
        | false =>
          have HS : Hid (rdTo l y (j + 1) = some (v ++ [⟨0, []⟩], k)) := Lib.hid (by rw [rdTo_step HR.out, rdStep_not hx ht])
          rw [ht] at KTJ
          clear ht hx
          go_wp2_with fail
          refine KTJ.mono ?_
          rintro e w2 ⟨rfl, hb2⟩
          have HW2 := Lib.hid (HXW.out.trans (hb2.mono HXW.out.size))
          have HB2 := Lib.hid (HB.out.trans (HW2.out.mono HB.out.size))
          clear hb2 KTJ hc0 hc1 hc2 hc3
          go_wp2_with fail
          go_roundw
          case rel => exact ⟨j + 1, k, _, by go_num, by omega, HS.out, by rw [← rep_not hlt]; exact HO.out.same HW2.out, HC.out.same HW2.out, HB2.out⟩
          case measure => simp [intOf]; omega
        | true =>
          have HS := Lib.hid (rdTo_step HR.out)
          have HT := Lib.hid (rdStep_there (b := y) (k := k) hx ht)
          rw [ht] at KTJ
          clear ht hx
          go_wp2_with fail
          refine KTJ.mono ?_
          rintro e w2 ⟨rfl, hb2⟩
          have HW2 := Lib.hid (HXW.out.trans (hb2.mono HXW.out.size))
          have HB2 := Lib.hid (HB.out.trans (HW2.out.mono HB.out.size))
          have hx2 : w2.heap[wr.heap.size]? = some (.cells #[.int .i64 xk, .int .i64 xm, .int .i64 xt, .int .i64 xi] 50 (0, 0)) := by rw [hb2.block _ (by omega)]; exact HXH.out
          have HO2 := Lib.hid (HO.out.same HW2.out)
          have HC2 := Lib.hid (HC.out.same HW2.out)
          have hgl2 : gc < w2.heap.size := Nat.lt_of_lt_of_le hgl HW2.out.size
          have x0 := (block_cell hx2 0).trans rfl
          have x1 := (block_cell hx2 1).trans rfl
          have x2 := (block_cell hx2 2).trans rfl
          have x3 := (block_cell hx2 3).trans rfl
          have KRJ := readField_any ⟨xk, xm, xt, xi⟩ gc b m d k y w2 HC2.out (fun w' hg => HV.out.same (HB2.out.grown hg HB2.out.size (fun q e => by cases e; exact hle2))) hc hm hkm HKIND.out
          unfold Fd.val RfTold at KRJ
          clear hb2 KTJ hc0 hc1 hc2 hc3 hx2
          go_wp2_with fail
          clear x0 x1 x2 x3
          cases hrd : rdF ⟨xk, xm, xt, xi⟩ y k with
          | none =>
            rw [hrd] at KRJ
            have HE := Lib.hid (HSTOP.out (j + 1) (by rw [hl.out]; omega) (by rw [HS.out, HT.out, hrd]; rfl))
            clear hrd
            refine KRJ.mono ?_
            rintro e w3 ⟨rfl, hg3⟩
            have HB3 := Lib.hid (HB2.out.grown hg3 HB2.out.size (fun q e => by cases e; exact hle2))
            have hs3 := HB3.out.size
            have HEM : Hid (OwnV 64 3 ((w3.alloc (.cells #[.int .i64 0, .slice none 0 0] 64)).alloc (.cells #[] 64)) w.heap.size (some ⟨w3.heap.size + 1, 0, none⟩) 0 0 []) := Lib.hid (by
              have := OwnV.empty (tO := 64) (tI := 3) (w := w3.alloc (.cells #[.int .i64 0, .slice none 0 0] 64)) (B := w.heap.size) (by simp; omega)
              rw [show (w3.alloc (.cells #[.int .i64 0, .slice none 0 0] 64)).heap.size = w3.heap.size + 1 by simp] at this
              exact this)
            clear hg3
            go_wp2_with fail
            go_ret2
            exact ⟨_, _, _, by rw [HE.out.2]; rfl, by rw [HE.out.1]; exact HEM.out, (HB3.out.alloc (by omega) _).alloc (by simp; omega) _⟩
          | some s =>
            obtain ⟨⟨zn, zi⟩, k2⟩ := s
            rw [hrd] at KRJ
            have HN : Hid (rdTo l y (j + 1) = some (v ++ [⟨zn, zi⟩], k2)) := Lib.hid (by rw [HS.out, HT.out, hrd]; rfl)
            clear hrd
            refine KRJ.mono ?_
            rintro e w3 ⟨p, q, g, rfl, ho3, hc3, hg3⟩
            dsimp only at ho3
            have hs3 := hg3.size
            have HA : Hid (Below w3.heap.size w3 (w3.alloc (.cells #[.int .i64 zn, .slice p q g] 64))) := Lib.hid (alloc_same _ _)
            have HG4 := Lib.hid (hg3.trans (grown_below HA.out (some gc)))
            have HB4 := Lib.hid (HB2.out.grown HG4.out HB2.out.size (fun q e => by cases e; exact hle2))
            have hs2 := HB2.out.size
            have hput := OwnVN.put HO2.out HG4.out hgl2 hlt zn p q g zi ((ho3.lower hs2).same HA.out) (fun ad e => (ho3.span ad e).1)
            rw [rep_put hvj hlt] at hput
            have HP := Lib.hid hput
            obtain ⟨⟨u0, hu0⟩, ⟨u1, hu1⟩, hf0, hf1⟩ := ((HO2.out.on HG4.out)).slots hlt
            have HC4 := Lib.hid (hc3.same HA.out)
            have hL : (w3.alloc (.cells #[.int .i64 zn, .slice p q g] 64)).heap[w3.heap.size]? = some (.cells #[.int .i64 zn, .slice p q g] 64 (0, 0)) := heap_alloc_new w3 _
            obtain ⟨l0, l1, _, _⟩ := two_cells hL
            have hne : gc ≠ g0 := by omega
            clear hput ho3 hc3 hg3 hL
            go_wp2_with fail
            go_roundw
            case rel => exact ⟨j + 1, k2, _, by go_num, by omega, HN.out, HP.out.1, (HC4.out.set1 hne _ _).set1 hne _ _, grown_to (b := some ⟨g0, 0, none⟩) (m := n) (d := n) HP.out.2 HB4.out (lo := w.heap.size) (hi := g0 + 1) (fun ad e => by cases e; exact ⟨hle1, Nat.lt_succ_self _⟩) (Nat.le_refl _) HB4.out.size⟩
            case measure => simp [intOf]; omega
      · obtain rfl : j = n := by omega
        have HE := Lib.hid (HALL.out v k (by rw [hl.out]; exact HR.out))
        have hcur := HC.out
        unfold Cur at hcur
        obtain ⟨c0, c1, _, _⟩ := two_cells hcur
        have HOF := Lib.hid (HO.out.ownV)
        rw [Nat.sub_self, List.replicate_zero, List.append_nil] at HOF
        clear hcur
        go_wp2_with fail
        go_quiet (fail)
        go_wp2_with fail
        go_ret2
        exact ⟨_, _, _, by rw [HE.out.2]; rfl, by rw [HE.out.1]; exact HOF.out.same (drewN_same _ _), HB.out.trans ((drewN_same _ _).mono HB.out.size)⟩
set_option maxHeartbeats 2000000 in
set_option maxRecDepth 100000 in
theorem decodeMessage_any (a : Option Addr) (n c : Nat) (l : List Fd) (b : Option Addr) (m d : Nat) (y : List Int) (w : World) (h : Fds w a n l) (hv : Nums .i64 w b m y) (hfc : n ≤ c ∧ (c : Int) ≤ 9223372036854775807) (hc : m ≤ d ∧ (d : Int) ≤ 9223372036854775807) (hn : n ≤ 1000000000) (hm : m ≤ 1000000000) :
    Calls Try.prog 18 #[.slice a n c, .slice b m d] w (DmTold 64 3 l y w) := by
  have K := Lib.hid (readPrefix_any a n c l b m d y w h hv hfc hc hn hm)
  have hyl := hv.len
  clear h hv
  unfold RpTold at K
  unfold DmTold
  by_cases hk : rpK l y = (m : Int)
  · have hok : dmOk l y = true := by unfold dmOk; rw [hyl]; exact decide_eq_true hk
    have HE : Hid (dmOk l y = true ∧ dmV l y = rpV l y) := Lib.hid ⟨hok, by unfold dmV; rw [if_pos hok]⟩
    rw [hk] at K
    clear hk hok
    go_enter Try.func18, Try.ntmps18
    go_wp2_with fail
    refine K.out.mono ?_
    rintro e w1 ⟨a1, n1, c1, rfl, ho, hb⟩
    have HB := Lib.hid hb
    have HO := Lib.hid ho
    clear ho hb
    go_wp2_with fail
    go_ret2
    exact ⟨_, _, _, by rw [HE.out.1]; rfl, by rw [HE.out.2]; exact HO.out, HB.out⟩
  · have hok : dmOk l y = false := by unfold dmOk; rw [hyl]; exact decide_eq_false hk
    have HE : Hid (dmOk l y = false ∧ dmV l y = []) := Lib.hid ⟨hok, by unfold dmV; rw [if_neg (by rw [hok]; decide)]⟩
    obtain ⟨t, ht⟩ : ∃ t, t = rpK l y := ⟨_, rfl⟩
    rw [← ht] at K hk
    have b1 : (t != (m : Int)) = true := by simpa using hk
    clear hok ht hk
    go_enter Try.func18, Try.ntmps18
    go_wp2_with fail
    refine K.out.mono ?_
    rintro e w1 ⟨a1, n1, c1, rfl, ho, hb⟩
    have HB := Lib.hid hb
    have hs := hb.size
    clear ho hb
    go_wp2_with fail
    go_ret2
    exact ⟨_, _, _, by rw [HE.out.1]; rfl, by rw [HE.out.2]; exact OwnV.empty hs, HB.out.alloc hs _⟩
end Go.Proofs.Ytjkjnhkamieljaa
namespace Go.Proofs.Ytjkjnhkamieljaa
open Go.ChangeShapes Go.WideShapes Go.ChangeAt Go.RowKit
set_option linter.unusedVariables false

/-- What a function leaves that hands back a value whose items are its own. -/
def MkvTold (tI : TypeId) (v : Vl) (w : World) (e : Ending) (w' : World) : Prop :=
  ∃ a n c, e = .returned (.agg #[.int .i64 v.num, .slice a n c]) ∧ Own .i64 tI w' w.heap.size a n c v.items ∧ Below w.heap.size w w'

set_option maxHeartbeats 4000000 in
set_option maxRecDepth 100000 in
theorem makeValue_any (x : Fd) (s p : Int) (w : World) (hs : Fit64 s) (hp : 0 ≤ p ∧ p ≤ 1000) (hx : 1 ≤ x.max ∧ x.max ≤ 99) :
    Calls Try.prog 44 #[x.val, .int .i64 s, .int .i64 p] w (MkvTold 3 (mkVal x s p) w) := by
  obtain ⟨xk, xm, xt, xi⟩ := x
  dsimp only at hx
  have HS := Lib.hid hs
  have hbd := pickOf_bd s p (xm + 1)
  obtain ⟨q, hq⟩ : ∃ q : Nat, pickOf s p (xm + 1) = q := ⟨(pickOf s p (xm + 1)).toNat, by omega⟩
  have hq99 : q ≤ 99 := by have := hbd.2.2 (by omega); omega
  have KP := Lib.hid (fun w0 : World => pickOf_any s p (xm + 1) w0 hs (fit_mk (by omega) (by omega)) (fit_mk (by omega) (by omega)))
  rw [hq] at KP
  have KV1 : Hid (xk = 1 → mkVal ⟨xk, xm, xt, xi⟩ s p = ⟨(q : Int), []⟩) := Lib.hid fun h => by rw [mkVal_num h, hq]
  have KV2 : Hid (xk ≠ 1 → mkVal ⟨xk, xm, xt, xi⟩ s p = ⟨0, picks s (p + 1) q⟩) := Lib.hid fun h => by rw [mkVal_more h, hq, Int.toNat_natCast]
  clear hs hbd hq
  unfold Fd.val MkvTold
  have hL0 : ((w.alloc (.cells #[.int .i64 xk, .int .i64 xm, .int .i64 xt, .int .i64 xi] 50)).alloc (.cells #[.int .i64 0, .slice none 0 0] 64)).heap[w.heap.size]? = some (.cells #[.int .i64 xk, .int .i64 xm, .int .i64 xt, .int .i64 xi] 50 (0, 0)) := by
    rw [Below.heap_alloc _ _ _ (by simp)]
    exact heap_alloc_new w _
  have hM0 : ((w.alloc (.cells #[.int .i64 xk, .int .i64 xm, .int .i64 xt, .int .i64 xi] 50)).alloc (.cells #[.int .i64 0, .slice none 0 0] 64)).heap[w.heap.size + 1]? = some (.cells #[.int .i64 0, .slice none 0 0] 64 (0, 0)) := by
    have := heap_alloc_new (w.alloc (.cells #[.int .i64 xk, .int .i64 xm, .int .i64 xt, .int .i64 xi] 50)) (.cells #[.int .i64 0, .slice none 0 0] 64 (0, 0))
    simpa using this
  have HB0 : Hid (Below w.heap.size w ((w.alloc (.cells #[.int .i64 xk, .int .i64 xm, .int .i64 xt, .int .i64 xi] 50)).alloc (.cells #[.int .i64 0, .slice none 0 0] 64))) := Lib.hid (((Below.refl _ w).alloc (Nat.le_refl _) _).alloc (by simp) _)
  have hsz : w.heap.size + 2 = ((w.alloc (.cells #[.int .i64 xk, .int .i64 xm, .int .i64 xt, .int .i64 xi] 50)).alloc (.cells #[.int .i64 0, .slice none 0 0] 64)).heap.size := by simp
  have x1 := (block_cell hL0 1).trans rfl
  go_enter Try.func44, Try.ntmps44
  go_wp2_with fail
  generalize ((w.alloc (.cells #[.int .i64 xk, .int .i64 xm, .int .i64 xt, .int .i64 xi] 50)).alloc (.cells #[.int .i64 0, .slice none 0 0] 64)) = W0 at *
  refine (KP.out W0).mono ?_
  rintro e w1 ⟨rfl, hb1⟩
  have hL1 : w1.heap[w.heap.size]? = some (.cells #[.int .i64 xk, .int .i64 xm, .int .i64 xt, .int .i64 xi] 50 (0, 0)) := by rw [hb1.block _ (by omega)]; exact hL0
  have hM1 : w1.heap[w.heap.size + 1]? = some (.cells #[.int .i64 0, .slice none 0 0] 64 (0, 0)) := by rw [hb1.block _ (by omega)]; exact hM0
  have HB1 := Lib.hid (HB0.out.trans (hb1.mono HB0.out.size))
  have hs1 := hb1.size
  have y0 := (block_cell hL1 0).trans rfl
  clear x1 hL0 hM0 hb1 hL1
  by_cases hk : xk = 1
  · subst hk
    have HV := Lib.hid (KV1.out rfl)
    have hM2 := heap_setCell_same w1 (w.heap.size + 1) 0 _ _ (.int .i64 q) hM1
    have hM3 := heap_setCell_same _ (w.heap.size + 1) 1 _ _ (.slice none 0 0) hM2
    have g0 := block_frozen hM1 0
    have g1 := block_frozen hM1 1
    have m0 := (block_cell hM1 0).trans rfl
    have m1 := (block_cell hM1 1).trans rfl
    have z0 : (w1.setCell ⟨w.heap.size + 1, 0, none⟩ (.int .i64 q)).cell? ⟨w.heap.size + 1, 0, none⟩ = some (.int .i64 q) := (block_cell hM2 0).trans rfl
    have z1 : ((w1.setCell ⟨w.heap.size + 1, 0, none⟩ (.int .i64 q)).setCell ⟨w.heap.size + 1, 1, none⟩ (.slice none 0 0)).cell? ⟨w.heap.size + 1, 1, none⟩ = some (.slice none 0 0) := (block_cell hM3 1).trans rfl
    clear hM1 hM2 hM3
    go_wp2_with fail
    (try simp only [Exit.inBlock, Exit.then])
    refine bodyPost_ret (by simp [results, Try.results44, go_sem, z0, z1]; try rfl) rfl ?_
    exact ⟨none, 0, 0, by rw [HV.out], by rw [HV.out]; exact Own.nil, (HB1.out.setCell (p := ⟨w.heap.size + 1, 0, none⟩) (Nat.le_succ _) _).setCell (p := ⟨w.heap.size + 1, 1, none⟩) (Nat.le_succ _) _⟩
  · have HV := Lib.hid (KV2.out hk)
    go_wp2_with fail
    refine (itemPicks_any s (p + 1) q w1).mono ?_
    rintro e w2 ⟨rfl, hC2, hb2⟩
    have HC2 := Lib.hid hC2
    clear hC2
    go_wp2_with fail
    refine (collect_any w1.heap.size s (p + 1) q w2 HS.out (by omega) (by omega) HC2.out).mono ?_
    rintro e w3 ⟨a, d, rfl, ho, hb3⟩
    have hs2 := hb2.size
    have hM4 : w3.heap[w.heap.size + 1]? = some (.cells #[.int .i64 0, .slice none 0 0] 64 (0, 0)) := by rw [hb3.block _ (by omega), hb2.block _ (by omega)]; exact hM1
    have HB3 := Lib.hid ((HB1.out.trans (hb2.mono HB1.out.size)).trans (hb3.mono (by have := HB1.out.size; omega)))
    have hM5 := heap_setCell_same w3 (w.heap.size + 1) 0 _ _ (.int .i64 0) hM4
    have hM6 := heap_setCell_same _ (w.heap.size + 1) 1 _ _ (.slice a q d) hM5
    have g0 := block_frozen hM4 0
    have g1 := block_frozen hM4 1
    have m0 := (block_cell hM4 0).trans rfl
    have m1 := (block_cell hM4 1).trans rfl
    have z0 : (w3.setCell ⟨w.heap.size + 1, 0, none⟩ (.int .i64 0)).cell? ⟨w.heap.size + 1, 0, none⟩ = some (.int .i64 0) := (block_cell hM5 0).trans rfl
    have z1 : ((w3.setCell ⟨w.heap.size + 1, 0, none⟩ (.int .i64 0)).setCell ⟨w.heap.size + 1, 1, none⟩ (.slice a q d)).cell? ⟨w.heap.size + 1, 1, none⟩ = some (.slice a q d) := (block_cell hM6 1).trans rfl
    have HSP := Lib.hid ho.span
    have HO := Lib.hid (ho.lower (B' := w.heap.size) (by omega))
    clear hM1 hM4 hM5 hM6 hb2 hb3 ho
    go_wp2_with fail
    (try simp only [Exit.inBlock, Exit.then])
    refine bodyPost_ret (by simp [results, Try.results44, go_sem, z0, z1]; try rfl) rfl ?_
    have hd : ∀ ad, a = some ad → ad.block ≠ w.heap.size + 1 := fun ad e => by
      have := (HSP.out ad e).1
      omega
    exact ⟨a, q, d, by rw [HV.out], by rw [HV.out]; exact (HO.out.set hd _ _).set hd _ _, (HB3.out.setCell (p := ⟨w.heap.size + 1, 0, none⟩) (Nat.le_succ _) _).setCell (p := ⟨w.heap.size + 1, 1, none⟩) (Nat.le_succ _) _⟩
end Go.Proofs.Ytjkjnhkamieljaa
namespace Go.Proofs.Ytjkjnhkamieljaa
open Go.ChangeShapes Go.WideShapes Go.ChangeAt Go.RowKit
set_option linter.unusedVariables false

set_option maxHeartbeats 4000000 in
set_option maxRecDepth 100000 in
theorem encodeMessage_any (a : Option Addr) (n c : Nat) (l : List Fd) (b : Option Addr) (m d : Nat) (v : List Vl) (w : World) (h : Fds w a n l) (hv : Vals w b m v) (hc : n ≤ c ∧ (c : Int) ≤ 9223372036854775807) (hn : n ≤ 1000000000) (hm : m ≤ 1000000000) :
    Calls Try.prog 39 #[.slice a n c, .slice b m d] w (EncTold 3 l v w) := by
  have H := Lib.hid h
  have HV := Lib.hid hv
  have hl := Lib.hid h.len
  have hvl := Lib.hid hv.len
  have KF := Lib.hid (fun (w0 : World) (hb : Below w.heap.size w w0) => fitsFormat_any a n c l b m d v w0 (h.same hb) (hv.same hb) hc hn hm)
  have KT := Lib.hid (fun (i : Int) (w0 : World) (hb : Below w.heap.size w w0) => isThere_any a n c l b m d v i w0 (h.same hb) (hv.same hb) hn hm)
  clear h hv
  have HB0 : Hid (Below w.heap.size w (w.alloc (.cells #[] 3))) := Lib.hid (alloc_same _ _)
  have HO0 : Hid (Own .i64 3 (w.alloc (.cells #[] 3)) w.heap.size (some ⟨w.heap.size, 0, none⟩) 0 0 []) := Lib.hid (Own.empty (Nat.le_refl _))
  cases hf : fitsFmt l v with
  | false =>
    have HE := Lib.hid (encOf_no hf)
    have HF := Lib.hid hf
    rw [hf] at KF
    clear hf
    go_enter Try.func39, Try.ntmps39
    go_wp2_with fail
    refine (KF.out _ HB0.out).mono ?_
    rintro e w1 ⟨rfl, hb1⟩
    have HB1 := Lib.hid (HB0.out.trans (hb1.mono HB0.out.size))
    have HO1 := Lib.hid (HO0.out.same hb1)
    clear hb1
    go_wp2_with fail
    go_ret2
    exact ⟨_, _, _, by rw [HF.out]; rfl, by rw [HE.out]; exact HO1.out, HB1.out⟩
  | true =>
    have HE := Lib.hid (encOf_yes hf)
    have HF := Lib.hid hf
    have HFEW := Lib.hid (codeTo_few hf)
    have HOK := Lib.hid (isFmt_iff.1 (fitsFmt_parts hf).1).2
    have hvn : m = n := by have := (fitsFmt_parts hf).2.1; rw [hl.out, hvl.out] at this; exact this
    subst hvn
    rw [hf] at KF
    clear hf
    go_enter Try.func39, Try.ntmps39
    go_wp2_with fail
    refine (KF.out _ HB0.out).mono ?_
    rintro e w1 ⟨rfl, hb1⟩
    have HB1 := Lib.hid (HB0.out.trans (hb1.mono HB0.out.size))
    have HO1 := Lib.hid (HO0.out.same hb1)
    clear hb1
    go_wp2_with fail
    go_loopw [6, 17] (fun s i wr => ∃ (a' : Option Addr) (n' c' j : Nat), s = .slice a' n' c' ∧ i = .int .i64 j ∧ j ≤ m ∧ Own .i64 3 wr w.heap.size a' n' c' (codeTo l v j) ∧ Below w.heap.size w wr) (fun _ i _ => m - (intOf i).toNat)
    case atStart => exact ⟨_, _, _, 0, rfl, rfl, Nat.zero_le _, HO1.out, HB1.out⟩
    case round =>
      obtain ⟨a', n', c', j, rfl, rfl, hj, ho, hb⟩ := hrel
      have HO := Lib.hid ho
      have HB := Lib.hid hb
      have hfew := HFEW.out j (by rw [hl.out]; exact hj)
      have hn' : n' ≤ 600 := by rw [← ho.len]; exact hfew
      clear ho hb hfew
      by_cases hlt : j < m
      · have hltI : (j : Int) < (m : Int) := by omega
        obtain ⟨bb, o, ⟨xk, xm, xt, xi⟩, rfl, hx, hc0, hc1, hc2, hc3⟩ := fds_at (H.out.same HB.out) hlt
        obtain ⟨b2, o2, p2, m2, d2, yk, yl, rfl, hy, hd0, hd1, hN, hr⟩ := HV.out.at_ hlt
        dsimp only at hc0 hc1 hc2 hc3
        have HXW : Hid (Below wr.heap.size wr (wr.alloc (.cells #[.int .i64 xk, .int .i64 xm, .int .i64 xt, .int .i64 xi] 50))) := Lib.hid (alloc_same _ _)
        have HXC : Hid ((wr.alloc (.cells #[.int .i64 xk, .int .i64 xm, .int .i64 xt, .int .i64 xi] 50)).cell? ⟨wr.heap.size, 0, none⟩ = some (.int .i64 xk)) := Lib.hid (by simp)
        have HXB := Lib.hid (HB.out.trans (HXW.out.mono HB.out.size))
        have KTJ := KT.out j _ HXB.out
        cases ht : isThere l v j with
        | false =>
          have HS := Lib.hid (codeTo_no ht)
          rw [ht] at KTJ
          clear ht hx hy hd0 hd1 hN
          go_wp2_with fail
          clear hc0 hc1 hc2 hc3
          refine KTJ.mono ?_
          rintro e w2 ⟨rfl, hb2⟩
          have HB2 := Lib.hid (HXB.out.trans (hb2.mono HXB.out.size))
          have HO2 := Lib.hid ((HO.out.same HXW.out).same hb2)
          clear hb2 KTJ
          go_wp2_with fail
          go_roundw
          case rel => exact ⟨_, _, _, j + 1, rfl, by go_num, by omega, by rw [HS.out]; exact HO2.out, HB2.out⟩
          case measure => simp [intOf]; omega
        | true =>
          have hstep := codeTo_yes hx hy ht
          have hfew2 := HFEW.out (j + 1) (by rw [hl.out]; exact hlt)
          rw [ht] at KTJ
          have D0 := Lib.hid hd0
          have D1 := Lib.hid hd1
          have HN := Lib.hid hN
          have HOA := Lib.hid (own_off (n := n') (c := c') HO.out.span (Nat.le_refl _))
          have HOD := Lib.hid (own_away (n := n') (c := c') HO.out.span (cell_in hd0))
          have hql := hN.len
          have HKIND := Lib.hid (kind_in HOK.out (by rw [hl.out]; exact hlt) hx)
          clear ht hx hy hd0 hd1 hN
          by_cases hk : xk = 1
          · subst hk
            have HS : Hid (codeTo l v (j + 1) = codeTo l v j ++ [yk]) := Lib.hid (by rw [hstep]; rfl)
            clear hstep hfew2 hql HKIND
            go_wp2_with fail
            clear hc0 hc1 hc2 hc3
            refine KTJ.mono ?_
            rintro e w2 ⟨rfl, hb2⟩
            have HB2 := Lib.hid (HXB.out.trans (hb2.mono HXB.out.size))
            have HO2 := Lib.hid ((HO.out.same HXW.out).same hb2)
            have HC2 := Lib.hid (cell_stay HXC.out hb2)
            have hd0 := cell_stay D0.out HB2.out
            have hd1 := cell_stay D1.out HB2.out
            clear hb2 KTJ
            go_wp2_with fail
            have F0 := numCode_write
            go_region_held3 (fun w' => w'.cell? ⟨wr.heap.size, 0, none⟩ = some (.int .i64 1) ∧ w'.cell? ⟨b2, o2 + j * 2, none⟩ = some (.int .i64 yk) ∧ w'.cell? ⟨b2, o2 + j * 2 + 1, none⟩ = some (.slice p2 m2 d2)) (first | exact ⟨cell_kept HC2.out HQ3.out, cell_kept D0.out HB3.out, cell_kept D1.out HB3.out⟩ | exact HX4.out | exact ⟨cell_kept HC2.out (Below.refl _ _).drew, cell_kept D0.out HB2.out.drew, cell_kept D1.out HB2.out.drew⟩) ((first | (go_at_call 63; refine (codeOf_num _).mono ?_; rintro e w3 ⟨rfl, hb3⟩; unfold numCode; have HQ3 : Hid (Below w2.heap.size w2 w3) := Lib.hid (by first | exact hb3 | exact (Below.refl _ _).drew.trans hb3); have HB3 := Lib.hid (HB2.out.trans (HQ3.out.mono HB2.out.size)); have HO3 := Lib.hid (HO2.out.same HQ3.out); clear hb3) | (go_at_call 83; refine (writeNum_any w.heap.size _ _ _ _ _ _ _ _ _ HO3.out HB3.out.size (by omega)).mono ?_; rintro e w4 ⟨a4, n4, c4, rfl, ho4, hg4⟩; have HO4 := Lib.hid ho4; have HB4 := Lib.hid (grown_to hg4 HB3.out HO3.out.span (Nat.le_refl _) HB3.out.size); have HX4 := Lib.hid (And.intro (cell_off (cell_kept HC2.out HQ3.out) hg4 HOA.out) (And.intro (cell_off (cell_kept D0.out HB3.out) hg4 HOD.out) (cell_off (cell_kept D1.out HB3.out) hg4 HOD.out))); clear ho4 hg4)))
            go_wp2_with fail
            go_roundw
            case rel => exact ⟨_, _, _, j + 1, rfl, by go_num, by omega, by rw [HS.out]; exact HO4.out, HB4.out⟩
            case measure => simp [intOf]; omega
          · have hcv : codeV ⟨xk, xm, xt, xi⟩ ⟨yk, yl⟩ = (m2 : Int) :: yl := by unfold codeV; rw [if_neg hk]; dsimp only; rw [hql]
            rw [hcv] at hstep
            have HS : Hid (codeTo l v (j + 1) = codeTo l v j ++ (m2 : Int) :: yl) := Lib.hid hstep
            have hm2 : m2 ≤ 600 := by rw [hstep] at hfew2; simp only [List.length_append, List.length_cons] at hfew2; omega
            have HK2 : Hid (xk = 2 ∨ xk = 3) := Lib.hid (by rcases HKIND.out with e | e | e; exact absurd e hk; exact Or.inl e; exact Or.inr e)
            clear hstep hfew2 hql HKIND hcv hk
            go_wp2_with fail
            clear hc0 hc1 hc2 hc3
            refine KTJ.mono ?_
            rintro e w2 ⟨rfl, hb2⟩
            have HB2 := Lib.hid (HXB.out.trans (hb2.mono HXB.out.size))
            have HO2 := Lib.hid ((HO.out.same HXW.out).same hb2)
            have HC2 := Lib.hid (cell_stay HXC.out hb2)
            have hd0 := cell_stay D0.out HB2.out
            have hd1 := cell_stay D1.out HB2.out
            clear hb2 KTJ
            go_wp2_with fail
            have F0 := itemsCode_write
            go_region_held3 (fun w' => w'.cell? ⟨wr.heap.size, 0, none⟩ = some (.int .i64 xk) ∧ w'.cell? ⟨b2, o2 + j * 2, none⟩ = some (.int .i64 yk) ∧ w'.cell? ⟨b2, o2 + j * 2 + 1, none⟩ = some (.slice p2 m2 d2)) (first | exact ⟨cell_kept HC2.out HQ3.out, cell_kept D0.out HB3.out, cell_kept D1.out HB3.out⟩ | exact HX4.out | exact ⟨cell_kept HC2.out (Below.refl _ _).drew, cell_kept D0.out HB2.out.drew, cell_kept D1.out HB2.out.drew⟩) ((first | (go_at_call 63; refine (codeOf_more HK2.out _).mono ?_; rintro e w3 ⟨rfl, hb3⟩; unfold itemsCode; have HQ3 : Hid (Below w2.heap.size w2 w3) := Lib.hid (by first | exact hb3 | exact (Below.refl _ _).drew.trans hb3); have HB3 := Lib.hid (HB2.out.trans (HQ3.out.mono HB2.out.size)); have HO3 := Lib.hid (HO2.out.same HQ3.out); clear hb3) | (go_at_call 80; refine (writeItems_any w.heap.size _ _ _ _ _ _ _ _ _ _ HO3.out (fun w0 hb0 => HN.out.same (HB3.out.trans hb0)) HB3.out.size (by omega) (by omega)).mono ?_; rintro e w4 ⟨a4, n4, c4, rfl, ho4, hg4⟩; have HO4 := Lib.hid ho4; have HB4 := Lib.hid (grown_to hg4 HB3.out HO3.out.span (Nat.le_refl _) HB3.out.size); have HX4 := Lib.hid (And.intro (cell_off (cell_kept HC2.out HQ3.out) hg4 HOA.out) (And.intro (cell_off (cell_kept D0.out HB3.out) hg4 HOD.out) (cell_off (cell_kept D1.out HB3.out) hg4 HOD.out))); clear ho4 hg4)))
            go_wp2_with fail
            go_roundw
            case rel => exact ⟨_, _, _, j + 1, rfl, by go_num, by omega, by rw [HS.out]; exact HO4.out, HB4.out⟩
            case measure => simp [intOf]; omega
      · obtain rfl : j = m := by omega
        go_wp2_with fail
        go_ret2
        refine ⟨_, _, _, by rw [HF.out]; rfl, ?_, HB.out⟩
        rw [HE.out]
        unfold codeOf
        rw [hl.out]
        exact HO.out
end Go.Proofs.Ytjkjnhkamieljaa
namespace Go.Proofs.Ytjkjnhkamieljaa
open Go.ChangeShapes Go.WideShapes Go.ChangeAt Go.RowKit
set_option linter.unusedVariables false

theorem Vals.begin {w : World} {a : Option Addr} {n j : Nat} {v r : List Vl} (h : Vals w a n (v ++ r)) (hv : v.length = j) : Vals w a j v := by
  refine ⟨hv, ?_, fun q x hq => h.cell q x (by rw [List.getElem?_append_left (lt_of_some hq)]; exact hq)⟩
  have := h.fits
  have := h.len
  rw [List.length_append] at this
  omega
theorem OwnV.slots {tO tI : TypeId} {w : World} {B n c g : Nat} {l : List Vl} (h : OwnV tO tI w B (some ⟨g, 0, none⟩) n c l) {j : Nat} (hj : j < n) : (∃ u0, w.cell? ⟨g, j * 2, none⟩ = some u0) ∧ (∃ u1, w.cell? ⟨g, j * 2 + 1, none⟩ = some u1) ∧ w.frozen? ⟨g, j * 2, none⟩ = false ∧ w.frozen? ⟨g, j * 2 + 1, none⟩ = false := by
  obtain ⟨hs, h1, _⟩ := h
  exact ⟨row_cell h1.2 (by omega), row_cell h1.2 (by omega), h1.2.frozenAt _, h1.2.frozenAt _⟩
theorem okTo_max99 {l : List Fd} {n j : Nat} {x : Fd} (h : okTo l n) (hj : j < n) (hx : l[j]? = some x) : 1 ≤ x.max ∧ x.max ≤ 99 := by
  obtain ⟨h1, h2⟩ := okTo_max h hj hx
  exact ⟨h1, Int.le_trans h2 (mostOf_le _)⟩

set_option maxHeartbeats 8000000 in
set_option maxRecDepth 100000 in
theorem makeMessage_any (a : Option Addr) (n c : Nat) (l : List Fd) (s : Int) (w : World) (h : Fds w a n l) (hfc : n ≤ c ∧ (c : Int) ≤ 9223372036854775807) (hn : n ≤ 1000000000) (hs : Fit64 s) :
    Calls Try.prog 20 #[.slice a n c, .int .i64 s] w (MadeV 64 3 w.heap.size (mkMsg l s) w) := by
  have H := Lib.hid h
  have hl := Lib.hid h.len
  have HS := Lib.hid hs
  have KF := Lib.hid (isFormat_any a n c l w h hfc)
  obtain ⟨i0, hi, hz0, hz1, hz2⟩ := info_parts infoValueS
  have HI := Lib.hid (And.intro hi (And.intro hz0 (And.intro hz1 hz2)))
  clear h hs hi hz0 hz1 hz2
  unfold MadeV
  cases hf : isFmt l with
  | false =>
    have HE := Lib.hid (mkMsg_no s hf)
    rw [hf] at KF
    clear hf
    go_enter Try.func20, Try.ntmps20
    go_wp2_with fail
    refine KF.out.mono ?_
    rintro e w1 ⟨rfl, hb1⟩
    have HB1 := Lib.hid hb1
    clear hb1
    go_wp2_with fail
    go_ret
    exact ⟨_, _, _, rfl, by rw [HE.out]; exact OwnV.empty HB1.out.size, HB1.out.alloc HB1.out.size _⟩
  | true =>
    have hF := isFmt_iff.1 hf
    have hn6 : n ≤ 6 := by have := hF.1; have := hl.out; omega
    have HOK := Lib.hid hF.2
    have HE := Lib.hid (mkMsg_yes s hf)
    rw [hf] at KF
    clear hf hF
    go_enter Try.func20, Try.ntmps20
    go_wp2_with fail
    refine KF.out.mono ?_
    rintro e w1 ⟨rfl, hb1⟩
    have HB1 := Lib.hid hb1
    clear hb1
    go_wp2_with (with_reducible refine wpList_make_full _ rfl (.tmp 13) (.tmp 13) 34 rfl w.heap.size 64 i0 (.agg #[.int .i64 0, .slice none 0 0]) 2 Try.underlying34 HI.out.1 HI.out.2.1 HI.out.2.2.1 .i64 .i64 _ _ n rfl rfl (by omega) (by omega) ?c1 ?c2 ?c3 ?_)
    case c1 => rw [HI.out.2.2.2]; omega
    case c2 => unfold maxLen; omega
    case c3 => exact HB1.out.size
    intro w2 hown hgrow
    have HB2 : Hid (Below w.heap.size w w2) := Lib.hid (HB1.out.grown hgrow HB1.out.size (fun _ e => by cases e))
    have HO2 : Hid (OwnV 64 3 w2 w.heap.size (some ⟨w1.heap.size, 0, none⟩) n n ([] ++ List.replicate (n - 0) ⟨0, []⟩)) := by
      have hm : (madeCells #[.int .i64 0, .slice none 0 0] (n * 2)).toList = flatOf Vh.enc (List.replicate n ⟨0, none, 0, 0⟩) := made2 n
      rw [hm] at hown
      exact Lib.hid (by simpa using OwnV.zeros hown)
    have hlt2 : w1.heap.size < w2.heap.size := (HO2.out.span _ rfl).2
    have hle1 : w.heap.size ≤ w1.heap.size := HB1.out.size
    clear hown hgrow
    go_wp2_with fail
    generalize w1.heap.size = g0 at *
    go_loopw [17] (fun i wr => ∃ j : Nat, i = .int .i64 j ∧ j ≤ n ∧ OwnV 64 3 wr w.heap.size (some ⟨g0, 0, none⟩) n n (mkTo l s j ++ List.replicate (n - j) ⟨0, []⟩) ∧ Below w.heap.size w wr) (fun i _ => n - (intOf i).toNat)
    case atStart => exact ⟨0, rfl, Nat.zero_le _, HO2.out, HB2.out⟩
    case round =>
      obtain ⟨j, rfl, hj, ho, hb⟩ := hrel
      have hvj := mkTo_len l s j
      have HO := Lib.hid ho
      have HB := Lib.hid hb
      clear ho hb
      by_cases hlt : j < n
      · have hltI : (j : Int) < (n : Int) := by omega
        have hlj : j < l.length := by rw [hl.out]; exact hlt
        obtain ⟨bb, o, ⟨xk, xm, xt, xi⟩, rfl, hx, hc0, hc1, hc2, hc3⟩ := fds_at (H.out.same HB.out) hlt
        dsimp only at hc0 hc1 hc2 hc3
        have HXW : Hid (Below wr.heap.size wr (wr.alloc (.cells #[.int .i64 xk, .int .i64 xm, .int .i64 xt, .int .i64 xi] 50))) := Lib.hid (alloc_same _ _)
        have HXH : Hid ((wr.alloc (.cells #[.int .i64 xk, .int .i64 xm, .int .i64 xt, .int .i64 xi] 50)).heap[wr.heap.size]? = some (.cells #[.int .i64 xk, .int .i64 xm, .int .i64 xt, .int .i64 xi] 50 (0, 0))) := Lib.hid (heap_alloc_new wr _)
        have hxs : (wr.alloc (.cells #[.int .i64 xk, .int .i64 xm, .int .i64 xt, .int .i64 xi] 50)).heap.size = wr.heap.size + 1 := by simp
        have HXB := Lib.hid (HB.out.trans (HXW.out.mono HB.out.size))
        have HMAX := Lib.hid (okTo_max99 HOK.out hlj hx)
        have KTJ := isThere_any _ n c l (some ⟨g0, 0, none⟩) j j (mkTo l s j) j _ (H.out.same HXB.out) ((HO.out.same HXW.out).vals.begin hvj) hn (by omega)
        cases ht : isThere l (mkTo l s j) j with
        | false =>
          have HSTEP := Lib.hid (mkTo_no hx ht)
          rw [ht] at KTJ
          clear ht hx
          go_wp2_with fail
          refine KTJ.mono ?_
          rintro e w2 ⟨rfl, hb2⟩
          have HW2 := Lib.hid (HXW.out.trans (hb2.mono HXW.out.size))
          have HB2 := Lib.hid (HB.out.trans (HW2.out.mono HB.out.size))
          clear hb2 KTJ hc0 hc1 hc2 hc3
          go_wp2_with fail
          go_roundw
          case rel => exact ⟨j + 1, by go_num, by omega, by rw [HSTEP.out, ← rep_not hlt]; exact HO.out.same HW2.out, HB2.out⟩
          case measure => simp [intOf]; omega
        | true =>
          have HSTEP := Lib.hid (mkTo_yes hx ht)
          rw [ht] at KTJ
          clear ht hx
          go_wp2_with fail
          refine KTJ.mono ?_
          rintro e w2 ⟨rfl, hb2⟩
          have HW2 := Lib.hid (HXW.out.trans (hb2.mono HXW.out.size))
          have HB2 := Lib.hid (HB.out.trans (HW2.out.mono HB.out.size))
          have hx2 : w2.heap[wr.heap.size]? = some (.cells #[.int .i64 xk, .int .i64 xm, .int .i64 xt, .int .i64 xi] 50 (0, 0)) := by rw [hb2.block _ (by omega)]; exact HXH.out
          have HO2 := Lib.hid (HO.out.same HW2.out)
          have x0 := (block_cell hx2 0).trans rfl
          have x1 := (block_cell hx2 1).trans rfl
          have x2 := (block_cell hx2 2).trans rfl
          have x3 := (block_cell hx2 3).trans rfl
          have KM := makeValue_any ⟨xk, xm, xt, xi⟩ s (16 * j) w2 HS.out (by omega) HMAX.out
          unfold Fd.val MkvTold at KM
          clear hb2 KTJ hc0 hc1 hc2 hc3 hx2
          go_wp2_with fail
          clear x0 x1 x2 x3
          refine KM.mono ?_
          rintro e w3 ⟨p, q, d, rfl, ho3, hb3⟩
          have hs3 := hb3.size
          have hs2 := HB2.out.size
          have HB3 := Lib.hid (HB2.out.trans (hb3.mono HB2.out.size))
          have hput := OwnV.put HO2.out hb3 hlt (mkVal ⟨xk, xm, xt, xi⟩ s (16 * j)).num p q d _ (ho3.lower hs2) (fun ad e => (ho3.span ad e).1)
          rw [rep_put hvj hlt] at hput
          have HP := Lib.hid hput
          obtain ⟨⟨u0, hu0⟩, ⟨u1, hu1⟩, hf0, hf1⟩ := (HO2.out.same hb3).slots hlt
          clear hput ho3 hb3 KM
          go_wp2_with fail
          go_roundw
          case rel => exact ⟨j + 1, by go_num, by omega, by rw [HSTEP.out]; exact HP.out.1, grown_to (b := some ⟨g0, 0, none⟩) (m := n) (d := n) HP.out.2 HB3.out (lo := w.heap.size) (hi := g0 + 1) (fun ad e => by cases e; exact ⟨hle1, Nat.lt_succ_self _⟩) (Nat.le_refl _) HB3.out.size⟩
          case measure => simp [intOf]; omega
      · obtain rfl : j = n := by omega
        have HOF := Lib.hid (HO.out)
        rw [Nat.sub_self, List.replicate_zero, List.append_nil] at HOF
        go_wp2_with fail
        go_ret
        exact ⟨_, _, _, rfl, by rw [HE.out, hl.out]; exact HOF.out, HB.out⟩

set_option maxHeartbeats 2000000 in
set_option maxRecDepth 100000 in
theorem makeBytes_any (a : Option Addr) (n c : Nat) (l : List Fd) (s : Int) (w : World) (h : Fds w a n l) (hfc : n ≤ c ∧ (c : Int) ≤ 9223372036854775807) (hn : n ≤ 1000000000) (hs : Fit64 s) :
    Calls Try.prog 17 #[.slice a n c, .int .i64 s] w (Made .i64 3 w.heap.size (encOf l (mkMsg l s)) w) := by
  have H := Lib.hid h
  have KM := Lib.hid (makeMessage_any a n c l s w h hfc hn hs)
  clear h hs
  unfold MadeV at KM
  go_enter Try.func17, Try.ntmps17
  go_wp2_with fail
  refine KM.out.mono ?_
  rintro e w1 ⟨b, m, d, rfl, ho, hb1⟩
  have hm : m ≤ 6 := by have := ho.len; have := (mkMsg_few l s).1; omega
  have HB1 := Lib.hid hb1
  have KE := encodeMessage_any a n c l b m d (mkMsg l s) w1 (H.out.same hb1) ho.vals hfc hn (by omega)
  unfold EncTold at KE
  clear ho hb1 KM
  go_wp2_with fail
  refine KE.mono ?_
  rintro e w2 ⟨b', m', d', rfl, ho2, hb2⟩
  have hs1 := HB1.out.size
  have HO := Lib.hid (ho2.lower hs1)
  have HB2 := Lib.hid (HB1.out.trans (hb2.mono hs1))
  clear ho2 hb2 KE
  go_wp2_with fail
  go_ret
  exact ⟨_, _, _, rfl, HO.out, HB2.out⟩
end Go.Proofs.Ytjkjnhkamieljaa
