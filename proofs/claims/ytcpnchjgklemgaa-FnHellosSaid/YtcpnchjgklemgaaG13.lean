/- A field's value off the cursor, by the program. Whether a list of extensions is valid, and its tags: by the model. The helpers of the exact laws at lists of extensions: measured, copied, compared. A list of extensions is drawn. -/
import Derived.Test.YtcpnchjgklemgaaG12
import Derived.Test.YtcpnchjgklemgaaG7
import Derived.Test.YtcpnchjgklemgaaG11
import Derived.Deep.QuietTactic
import Derived.BigQuiet
import Derived.RegionTactic
import Derived.StillTailTactics
import Derived.Handy
import Derived.Test.YtcpnchjgklemgaaG4
import Derived.Deep.RegionHeld3
namespace Go.Proofs.Ytcpnchjgklemgaa
open Go.ChangeShapes Go.WideShapes Go.ChangeAt Go.RowKit
set_option linter.unusedVariables false

theorem two (w : World) (A B : Array Value) (t1 t2 : TypeId) :
    w.heap.size + 2 = ((w.alloc (.cells A t1)).alloc (.cells B t2)).heap.size ∧
    ((w.alloc (.cells A t1)).alloc (.cells B t2)).heap[w.heap.size]? = some (.cells A t1 (0, 0)) ∧
    ((w.alloc (.cells A t1)).alloc (.cells B t2)).heap[w.heap.size + 1]? = some (.cells B t2 (0, 0)) ∧
    Below w.heap.size w ((w.alloc (.cells A t1)).alloc (.cells B t2)) := by
  refine ⟨by simp, ?_, ?_, ((Below.refl _ w).alloc (Nat.le_refl _) _).alloc (by simp) _⟩
  · rw [Below.heap_alloc _ _ _ (by simp)]
    exact heap_alloc_new w _
  · have := heap_alloc_new (w.alloc (.cells A t1)) (.cells B t2)
    simpa using this
/-- What a function leaves that reads a field's value off the cursor at place k. -/
def RfTold (tI : TypeId) (g : Nat) (b : Option Addr) (m d : Nat) (x : Fd) (y : List Int) (k : Nat) (w : World) (e : Ending) (w' : World) : Prop :=
  match rdF x y k with
  | none => Rdn g w e w'
  | some (v, k') => ∃ p q r, e = .returned (.tuple #[.agg #[.int .i64 v.num, .slice p q r], .bool true]) ∧ Own .i64 tI w' w.heap.size p q r v.items ∧ Cur w' g b m d k' ∧ w.grownBy w' (some g)
theorem Cur.set1 {w : World} {g m d k R : Nat} {b : Option Addr} (h : Cur w g b m d k) (hR : g ≠ R) (o : Nat) (u : Value) : Cur (w.setCell ⟨R, o, none⟩ u) g b m d k := by
  unfold Cur
  rw [Below.heap_setCell _ _ _ _ (by dsimp only; omega)]
  exact h

set_option maxHeartbeats 2000000 in
set_option maxRecDepth 100000 in
theorem readFieldNum_fail (xm xt xi : Int) (g : Nat) (b : Option Addr) (m d k : Nat) (w : World) (h : Cur w g b m d k)
    (hr : ∀ w0, Below w.heap.size w w0 → Calls Try.prog 135 #[.pointer (some ⟨g, 0, none⟩)] w0 (Rdn g w0)) :
    Calls Try.prog 128 #[.pointer (some ⟨g, 0, none⟩), .agg #[.int .i64 1, .int .i64 xm, .int .i64 xt, .int .i64 xi]] w (Rdn g w) := by
  have hgl := h.lt
  have KR := Lib.hid hr
  obtain ⟨hsz, hX, hM, hB⟩ := two w #[.int .i64 1, .int .i64 xm, .int .i64 xt, .int .i64 xi] #[.int .i64 0, .slice none 0 0] 134 74
  clear h hr
  unfold Rdn at KR
  unfold Rdn
  have F0 := numCode_read
  go_enter Try.func128, Try.ntmps128
  go_wp2_with fail
  generalize ((w.alloc (.cells #[.int .i64 1, .int .i64 xm, .int .i64 xt, .int .i64 xi] 134)).alloc (.cells #[.int .i64 0, .slice none 0 0] 74)) = W2 at *
  refine (codeOf_num _).mono ?_
  rintro e w3 ⟨rfl, hb3⟩
  unfold numCode
  have hX3 : w3.heap[w.heap.size]? = some (.cells #[.int .i64 1, .int .i64 xm, .int .i64 xt, .int .i64 xi] 134 (0, 0)) := by rw [hb3.block _ (by omega)]; exact hX
  have hM3 : w3.heap[w.heap.size + 1]? = some (.cells #[.int .i64 0, .slice none 0 0] 74 (0, 0)) := by rw [hb3.block _ (by omega)]; exact hM
  have hs3 : w.heap.size + 2 ≤ w3.heap.size := by have := hb3.size; omega
  have HB3 := Lib.hid (hB.trans (hb3.mono hB.size))
  clear hX hM hB hb3 hsz
  go_wp2_with fail
  refine (KR.out w3 HB3.out).mono ?_
  rintro e w4 ⟨rfl, hg4⟩
  have hs4 : w.heap.size + 2 ≤ w4.heap.size := Nat.le_trans hs3 hg4.size
  have hM4 : w4.heap[w.heap.size + 1]? = some (.cells #[.int .i64 0, .slice none 0 0] 74 (0, 0)) := by rw [hg4.block _ (by omega) (by simp; omega)]; exact hM3
  have HG5 : Hid (w.grownBy (w4.alloc (.cells #[.int .i64 0, .slice none 0 0] 74)) (some g)) := Lib.hid (((grown_below HB3.out (some g)).trans hg4).trans (grown_below (alloc_same _ _) _))
  have hM5 : (w4.alloc (.cells #[.int .i64 0, .slice none 0 0] 74)).heap[w.heap.size + 1]? = some (.cells #[.int .i64 0, .slice none 0 0] 74 (0, 0)) := by rw [Below.heap_alloc _ _ _ (by omega)]; exact hM4
  obtain ⟨m0, m1, g0, g1⟩ := two_cells hM5
  obtain ⟨z0, z1, hZ⟩ := two_put hM5 (.int .i64 0) (.slice none 0 0)
  clear hX3 hM3 hg4 hM4 hM5 hZ
  go_wp2_with fail
  (try simp only [Exit.inBlock, Exit.then])
  refine bodyPost_ret (by simp [results, Try.results128, go_sem, z0, z1]; try rfl) rfl ?_
  exact ⟨rfl, grown_set2 HG5.out (by omega) _ _⟩

set_option maxHeartbeats 2000000 in
set_option maxRecDepth 100000 in
theorem readFieldNum_unfit (xm xt xi : Int) (g : Nat) (b : Option Addr) (m d k : Nat) (num : Int) (q : Nat) (it : List Int) (k2 : Nat) (hq : q ≤ 1000000000) (w : World) (h : Cur w g b m d k)
    (hr : ∀ w0, Below w.heap.size w w0 → Calls Try.prog 135 #[.pointer (some ⟨g, 0, none⟩)] w0 (Rdd g b m d num q it k2 w0)) (hf : fitsField ⟨1, xm, xt, xi⟩ num it = false) :
    Calls Try.prog 128 #[.pointer (some ⟨g, 0, none⟩), .agg #[.int .i64 1, .int .i64 xm, .int .i64 xt, .int .i64 xi]] w (Rdn g w) := by
  have hgl := h.lt
  have KR := Lib.hid hr
  have KV := Lib.hid (fun w0 p r (h0 : Nums .i64 w0 p q it) => fitsField_any ⟨1, xm, xt, xi⟩ num p q r it w0 h0)
  rw [hf] at KV
  unfold Fd.val at KV
  obtain ⟨hsz, hX, hM, hB⟩ := two w #[.int .i64 1, .int .i64 xm, .int .i64 xt, .int .i64 xi] #[.int .i64 0, .slice none 0 0] 134 74
  clear h hr hf
  unfold Rdd at KR
  unfold Rdn
  have F0 := numCode_read
  go_enter Try.func128, Try.ntmps128
  go_wp2_with fail
  generalize ((w.alloc (.cells #[.int .i64 1, .int .i64 xm, .int .i64 xt, .int .i64 xi] 134)).alloc (.cells #[.int .i64 0, .slice none 0 0] 74)) = W2 at *
  refine (codeOf_num _).mono ?_
  rintro e w3 ⟨rfl, hb3⟩
  unfold numCode
  have hX3 : w3.heap[w.heap.size]? = some (.cells #[.int .i64 1, .int .i64 xm, .int .i64 xt, .int .i64 xi] 134 (0, 0)) := by rw [hb3.block _ (by omega)]; exact hX
  have hM3 : w3.heap[w.heap.size + 1]? = some (.cells #[.int .i64 0, .slice none 0 0] 74 (0, 0)) := by rw [hb3.block _ (by omega)]; exact hM
  have hs3 : w.heap.size + 2 ≤ w3.heap.size := by have := hb3.size; omega
  have HB3 := Lib.hid (hB.trans (hb3.mono hB.size))
  clear hX hM hB hb3 hsz
  go_wp2_with fail
  refine (KR.out w3 HB3.out).mono ?_
  rintro e w4 ⟨p, r, rfl, hfx, hc4, hg4⟩
  have hs4 : w.heap.size + 2 ≤ w4.heap.size := Nat.le_trans hs3 hg4.size
  have hX4 : w4.heap[w.heap.size]? = some (.cells #[.int .i64 1, .int .i64 xm, .int .i64 xt, .int .i64 xi] 134 (0, 0)) := by rw [hg4.block _ (by omega) (by simp; omega)]; exact hX3
  have hM4 : w4.heap[w.heap.size + 1]? = some (.cells #[.int .i64 0, .slice none 0 0] 74 (0, 0)) := by rw [hg4.block _ (by omega) (by simp; omega)]; exact hM3
  have HG5 : Hid (w.grownBy (w4.alloc (.cells #[.int .i64 num, .slice p q r] 74)) (some g)) := Lib.hid (((grown_below HB3.out (some g)).trans hg4).trans (grown_below (alloc_same _ _) _))
  have HC5 : Hid (Cur (w4.alloc (.cells #[.int .i64 num, .slice p q r] 74)) g b m d k2) := Lib.hid (hc4.same (alloc_same _ _))
  have hX5 : (w4.alloc (.cells #[.int .i64 num, .slice p q r] 74)).heap[w.heap.size]? = some (.cells #[.int .i64 1, .int .i64 xm, .int .i64 xt, .int .i64 xi] 134 (0, 0)) := by rw [Below.heap_alloc _ _ _ (by omega)]; exact hX4
  have hM5 : (w4.alloc (.cells #[.int .i64 num, .slice p q r] 74)).heap[w.heap.size + 1]? = some (.cells #[.int .i64 0, .slice none 0 0] 74 (0, 0)) := by rw [Below.heap_alloc _ _ _ (by omega)]; exact hM4
  have hL5 : (w4.alloc (.cells #[.int .i64 num, .slice p q r] 74)).heap[w4.heap.size]? = some (.cells #[.int .i64 num, .slice p q r] 74 (0, 0)) := heap_alloc_new w4 _
  have hs5 : w4.heap.size + 1 = (w4.alloc (.cells #[.int .i64 num, .slice p q r] 74)).heap.size := by simp
  have HN5 := Lib.hid (hfx _ (hg4.trans (grown_below (alloc_same w4 (.cells #[.int .i64 num, .slice p q r] 74)) (some g))))
  have x0 := (block_cell hX5 0).trans rfl
  have x1 := (block_cell hX5 1).trans rfl
  have x2 := (block_cell hX5 2).trans rfl
  have x3 := (block_cell hX5 3).trans rfl
  obtain ⟨l0, l1, _, _⟩ := two_cells hL5
  clear hX3 hM3 hX4 hM4 hg4 hc4 hfx hX5
  go_wp2_with fail
  clear x0 x1 x2 x3 l0 l1
  generalize (w4.alloc (.cells #[.int .i64 num, .slice p q r] 74)) = W5 at *
  refine (KV.out W5 p r HN5.out).mono ?_
  rintro e w6 ⟨rfl, hb6⟩
  have hM6 : w6.heap[w.heap.size + 1]? = some (.cells #[.int .i64 0, .slice none 0 0] 74 (0, 0)) := by rw [hb6.block _ (by omega)]; exact hM5
  have HG6 := Lib.hid (HG5.out.trans (grown_below hb6 (some g)))
  obtain ⟨m0, m1, g0, g1⟩ := two_cells hM6
  obtain ⟨z0, z1, hZ⟩ := two_put hM6 (.int .i64 0) (.slice none 0 0)
  clear hM5 hM6 hb6 hL5 hZ
  go_wp2_with fail
  (try simp only [Exit.inBlock, Exit.then])
  refine bodyPost_ret (by simp [results, Try.results128, go_sem, z0, z1]; try rfl) rfl ?_
  exact ⟨rfl, grown_set2 HG6.out (by omega) _ _⟩

set_option maxHeartbeats 2000000 in
set_option maxRecDepth 100000 in
theorem readFieldNum_fit (xm xt xi : Int) (g : Nat) (b : Option Addr) (m d k : Nat) (num : Int) (q : Nat) (it : List Int) (k2 : Nat) (hq : q ≤ 1000000000) (w : World) (h : Cur w g b m d k)
    (hr : ∀ w0, Below w.heap.size w w0 → Calls Try.prog 135 #[.pointer (some ⟨g, 0, none⟩)] w0 (Rdd g b m d num q it k2 w0)) (hf : fitsField ⟨1, xm, xt, xi⟩ num it = true) :
    Calls Try.prog 128 #[.pointer (some ⟨g, 0, none⟩), .agg #[.int .i64 1, .int .i64 xm, .int .i64 xt, .int .i64 xi]] w (fun e w' => ∃ p r, e = .returned (.tuple #[.agg #[.int .i64 num, .slice p q r], .bool true]) ∧ Own .i64 3 w' w.heap.size p q r it ∧ Cur w' g b m d k2 ∧ w.grownBy w' (some g)) := by
  have hgl := h.lt
  have KR := Lib.hid hr
  have KV := Lib.hid (fun w0 p r (h0 : Nums .i64 w0 p q it) => fitsField_any ⟨1, xm, xt, xi⟩ num p q r it w0 h0)
  rw [hf] at KV
  unfold Fd.val at KV
  obtain ⟨i0, hi, hz0, hz1, hz2⟩ := info_parts infoIntS
  have HI := Lib.hid (And.intro hi (And.intro hz0 (And.intro hz1 hz2)))
  clear hi hz0 hz1 hz2
  obtain ⟨hsz, hX, hM, hB⟩ := two w #[.int .i64 1, .int .i64 xm, .int .i64 xt, .int .i64 xi] #[.int .i64 0, .slice none 0 0] 134 74
  clear h hr hf
  unfold Rdd at KR
  have F0 := numCode_read
  go_enter Try.func128, Try.ntmps128
  go_wp2_with fail
  generalize ((w.alloc (.cells #[.int .i64 1, .int .i64 xm, .int .i64 xt, .int .i64 xi] 134)).alloc (.cells #[.int .i64 0, .slice none 0 0] 74)) = W2 at *
  refine (codeOf_num _).mono ?_
  rintro e w3 ⟨rfl, hb3⟩
  unfold numCode
  have hX3 : w3.heap[w.heap.size]? = some (.cells #[.int .i64 1, .int .i64 xm, .int .i64 xt, .int .i64 xi] 134 (0, 0)) := by rw [hb3.block _ (by omega)]; exact hX
  have hM3 : w3.heap[w.heap.size + 1]? = some (.cells #[.int .i64 0, .slice none 0 0] 74 (0, 0)) := by rw [hb3.block _ (by omega)]; exact hM
  have hs3 : w.heap.size + 2 ≤ w3.heap.size := by have := hb3.size; omega
  have HB3 := Lib.hid (hB.trans (hb3.mono hB.size))
  clear hX hM hB hb3 hsz
  go_wp2_with fail
  refine (KR.out w3 HB3.out).mono ?_
  rintro e w4 ⟨p, r, rfl, hfx, hc4, hg4⟩
  have hs4 : w.heap.size + 2 ≤ w4.heap.size := Nat.le_trans hs3 hg4.size
  have hX4 : w4.heap[w.heap.size]? = some (.cells #[.int .i64 1, .int .i64 xm, .int .i64 xt, .int .i64 xi] 134 (0, 0)) := by rw [hg4.block _ (by omega) (by simp; omega)]; exact hX3
  have hM4 : w4.heap[w.heap.size + 1]? = some (.cells #[.int .i64 0, .slice none 0 0] 74 (0, 0)) := by rw [hg4.block _ (by omega) (by simp; omega)]; exact hM3
  have HG5 : Hid (w.grownBy (w4.alloc (.cells #[.int .i64 num, .slice p q r] 74)) (some g)) := Lib.hid (((grown_below HB3.out (some g)).trans hg4).trans (grown_below (alloc_same _ _) _))
  have HC5 : Hid (Cur (w4.alloc (.cells #[.int .i64 num, .slice p q r] 74)) g b m d k2) := Lib.hid (hc4.same (alloc_same _ _))
  have hX5 : (w4.alloc (.cells #[.int .i64 num, .slice p q r] 74)).heap[w.heap.size]? = some (.cells #[.int .i64 1, .int .i64 xm, .int .i64 xt, .int .i64 xi] 134 (0, 0)) := by rw [Below.heap_alloc _ _ _ (by omega)]; exact hX4
  have hM5 : (w4.alloc (.cells #[.int .i64 num, .slice p q r] 74)).heap[w.heap.size + 1]? = some (.cells #[.int .i64 0, .slice none 0 0] 74 (0, 0)) := by rw [Below.heap_alloc _ _ _ (by omega)]; exact hM4
  have hL5 : (w4.alloc (.cells #[.int .i64 num, .slice p q r] 74)).heap[w4.heap.size]? = some (.cells #[.int .i64 num, .slice p q r] 74 (0, 0)) := heap_alloc_new w4 _
  have hs5 : w4.heap.size + 1 = (w4.alloc (.cells #[.int .i64 num, .slice p q r] 74)).heap.size := by simp
  have HN5 := Lib.hid (hfx _ (hg4.trans (grown_below (alloc_same w4 (.cells #[.int .i64 num, .slice p q r] 74)) (some g))))
  have x0 := (block_cell hX5 0).trans rfl
  have x1 := (block_cell hX5 1).trans rfl
  have x2 := (block_cell hX5 2).trans rfl
  have x3 := (block_cell hX5 3).trans rfl
  obtain ⟨l0, l1, _, _⟩ := two_cells hL5
  clear hX3 hM3 hX4 hM4 hg4 hc4 hfx hX5
  go_wp2_with fail
  clear x0 x1 x2 x3 l0 l1
  generalize (w4.alloc (.cells #[.int .i64 num, .slice p q r] 74)) = W5 at *
  refine (KV.out W5 p r HN5.out).mono ?_
  rintro e w6 ⟨rfl, hb6⟩
  have hM6 : w6.heap[w.heap.size + 1]? = some (.cells #[.int .i64 0, .slice none 0 0] 74 (0, 0)) := by rw [hb6.block _ (by omega)]; exact hM5
  have HG6 := Lib.hid (HG5.out.trans (grown_below hb6 (some g)))
  have hL6 : w6.heap[w4.heap.size]? = some (.cells #[.int .i64 num, .slice p q r] 74 (0, 0)) := by rw [hb6.block _ (by omega)]; exact hL5
  have HC6 := Lib.hid (HC5.out.same hb6)
  have HN6 := Lib.hid (HN5.out.same hb6)
  have hs6 : w4.heap.size + 1 ≤ w6.heap.size := by have := hb6.size; omega
  obtain ⟨l0, l1, _, _⟩ := two_cells hL6
  have HM6 := Lib.hid hM6
  have HL6 := Lib.hid hL6
  clear hM5 hM6 hb6 hL5 hL6
  go_wp2_with (at_builtin; refine wpl_app _ rfl (.const (.slice none 0 0)) (.tmp 27) 24 rfl .i64 3 i0 (.int .i64 0) 8 Try.underlying24 HI.out.1 HI.out.2.1 HI.out.2.2.1 HI.out.2.2.2 rfl rfl (Own.nil (B := w6.heap.size)) rfl HN6.out (by omega) ?c1 ?c2 ?_)
  case c1 => omega
  case c2 => exact Nat.le_refl _
  intro a7 c7 w7 ho7 hb7
  have hs7 := hb7.size
  have hL7 : w7.heap[w4.heap.size]? = some (.cells #[.int .i64 num, .slice p q r] 74 (0, 0)) := by rw [hb7.block _ (by omega)]; exact HL6.out
  have hM7 : w7.heap[w.heap.size + 1]? = some (.cells #[.int .i64 0, .slice none 0 0] 74 (0, 0)) := by rw [hb7.block _ (by omega)]; exact HM6.out
  have HC7 := Lib.hid (HC6.out.same hb7)
  have HG7 := Lib.hid (HG6.out.trans (grown_below hb7 (some g)))
  have hout : ∀ z, z < w6.heap.size → ∀ ad, a7 = some ad → ad.block ≠ z := fun z hz ad e => by
    have := (ho7.span ad e).1
    omega
  have HO7 := Lib.hid ho7
  have HOUT := Lib.hid hout
  have h8 : (w7.setCell ⟨w4.heap.size, 1, none⟩ (.slice a7 q c7)).heap[w4.heap.size]? = some (.cells #[.int .i64 num, .slice a7 q c7] 74 (0, 0)) := heap_setCell_same w7 w4.heap.size 1 _ _ (.slice a7 q c7) hL7
  have hM8 : (w7.setCell ⟨w4.heap.size, 1, none⟩ (.slice a7 q c7)).heap[w.heap.size + 1]? = some (.cells #[.int .i64 0, .slice none 0 0] 74 (0, 0)) := by
    rw [Below.heap_setCell _ _ _ _ (by dsimp only; omega)]; exact hM7
  obtain ⟨_, c1, _, f1⟩ := two_cells hL7
  obtain ⟨l0, l1, _, _⟩ := two_cells h8
  obtain ⟨m0, m1, g0, g1⟩ := two_cells hM8
  obtain ⟨z0, z1, hZ⟩ := two_put hM8 (.int .i64 num) (.slice a7 q c7)
  clear ho7 hb7 hL7 hM7 hout h8 hM8 hZ
  go_wp2_with fail
  (try simp only [Exit.inBlock, Exit.then])
  refine bodyPost_ret (by simp [results, Try.results128, go_sem, z0, z1]; try rfl) rfl ?_
  refine ⟨a7, c7, rfl, (((HO7.out.lower (by omega)).set (HOUT.out _ (by omega)) _ _).set (HOUT.out _ (by omega)) _ _).set (HOUT.out _ (by omega)) _ _, (HC7.out.set1 (by omega) _ _).set2 (by omega) _ _, grown_set2 (grown_on HG7.out (set_grown w7 w4.heap.size 1 _) (fun r e => Or.inr (by cases e; omega))) (by omega) _ _⟩

set_option maxHeartbeats 2000000 in
set_option maxRecDepth 100000 in
theorem readFieldItems_fail (xk : Int) (xm xt xi : Int) (g : Nat) (b : Option Addr) (m d k : Nat) (w : World) (h : Cur w g b m d k) (hk : xk = 2 ∨ xk = 3)
    (hr : ∀ w0, Below w.heap.size w w0 → Calls Try.prog 53 #[.pointer (some ⟨g, 0, none⟩)] w0 (Rdn g w0)) :
    Calls Try.prog 128 #[.pointer (some ⟨g, 0, none⟩), .agg #[.int .i64 xk, .int .i64 xm, .int .i64 xt, .int .i64 xi]] w (Rdn g w) := by
  have hgl := h.lt
  have KR := Lib.hid hr
  have HK := Lib.hid hk
  obtain ⟨hsz, hX, hM, hB⟩ := two w #[.int .i64 xk, .int .i64 xm, .int .i64 xt, .int .i64 xi] #[.int .i64 0, .slice none 0 0] 134 74
  clear h hr hk
  unfold Rdn at KR
  unfold Rdn
  have F0 := itemsCode_read
  go_enter Try.func128, Try.ntmps128
  go_wp2_with fail
  generalize ((w.alloc (.cells #[.int .i64 xk, .int .i64 xm, .int .i64 xt, .int .i64 xi] 134)).alloc (.cells #[.int .i64 0, .slice none 0 0] 74)) = W2 at *
  refine (codeOf_more HK.out _).mono ?_
  rintro e w3 ⟨rfl, hb3⟩
  unfold itemsCode
  have hX3 : w3.heap[w.heap.size]? = some (.cells #[.int .i64 xk, .int .i64 xm, .int .i64 xt, .int .i64 xi] 134 (0, 0)) := by rw [hb3.block _ (by omega)]; exact hX
  have hM3 : w3.heap[w.heap.size + 1]? = some (.cells #[.int .i64 0, .slice none 0 0] 74 (0, 0)) := by rw [hb3.block _ (by omega)]; exact hM
  have hs3 : w.heap.size + 2 ≤ w3.heap.size := by have := hb3.size; omega
  have HB3 := Lib.hid (hB.trans (hb3.mono hB.size))
  clear hX hM hB hb3 hsz
  go_wp2_with fail
  refine (KR.out w3 HB3.out).mono ?_
  rintro e w4 ⟨rfl, hg4⟩
  have hs4 : w.heap.size + 2 ≤ w4.heap.size := Nat.le_trans hs3 hg4.size
  have hM4 : w4.heap[w.heap.size + 1]? = some (.cells #[.int .i64 0, .slice none 0 0] 74 (0, 0)) := by rw [hg4.block _ (by omega) (by simp; omega)]; exact hM3
  have HG5 : Hid (w.grownBy (w4.alloc (.cells #[.int .i64 0, .slice none 0 0] 74)) (some g)) := Lib.hid (((grown_below HB3.out (some g)).trans hg4).trans (grown_below (alloc_same _ _) _))
  have hM5 : (w4.alloc (.cells #[.int .i64 0, .slice none 0 0] 74)).heap[w.heap.size + 1]? = some (.cells #[.int .i64 0, .slice none 0 0] 74 (0, 0)) := by rw [Below.heap_alloc _ _ _ (by omega)]; exact hM4
  obtain ⟨m0, m1, g0, g1⟩ := two_cells hM5
  obtain ⟨z0, z1, hZ⟩ := two_put hM5 (.int .i64 0) (.slice none 0 0)
  clear hX3 hM3 hg4 hM4 hM5 hZ
  go_wp2_with fail
  (try simp only [Exit.inBlock, Exit.then])
  refine bodyPost_ret (by simp [results, Try.results128, go_sem, z0, z1]; try rfl) rfl ?_
  exact ⟨rfl, grown_set2 HG5.out (by omega) _ _⟩

set_option maxHeartbeats 2000000 in
set_option maxRecDepth 100000 in
theorem readFieldItems_unfit (xk : Int) (xm xt xi : Int) (g : Nat) (b : Option Addr) (m d k : Nat) (num : Int) (q : Nat) (it : List Int) (k2 : Nat) (hq : q ≤ 1000000000) (w : World) (h : Cur w g b m d k) (hk : xk = 2 ∨ xk = 3)
    (hr : ∀ w0, Below w.heap.size w w0 → Calls Try.prog 53 #[.pointer (some ⟨g, 0, none⟩)] w0 (Rdd g b m d num q it k2 w0)) (hf : fitsField ⟨xk, xm, xt, xi⟩ num it = false) :
    Calls Try.prog 128 #[.pointer (some ⟨g, 0, none⟩), .agg #[.int .i64 xk, .int .i64 xm, .int .i64 xt, .int .i64 xi]] w (Rdn g w) := by
  have hgl := h.lt
  have KR := Lib.hid hr
  have HK := Lib.hid hk
  have KV := Lib.hid (fun w0 p r (h0 : Nums .i64 w0 p q it) => fitsField_any ⟨xk, xm, xt, xi⟩ num p q r it w0 h0)
  rw [hf] at KV
  unfold Fd.val at KV
  obtain ⟨hsz, hX, hM, hB⟩ := two w #[.int .i64 xk, .int .i64 xm, .int .i64 xt, .int .i64 xi] #[.int .i64 0, .slice none 0 0] 134 74
  clear h hr hk hf
  unfold Rdd at KR
  unfold Rdn
  have F0 := itemsCode_read
  go_enter Try.func128, Try.ntmps128
  go_wp2_with fail
  generalize ((w.alloc (.cells #[.int .i64 xk, .int .i64 xm, .int .i64 xt, .int .i64 xi] 134)).alloc (.cells #[.int .i64 0, .slice none 0 0] 74)) = W2 at *
  refine (codeOf_more HK.out _).mono ?_
  rintro e w3 ⟨rfl, hb3⟩
  unfold itemsCode
  have hX3 : w3.heap[w.heap.size]? = some (.cells #[.int .i64 xk, .int .i64 xm, .int .i64 xt, .int .i64 xi] 134 (0, 0)) := by rw [hb3.block _ (by omega)]; exact hX
  have hM3 : w3.heap[w.heap.size + 1]? = some (.cells #[.int .i64 0, .slice none 0 0] 74 (0, 0)) := by rw [hb3.block _ (by omega)]; exact hM
  have hs3 : w.heap.size + 2 ≤ w3.heap.size := by have := hb3.size; omega
  have HB3 := Lib.hid (hB.trans (hb3.mono hB.size))
  clear hX hM hB hb3 hsz
  go_wp2_with fail
  refine (KR.out w3 HB3.out).mono ?_
  rintro e w4 ⟨p, r, rfl, hfx, hc4, hg4⟩
  have hs4 : w.heap.size + 2 ≤ w4.heap.size := Nat.le_trans hs3 hg4.size
  have hX4 : w4.heap[w.heap.size]? = some (.cells #[.int .i64 xk, .int .i64 xm, .int .i64 xt, .int .i64 xi] 134 (0, 0)) := by rw [hg4.block _ (by omega) (by simp; omega)]; exact hX3
  have hM4 : w4.heap[w.heap.size + 1]? = some (.cells #[.int .i64 0, .slice none 0 0] 74 (0, 0)) := by rw [hg4.block _ (by omega) (by simp; omega)]; exact hM3
  have HG5 : Hid (w.grownBy (w4.alloc (.cells #[.int .i64 num, .slice p q r] 74)) (some g)) := Lib.hid (((grown_below HB3.out (some g)).trans hg4).trans (grown_below (alloc_same _ _) _))
  have HC5 : Hid (Cur (w4.alloc (.cells #[.int .i64 num, .slice p q r] 74)) g b m d k2) := Lib.hid (hc4.same (alloc_same _ _))
  have hX5 : (w4.alloc (.cells #[.int .i64 num, .slice p q r] 74)).heap[w.heap.size]? = some (.cells #[.int .i64 xk, .int .i64 xm, .int .i64 xt, .int .i64 xi] 134 (0, 0)) := by rw [Below.heap_alloc _ _ _ (by omega)]; exact hX4
  have hM5 : (w4.alloc (.cells #[.int .i64 num, .slice p q r] 74)).heap[w.heap.size + 1]? = some (.cells #[.int .i64 0, .slice none 0 0] 74 (0, 0)) := by rw [Below.heap_alloc _ _ _ (by omega)]; exact hM4
  have hL5 : (w4.alloc (.cells #[.int .i64 num, .slice p q r] 74)).heap[w4.heap.size]? = some (.cells #[.int .i64 num, .slice p q r] 74 (0, 0)) := heap_alloc_new w4 _
  have hs5 : w4.heap.size + 1 = (w4.alloc (.cells #[.int .i64 num, .slice p q r] 74)).heap.size := by simp
  have HN5 := Lib.hid (hfx _ (hg4.trans (grown_below (alloc_same w4 (.cells #[.int .i64 num, .slice p q r] 74)) (some g))))
  have x0 := (block_cell hX5 0).trans rfl
  have x1 := (block_cell hX5 1).trans rfl
  have x2 := (block_cell hX5 2).trans rfl
  have x3 := (block_cell hX5 3).trans rfl
  obtain ⟨l0, l1, _, _⟩ := two_cells hL5
  clear hX3 hM3 hX4 hM4 hg4 hc4 hfx hX5
  go_wp2_with fail
  clear x0 x1 x2 x3 l0 l1
  generalize (w4.alloc (.cells #[.int .i64 num, .slice p q r] 74)) = W5 at *
  refine (KV.out W5 p r HN5.out).mono ?_
  rintro e w6 ⟨rfl, hb6⟩
  have hM6 : w6.heap[w.heap.size + 1]? = some (.cells #[.int .i64 0, .slice none 0 0] 74 (0, 0)) := by rw [hb6.block _ (by omega)]; exact hM5
  have HG6 := Lib.hid (HG5.out.trans (grown_below hb6 (some g)))
  obtain ⟨m0, m1, g0, g1⟩ := two_cells hM6
  obtain ⟨z0, z1, hZ⟩ := two_put hM6 (.int .i64 0) (.slice none 0 0)
  clear hM5 hM6 hb6 hL5 hZ
  go_wp2_with fail
  (try simp only [Exit.inBlock, Exit.then])
  refine bodyPost_ret (by simp [results, Try.results128, go_sem, z0, z1]; try rfl) rfl ?_
  exact ⟨rfl, grown_set2 HG6.out (by omega) _ _⟩

set_option maxHeartbeats 2000000 in
set_option maxRecDepth 100000 in
theorem readFieldItems_fit (xk : Int) (xm xt xi : Int) (g : Nat) (b : Option Addr) (m d k : Nat) (num : Int) (q : Nat) (it : List Int) (k2 : Nat) (hq : q ≤ 1000000000) (w : World) (h : Cur w g b m d k) (hk : xk = 2 ∨ xk = 3)
    (hr : ∀ w0, Below w.heap.size w w0 → Calls Try.prog 53 #[.pointer (some ⟨g, 0, none⟩)] w0 (Rdd g b m d num q it k2 w0)) (hf : fitsField ⟨xk, xm, xt, xi⟩ num it = true) :
    Calls Try.prog 128 #[.pointer (some ⟨g, 0, none⟩), .agg #[.int .i64 xk, .int .i64 xm, .int .i64 xt, .int .i64 xi]] w (fun e w' => ∃ p r, e = .returned (.tuple #[.agg #[.int .i64 num, .slice p q r], .bool true]) ∧ Own .i64 3 w' w.heap.size p q r it ∧ Cur w' g b m d k2 ∧ w.grownBy w' (some g)) := by
  have hgl := h.lt
  have KR := Lib.hid hr
  have HK := Lib.hid hk
  have KV := Lib.hid (fun w0 p r (h0 : Nums .i64 w0 p q it) => fitsField_any ⟨xk, xm, xt, xi⟩ num p q r it w0 h0)
  rw [hf] at KV
  unfold Fd.val at KV
  obtain ⟨i0, hi, hz0, hz1, hz2⟩ := info_parts infoIntS
  have HI := Lib.hid (And.intro hi (And.intro hz0 (And.intro hz1 hz2)))
  clear hi hz0 hz1 hz2
  obtain ⟨hsz, hX, hM, hB⟩ := two w #[.int .i64 xk, .int .i64 xm, .int .i64 xt, .int .i64 xi] #[.int .i64 0, .slice none 0 0] 134 74
  clear h hr hk hf
  unfold Rdd at KR
  have F0 := itemsCode_read
  go_enter Try.func128, Try.ntmps128
  go_wp2_with fail
  generalize ((w.alloc (.cells #[.int .i64 xk, .int .i64 xm, .int .i64 xt, .int .i64 xi] 134)).alloc (.cells #[.int .i64 0, .slice none 0 0] 74)) = W2 at *
  refine (codeOf_more HK.out _).mono ?_
  rintro e w3 ⟨rfl, hb3⟩
  unfold itemsCode
  have hX3 : w3.heap[w.heap.size]? = some (.cells #[.int .i64 xk, .int .i64 xm, .int .i64 xt, .int .i64 xi] 134 (0, 0)) := by rw [hb3.block _ (by omega)]; exact hX
  have hM3 : w3.heap[w.heap.size + 1]? = some (.cells #[.int .i64 0, .slice none 0 0] 74 (0, 0)) := by rw [hb3.block _ (by omega)]; exact hM
  have hs3 : w.heap.size + 2 ≤ w3.heap.size := by have := hb3.size; omega
  have HB3 := Lib.hid (hB.trans (hb3.mono hB.size))
  clear hX hM hB hb3 hsz
  go_wp2_with fail
  refine (KR.out w3 HB3.out).mono ?_
  rintro e w4 ⟨p, r, rfl, hfx, hc4, hg4⟩
  have hs4 : w.heap.size + 2 ≤ w4.heap.size := Nat.le_trans hs3 hg4.size
  have hX4 : w4.heap[w.heap.size]? = some (.cells #[.int .i64 xk, .int .i64 xm, .int .i64 xt, .int .i64 xi] 134 (0, 0)) := by rw [hg4.block _ (by omega) (by simp; omega)]; exact hX3
  have hM4 : w4.heap[w.heap.size + 1]? = some (.cells #[.int .i64 0, .slice none 0 0] 74 (0, 0)) := by rw [hg4.block _ (by omega) (by simp; omega)]; exact hM3
  have HG5 : Hid (w.grownBy (w4.alloc (.cells #[.int .i64 num, .slice p q r] 74)) (some g)) := Lib.hid (((grown_below HB3.out (some g)).trans hg4).trans (grown_below (alloc_same _ _) _))
  have HC5 : Hid (Cur (w4.alloc (.cells #[.int .i64 num, .slice p q r] 74)) g b m d k2) := Lib.hid (hc4.same (alloc_same _ _))
  have hX5 : (w4.alloc (.cells #[.int .i64 num, .slice p q r] 74)).heap[w.heap.size]? = some (.cells #[.int .i64 xk, .int .i64 xm, .int .i64 xt, .int .i64 xi] 134 (0, 0)) := by rw [Below.heap_alloc _ _ _ (by omega)]; exact hX4
  have hM5 : (w4.alloc (.cells #[.int .i64 num, .slice p q r] 74)).heap[w.heap.size + 1]? = some (.cells #[.int .i64 0, .slice none 0 0] 74 (0, 0)) := by rw [Below.heap_alloc _ _ _ (by omega)]; exact hM4
  have hL5 : (w4.alloc (.cells #[.int .i64 num, .slice p q r] 74)).heap[w4.heap.size]? = some (.cells #[.int .i64 num, .slice p q r] 74 (0, 0)) := heap_alloc_new w4 _
  have hs5 : w4.heap.size + 1 = (w4.alloc (.cells #[.int .i64 num, .slice p q r] 74)).heap.size := by simp
  have HN5 := Lib.hid (hfx _ (hg4.trans (grown_below (alloc_same w4 (.cells #[.int .i64 num, .slice p q r] 74)) (some g))))
  have x0 := (block_cell hX5 0).trans rfl
  have x1 := (block_cell hX5 1).trans rfl
  have x2 := (block_cell hX5 2).trans rfl
  have x3 := (block_cell hX5 3).trans rfl
  obtain ⟨l0, l1, _, _⟩ := two_cells hL5
  clear hX3 hM3 hX4 hM4 hg4 hc4 hfx hX5
  go_wp2_with fail
  clear x0 x1 x2 x3 l0 l1
  generalize (w4.alloc (.cells #[.int .i64 num, .slice p q r] 74)) = W5 at *
  refine (KV.out W5 p r HN5.out).mono ?_
  rintro e w6 ⟨rfl, hb6⟩
  have hM6 : w6.heap[w.heap.size + 1]? = some (.cells #[.int .i64 0, .slice none 0 0] 74 (0, 0)) := by rw [hb6.block _ (by omega)]; exact hM5
  have HG6 := Lib.hid (HG5.out.trans (grown_below hb6 (some g)))
  have hL6 : w6.heap[w4.heap.size]? = some (.cells #[.int .i64 num, .slice p q r] 74 (0, 0)) := by rw [hb6.block _ (by omega)]; exact hL5
  have HC6 := Lib.hid (HC5.out.same hb6)
  have HN6 := Lib.hid (HN5.out.same hb6)
  have hs6 : w4.heap.size + 1 ≤ w6.heap.size := by have := hb6.size; omega
  obtain ⟨l0, l1, _, _⟩ := two_cells hL6
  have HM6 := Lib.hid hM6
  have HL6 := Lib.hid hL6
  clear hM5 hM6 hb6 hL5 hL6
  go_wp2_with (at_builtin; refine wpl_app _ rfl (.const (.slice none 0 0)) (.tmp 27) 24 rfl .i64 3 i0 (.int .i64 0) 8 Try.underlying24 HI.out.1 HI.out.2.1 HI.out.2.2.1 HI.out.2.2.2 rfl rfl (Own.nil (B := w6.heap.size)) rfl HN6.out (by omega) ?c1 ?c2 ?_)
  case c1 => omega
  case c2 => exact Nat.le_refl _
  intro a7 c7 w7 ho7 hb7
  have hs7 := hb7.size
  have hL7 : w7.heap[w4.heap.size]? = some (.cells #[.int .i64 num, .slice p q r] 74 (0, 0)) := by rw [hb7.block _ (by omega)]; exact HL6.out
  have hM7 : w7.heap[w.heap.size + 1]? = some (.cells #[.int .i64 0, .slice none 0 0] 74 (0, 0)) := by rw [hb7.block _ (by omega)]; exact HM6.out
  have HC7 := Lib.hid (HC6.out.same hb7)
  have HG7 := Lib.hid (HG6.out.trans (grown_below hb7 (some g)))
  have hout : ∀ z, z < w6.heap.size → ∀ ad, a7 = some ad → ad.block ≠ z := fun z hz ad e => by
    have := (ho7.span ad e).1
    omega
  have HO7 := Lib.hid ho7
  have HOUT := Lib.hid hout
  have h8 : (w7.setCell ⟨w4.heap.size, 1, none⟩ (.slice a7 q c7)).heap[w4.heap.size]? = some (.cells #[.int .i64 num, .slice a7 q c7] 74 (0, 0)) := heap_setCell_same w7 w4.heap.size 1 _ _ (.slice a7 q c7) hL7
  have hM8 : (w7.setCell ⟨w4.heap.size, 1, none⟩ (.slice a7 q c7)).heap[w.heap.size + 1]? = some (.cells #[.int .i64 0, .slice none 0 0] 74 (0, 0)) := by
    rw [Below.heap_setCell _ _ _ _ (by dsimp only; omega)]; exact hM7
  obtain ⟨_, c1, _, f1⟩ := two_cells hL7
  obtain ⟨l0, l1, _, _⟩ := two_cells h8
  obtain ⟨m0, m1, g0, g1⟩ := two_cells hM8
  obtain ⟨z0, z1, hZ⟩ := two_put hM8 (.int .i64 num) (.slice a7 q c7)
  clear ho7 hb7 hL7 hM7 hout h8 hM8 hZ
  go_wp2_with fail
  (try simp only [Exit.inBlock, Exit.then])
  refine bodyPost_ret (by simp [results, Try.results128, go_sem, z0, z1]; try rfl) rfl ?_
  refine ⟨a7, c7, rfl, (((HO7.out.lower (by omega)).set (HOUT.out _ (by omega)) _ _).set (HOUT.out _ (by omega)) _ _).set (HOUT.out _ (by omega)) _ _, (HC7.out.set1 (by omega) _ _).set2 (by omega) _ _, grown_set2 (grown_on HG7.out (set_grown w7 w4.heap.size 1 _) (fun r e => Or.inr (by cases e; omega))) (by omega) _ _⟩

theorem readField_any (x : Fd) (g : Nat) (b : Option Addr) (m d k : Nat) (y : List Int) (w : World) (h : Cur w g b m d k) (hv : Fix w g b m y) (hd : m ≤ d ∧ (d : Int) ≤ 9223372036854775807) (hm : m ≤ 1000000000) (hk : k ≤ m) (hx : x.kind = 1 ∨ x.kind = 2 ∨ x.kind = 3) :
    Calls Try.prog 128 #[.pointer (some ⟨g, 0, none⟩), x.val] w (RfTold 3 g b m d x y k w) := by
  obtain ⟨xk, xm, xt, xi⟩ := x
  have hyl := hv.len
  unfold Fd.val RfTold
  dsimp only at hx
  by_cases h1 : k = m
  · subst h1
    rw [rdF_end (by omega)]
    rcases hx with rfl | hx
    · exact readFieldNum_fail xm xt xi g b k d k w h (fun w0 hb => readNum_no g b k d w0 (h.same hb) hm)
    · exact readFieldItems_fail xk xm xt xi g b k d k w h hx (fun w0 hb => readItems_no g b k d w0 (h.same hb) hm)
  · have hlt : k < y.length := by omega
    obtain ⟨z, hz⟩ : ∃ z, y[k]? = some z := ⟨_, List.getElem?_eq_getElem hlt⟩
    rcases hx with rfl | hx
    · rw [rdF_num hz rfl]
      cases hf : fitsField ⟨1, xm, xt, xi⟩ z [] with
      | false => exact readFieldNum_unfit xm xt xi g b m d k z 0 [] (k + 1) (by omega) w h (fun w0 hb => readNum_yes g b m d k y z w0 (h.same hb) (hv.same hb) hd hm hz) hf
      | true =>
        refine (readFieldNum_fit xm xt xi g b m d k z 0 [] (k + 1) (by omega) w h (fun w0 hb => readNum_yes g b m d k y z w0 (h.same hb) (hv.same hb) hd hm hz) hf).mono ?_
        rintro e w' ⟨p, r, e1, e2⟩
        exact ⟨p, 0, r, e1, e2⟩
    · by_cases h3 : 0 ≤ z ∧ z ≤ (m : Int) - k - 1
      · obtain ⟨q, rfl⟩ : ∃ q : Nat, z = q := ⟨z.toNat, by omega⟩
        rw [rdF_row hz (by dsimp only; omega) (by omega)]
        cases hf : fitsField ⟨xk, xm, xt, xi⟩ 0 ((y.drop (k + 1)).take q) with
        | false => exact readFieldItems_unfit xk xm xt xi g b m d k 0 q _ (k + 1 + q) (by omega) w h hx (fun w0 hb => readItems_yes g b m d k q y w0 (h.same hb) (hv.same hb) hd hm hz (by omega)) hf
        | true =>
          refine (readFieldItems_fit xk xm xt xi g b m d k 0 q _ (k + 1 + q) (by omega) w h hx (fun w0 hb => readItems_yes g b m d k q y w0 (h.same hb) (hv.same hb) hd hm hz (by omega)) hf).mono ?_
          rintro e w' ⟨p, r, e1, e2⟩
          exact ⟨p, q, r, e1, e2⟩
      · rw [rdF_out hz (by dsimp only; omega) (by rw [hyl]; exact h3)]
        exact readFieldItems_fail xk xm xt xi g b m d k w h hx (fun w0 hb => readItems_out g b m d k y z w0 (h.same hb) (hv.same hb) hd hm hz h3)
end Go.Proofs.Ytcpnchjgklemgaa
namespace Go.Proofs.Ytcpnchjgklemgaa
open Go.ChangeShapes Go.WideShapes Go.ChangeAt Go.RowKit
set_option linter.unusedVariables false
set_option linter.unusedSimpArgs false

theorem areX_twice {l : List Vl} {j : Nat} {x : Vl} (hx : l[j]? = some x) (h : (tagsX l).idxOf x.num < j) : areX l = false := by
  cases e : areX l with
  | false => rfl
  | true => exact absurd h (nodup_first.1 (areX_parts.1 e).2.2 j x.num (tags_at hx))
theorem areX_end {l : List Vl} (h : ∀ q x, l[q]? = some x → okX x = true ∧ ¬ (tagsX l).idxOf x.num < q) : areX l = decide (l.length ≤ 6) := by
  by_cases h6 : l.length ≤ 6
  · rw [decide_eq_true h6, areX_parts]
    refine ⟨h6, fun x hx => ?_, nodup_first.2 fun q z hz => ?_⟩
    · obtain ⟨q, hq⟩ := List.mem_iff_getElem?.1 hx
      exact (h q x hq).1
    · have hq : q < l.length := by
        have := (List.getElem?_eq_some_iff.1 hz).1
        rwa [tagsX_len] at this
      have e := tags_at (List.getElem?_eq_getElem hq)
      rw [hz] at e
      cases e
      exact (h q _ (List.getElem?_eq_getElem hq)).2
  · rw [decide_eq_false h6]
    exact areX_long (by omega)
set_option maxHeartbeats 4000000 in
set_option maxRecDepth 100000 in
theorem specAreExts_any {a : Option Addr} {n c : Nat} {l : List Vl} {w : World} (h : Vals w a n l) :
    Calls Try.prog 59 #[.slice a n c] w fun e w' => e = .returned (.bool (areX l)) ∧ w = w' := by
  have H := Lib.hid h
  have hln := Lib.hid h.len
  have hfit := h.fits
  clear h
  go_enter Try.func59, Try.ntmps59
  go_wp2_with fail
  go_loop [3] (fun i => ∃ j : Nat, j ≤ n ∧ i = .int .i64 j ∧ (∀ q x, q < j → l[q]? = some x → okX x = true ∧ ¬ (tagsX l).idxOf x.num < q)) (fun i => n - (intOf i).toNat)
  case atStart => exact ⟨0, Nat.zero_le _, rfl, fun q x hq => by omega⟩
  case round =>
    obtain ⟨j, hj, rfl, hok⟩ := hrel
    have HK := Lib.hid hok
    clear hok
    by_cases hlt : j < n
    · obtain ⟨b, o, p, m, e, k, y, rfl, hx, hc0, hc1, hN, hr⟩ := H.out.at_ hlt
      have hm := hN.len
      have hmf := hN.fits
      have HX := Lib.hid hx
      have KB := Lib.hid (fun w0 (hb : w = w0) => by subst hb; exact l9Byte_any (c := e) hN)
      have KE := Lib.hid (specExtOf_any (c := c) k H.out)
      rw [extOf_yes (tags_mem hx)] at KE
      by_cases hk : 0 ≤ k ∧ k ≤ 255
      · have KI := Lib.hid (fun w0 => l1R_t (decide_eq_true hk) w0)
        by_cases h4 : 4 < m
        · have HE : Hid (areX l = false) := Lib.hid (okX_stop HX.out (by
            unfold okX fitIts; dsimp only
            rw [decide_eq_false (show ¬ (y.length : Int) ≤ 4 by omega)]
            simp))
          clear hx hN hk hm KB KE
          go_wp2_with (go_at_call 81; refine (KI.out _).mono ?_; rintro e w' ⟨rfl, rfl⟩)
          go_ret
          exact ⟨by rw [HE.out]; rfl, rfl⟩
        · cases ha : allIn y 255 with
          | false =>
            have HE : Hid (areX l = false) := Lib.hid (okX_stop HX.out (by
              unfold okX fitIts; dsimp only
              rw [ha]
              simp))
            rw [ha] at KB
            clear hx hN hk hm KE ha
            go_wp2_with (first | (go_at_call 81; refine (KI.out _).mono ?_; rintro e w' ⟨rfl, rfl⟩) | (go_at_call 101; refine (KB.out _ rfl).mono ?_; rintro e w' ⟨rfl, rfl⟩))
            go_ret
            exact ⟨by rw [HE.out]; rfl, rfl⟩
          | true =>
            have HO : Hid (okX ⟨k, y⟩ = true) := Lib.hid (by
              unfold okX fitIts; dsimp only
              rw [ha, decide_eq_true hk, decide_eq_true (show (y.length : Int) ≤ 4 by omega)]
              rfl)
            rw [ha] at KB
            obtain ⟨r, hr2⟩ : ∃ r, r = (tagsX l).idxOf k := ⟨_, rfl⟩
            rw [← hr2] at KE
            by_cases hlo : r < j
            · have HE : Hid (areX l = false) := Lib.hid (areX_twice HX.out (by rw [← hr2]; exact hlo))
              clear hx hN hk hm ha hr2
              go_wp2_with (first | (go_at_call 81; refine (KI.out _).mono ?_; rintro e w' ⟨rfl, rfl⟩) | (go_at_call 101; refine (KB.out _ rfl).mono ?_; rintro e w' ⟨rfl, rfl⟩) | (go_at_call 92; refine KE.out.mono ?_; rintro e w' ⟨rfl, rfl⟩))
              go_ret
              exact ⟨by rw [HE.out]; rfl, rfl⟩
            · have HS : Hid (∀ q x, q < j + 1 → l[q]? = some x → okX x = true ∧ ¬ (tagsX l).idxOf x.num < q) := Lib.hid (fun q x hq hxq => by
                by_cases e : q = j
                · subst e
                  rw [HX.out] at hxq
                  cases hxq
                  exact ⟨HO.out, by rw [← hr2]; exact hlo⟩
                · exact HK.out q x (by omega) hxq)
              clear hx hN hk hm ha hr2
              go_wp2_with (first | (go_at_call 81; refine (KI.out _).mono ?_; rintro e w' ⟨rfl, rfl⟩) | (go_at_call 101; refine (KB.out _ rfl).mono ?_; rintro e w' ⟨rfl, rfl⟩) | (go_at_call 92; refine KE.out.mono ?_; rintro e w' ⟨rfl, rfl⟩))
              go_round
              case rel => exact ⟨j + 1, by omega, by go_num, HS.out⟩
              case measure => simp [intOf]; omega
      · have KI := Lib.hid (fun w0 => l1R_t (decide_eq_false hk) w0)
        have HE : Hid (areX l = false) := Lib.hid (okX_stop HX.out (by unfold okX; dsimp only; rw [decide_eq_false hk]; rfl))
        clear hx hN hk hm KB KE
        go_wp2_with (go_at_call 81; refine (KI.out _).mono ?_; rintro e w' ⟨rfl, rfl⟩)
        go_ret
        exact ⟨by rw [HE.out]; rfl, rfl⟩
    · obtain rfl : j = n := by omega
      have HE : Hid (areX l = decide ((j : Int) ≤ 6)) := Lib.hid (by
        rw [areX_end (fun q x hx => HK.out q x (by have := lt_of_some hx; rw [hln.out] at this; exact this) hx), hln.out]
        by_cases h : j ≤ 6
        · rw [decide_eq_true h, decide_eq_true (by omega)]
        · rw [decide_eq_false h, decide_eq_false (by omega)])
      go_wp2_with fail
      go_ret
      exact ⟨by rw [HE.out]; rfl, rfl⟩
end Go.Proofs.Ytcpnchjgklemgaa
namespace Go.Proofs.Ytcpnchjgklemgaa
open Go.ChangeShapes Go.WideShapes Go.ChangeAt Go.RowKit
set_option linter.unusedVariables false

theorem infoExtS : (Try.prog.info? 99).map (fun i => (i.zero, i.size, i.bytes)) = some (some (.agg #[.int .i64 0, .slice none 0 0]), 2, 32) := by kernel_rfl
set_option maxRecDepth 100000 in
theorem szExt_any (k : Int) (a : Option Addr) (n c : Nat) (left : Int) (w : World) (hn : (n : Int) ≤ 9223372036854775807) (h0 : 0 ≤ left) (hl : left ≤ 1048576) :
    Calls Try.prog 116 #[.agg #[.int .i64 k, .slice a n c], .int .i64 left] w (Told (.int .i64 (leftOf left n)) w) := by
  by_cases h : (n : Int) ≤ left
  · have e : leftOf left n = left - n := if_pos h
    have K := Lib.hid (fun w' => szIntS_any a n c left w' hn h0 hl)
    rw [e] at K ⊢
    clear e
    go_enter Try.func116, Try.ntmps116
    go_wp2_with fail
    refine (K.out _).mono ?_
    rintro e w1 ⟨rfl, rfl⟩
    go_wp2_with fail
    go_ret
    exact ⟨rfl, (Below.refl _ w).alloc (Nat.le_refl _) _⟩
  · have e : leftOf left n = -1 := if_neg h
    have K := Lib.hid (fun w' => szIntS_any a n c left w' hn h0 hl)
    rw [e] at K ⊢
    clear e
    go_enter Try.func116, Try.ntmps116
    go_wp2_with fail
    refine (K.out _).mono ?_
    rintro e w1 ⟨rfl, rfl⟩
    go_wp2_with fail
    go_ret
    exact ⟨rfl, (Below.refl _ w).alloc (Nat.le_refl _) _⟩
set_option maxRecDepth 100000 in
theorem szExtS_yes (a : Option Addr) (n c : Nat) (l : List Vl) (left : Int) (w : World) (h : Vals w a n l) (hl : left ≤ 1048576) (hs : (n : Int) + itemsOf l ≤ left) :
    Calls Try.prog 78 #[.slice a n c, .int .i64 left] w (Told (.int .i64 (left - n - itemsOf l)) w) := by
  have H := Lib.hid h
  have hln := Lib.hid h.len
  clear h
  go_enter Try.func78, Try.ntmps78
  go_wp2_with fail
  go_loopw [1, 5] (fun q i wr => ∃ j : Nat, j ≤ n ∧ i = .int .i64 j ∧ q = .int .i64 (left - n - itemsOf (l.take j)) ∧ Below w.heap.size w wr) (fun _ i _ => n - (intOf i).toNat)
  case atStart => exact ⟨0, Nat.zero_le _, rfl, by simp [itemsOf], Below.refl _ _⟩
  case round =>
    obtain ⟨j, hj, rfl, rfl, hb⟩ := hrel
    have HB := Lib.hid hb
    clear hb
    by_cases hlt : j < n
    · obtain ⟨b, o, p, m, d, k, y, rfl, hx, hc0, hc1, hN, hr⟩ := (H.out.same HB.out).at_ hlt
      have hst := itemsOf_at hx
      have hle := itemsOf_le l (j + 1)
      have hym := hN.len
      dsimp only at hst
      have hlo : leftOf (left - n - itemsOf (l.take j)) m = left - n - itemsOf (l.take (j + 1)) := by
        unfold leftOf
        rw [if_pos (by omega)]
        omega
      have HL := Lib.hid hlo
      clear hx hN hlo
      go_wp2_with fail
      refine (szExt_any k p m d _ _ (by omega) (by omega) (by omega)).mono ?_
      rw [HL.out]
      rintro e w2 ⟨rfl, hb2⟩
      have HB2 := Lib.hid (HB.out.trans (hb2.mono HB.out.size))
      clear hb2 hc0 hc1
      go_wp2_with fail
      go_roundw
      case rel => exact ⟨j + 1, by omega, by go_num, by congr 1; omega, HB2.out⟩
      case measure => simp [intOf]; omega
    · obtain rfl : j = n := by omega
      go_wp2_with fail
      go_ret
      rw [List.take_of_length_le (by rw [hln.out]; omega)]
      exact ⟨rfl, HB.out⟩
set_option maxRecDepth 100000 in
theorem szExtS_no (a : Option Addr) (n c : Nat) (l : List Vl) (left : Int) (w : World) (h : Vals w a n l) (h0 : 0 ≤ left) (hl : left ≤ 1048576) (hs : left < (n : Int) + itemsOf l) :
    Calls Try.prog 78 #[.slice a n c, .int .i64 left] w (Told (.int .i64 (-1)) w) := by
  have H := Lib.hid h
  have hln := Lib.hid h.len
  have hfit := h.fits
  clear h
  by_cases hn : (n : Int) ≤ left
  · go_enter Try.func78, Try.ntmps78
    go_wp2_with fail
    go_loopw [1, 5] (fun q i wr => ∃ j : Nat, j ≤ n ∧ i = .int .i64 j ∧ q = .int .i64 (left - n - itemsOf (l.take j)) ∧ (n : Int) + itemsOf (l.take j) ≤ left ∧ Below w.heap.size w wr) (fun _ i _ => n - (intOf i).toNat)
    case atStart => exact ⟨0, Nat.zero_le _, rfl, by simp [itemsOf], by simp [itemsOf]; omega, Below.refl _ _⟩
    case round =>
      obtain ⟨j, hj, rfl, rfl, hin, hb⟩ := hrel
      have HB := Lib.hid hb
      clear hb
      by_cases hlt : j < n
      · obtain ⟨b, o, p, m, d, k, y, rfl, hx, hc0, hc1, hN, hr⟩ := (H.out.same HB.out).at_ hlt
        have hst := itemsOf_at hx
        have hym := hN.len
        dsimp only at hst
        clear hx hN
        by_cases hm : (m : Int) ≤ left - n - itemsOf (l.take j)
        · have hlo : leftOf (left - n - itemsOf (l.take j)) m = left - n - itemsOf (l.take (j + 1)) := by
            unfold leftOf
            rw [if_pos (by omega)]
            omega
          have HL := Lib.hid hlo
          clear hlo
          go_wp2_with fail
          refine (szExt_any k p m d _ _ (by omega) (by omega) (by omega)).mono ?_
          rw [HL.out]
          rintro e w2 ⟨rfl, hb2⟩
          have HB2 := Lib.hid (HB.out.trans (hb2.mono HB.out.size))
          clear hb2 hc0 hc1
          go_wp2_with fail
          go_roundw
          case rel => exact ⟨j + 1, by omega, by go_num, by congr 1; omega, by omega, HB2.out⟩
          case measure => simp [intOf]; omega
        · have hlo : leftOf (left - n - itemsOf (l.take j)) m = -1 := if_neg hm
          have HL := Lib.hid hlo
          clear hlo
          go_wp2_with fail
          refine (szExt_any k p m d _ _ (by omega) (by omega) (by omega)).mono ?_
          rw [HL.out]
          rintro e w2 ⟨rfl, hb2⟩
          have HB2 := Lib.hid (HB.out.trans (hb2.mono HB.out.size))
          clear hb2 hc0 hc1
          go_wp2_with fail
          go_ret
          exact ⟨rfl, HB2.out⟩
      · exfalso
        obtain rfl : j = n := by omega
        rw [List.take_of_length_le (by rw [hln.out]; omega)] at hin
        omega
  · go_enter Try.func78, Try.ntmps78
    go_wp2_with fail
    go_ret
    exact ⟨rfl, Below.refl _ _⟩
set_option maxRecDepth 100000 in
theorem toExt_any (k : Int) (a : Option Addr) (n c : Nat) (y : List Int) (w : World) (h : Nums .i64 w a n y) (hn : n ≤ 1048576000) :
    Calls Try.prog 117 #[.agg #[.int .i64 k, .slice a n c]] w fun e w' => ∃ q m d, e = .returned (.agg #[.int .i64 k, .slice q m d]) ∧ Own .i64 3 w' w.heap.size q m d y ∧ Below w.heap.size w w' := by
  have H := Lib.hid h
  clear h
  go_enter Try.func117, Try.ntmps117
  go_wp2_with fail
  have HW0 : Hid (Below w.heap.size w (((w.alloc (.cells #[.int .i64 k, .slice a n c] 126)).alloc (.cells #[.int .i64 0, .slice none 0 0] 99)).alloc (.cells #[.int .i64 k, .slice none 0 0] 99))) := Lib.hid ((((Below.refl _ w).alloc (Nat.le_refl _) _).alloc (by simp) _).alloc (by simp; omega) _)
  have hL : (((w.alloc (.cells #[.int .i64 k, .slice a n c] 126)).alloc (.cells #[.int .i64 0, .slice none 0 0] 99)).alloc (.cells #[.int .i64 k, .slice none 0 0] 99)).heap[w.heap.size + 1 + 1]? = some (.cells #[.int .i64 k, .slice none 0 0] 99 (0, 0)) := by
    have := heap_alloc_new ((w.alloc (.cells #[.int .i64 k, .slice a n c] 126)).alloc (.cells #[.int .i64 0, .slice none 0 0] 99)) (.cells #[.int .i64 k, .slice none 0 0] 99 (0, 0))
    simpa using this
  have hM : (((w.alloc (.cells #[.int .i64 k, .slice a n c] 126)).alloc (.cells #[.int .i64 0, .slice none 0 0] 99)).alloc (.cells #[.int .i64 k, .slice none 0 0] 99)).heap[w.heap.size + 1]? = some (.cells #[.int .i64 0, .slice none 0 0] 99 (0, 0)) := by
    rw [Below.heap_alloc _ _ _ (by simp)]
    have := heap_alloc_new (w.alloc (.cells #[.int .i64 k, .slice a n c] 126)) (.cells #[.int .i64 0, .slice none 0 0] 99 (0, 0))
    simpa using this
  have hsz : w.heap.size + 3 = (((w.alloc (.cells #[.int .i64 k, .slice a n c] 126)).alloc (.cells #[.int .i64 0, .slice none 0 0] 99)).alloc (.cells #[.int .i64 k, .slice none 0 0] 99)).heap.size := by simp
  generalize (((w.alloc (.cells #[.int .i64 k, .slice a n c] 126)).alloc (.cells #[.int .i64 0, .slice none 0 0] 99)).alloc (.cells #[.int .i64 k, .slice none 0 0] 99)) = W0 at *
  refine (toIntS_any a n c y _ (H.out.same HW0.out) hn).mono ?_
  rintro e w1 ⟨q, m, d, rfl, ho, hb⟩
  have hL1 : w1.heap[w.heap.size + 1 + 1]? = some (.cells #[.int .i64 k, .slice none 0 0] 99 (0, 0)) := by rw [hb.block _ (by omega)]; exact hL
  have hM1 : w1.heap[w.heap.size + 1]? = some (.cells #[.int .i64 0, .slice none 0 0] 99 (0, 0)) := by rw [hb.block _ (by omega)]; exact hM
  have hL2 := heap_setCell_same w1 (w.heap.size + 1 + 1) 1 _ _ (.slice q m d) hL1
  have c0 := (block_cell hL1 0).trans rfl
  have c1 := (block_cell hL1 1).trans rfl
  have f1 := block_frozen hL1 1
  have d0 := (block_cell hL2 0).trans rfl
  have d1 := (block_cell hL2 1).trans rfl
  have g0 := block_frozen hM1 0
  have g1 := block_frozen hM1 1
  have m0 := (block_cell hM1 0).trans rfl
  have m1 := (block_cell hM1 1).trans rfl
  have HB1 := Lib.hid (HW0.out.trans (hb.mono HW0.out.size))
  have HO := Lib.hid (ho.lower HW0.out.size)
  have HSP := Lib.hid ho.span
  have hM2 : (w1.setCell ⟨w.heap.size + 1 + 1, 1, none⟩ (.slice q m d)).heap[w.heap.size + 1]? = some (.cells #[.int .i64 0, .slice none 0 0] 99 (0, 0)) := by rw [Below.heap_setCell _ _ _ _ (by dsimp only; omega)]; exact hM1
  have hM3 := heap_setCell_same _ (w.heap.size + 1) 0 _ _ (.int .i64 k) hM2
  have hM4 := heap_setCell_same _ (w.heap.size + 1) 1 _ _ (.slice q m d) hM3
  have z0 : ((w1.setCell ⟨w.heap.size + 1 + 1, 1, none⟩ (.slice q m d)).setCell ⟨w.heap.size + 1, 0, none⟩ (.int .i64 k)).cell? ⟨w.heap.size + 1, 0, none⟩ = some (.int .i64 k) := (block_cell hM3 0).trans rfl
  have z1 : (((w1.setCell ⟨w.heap.size + 1 + 1, 1, none⟩ (.slice q m d)).setCell ⟨w.heap.size + 1, 0, none⟩ (.int .i64 k)).setCell ⟨w.heap.size + 1, 1, none⟩ (.slice q m d)).cell? ⟨w.heap.size + 1, 1, none⟩ = some (.slice q m d) := (block_cell hM4 1).trans rfl
  clear ho hb hL hM hL1 hM1 hL2 hM2 hM3 hM4
  go_wp2_with fail
  (try simp only [Exit.inBlock, Exit.then])
  refine bodyPost_ret (by simp [results, Try.results117, go_sem, z0, z1]; try rfl) rfl ?_
  have hd : ∀ x, x < w.heap.size + 3 → ∀ ad, q = some ad → ad.block ≠ x := fun x hx ad e => by
    have := (HSP.out ad e).1
    omega
  refine ⟨_, _, _, rfl, ((HO.out.set (hd _ (by omega)) _ _).set (hd _ (by omega)) _ _).set (hd _ (by omega)) _ _, ((HB1.out.setCell (by dsimp only; omega) _).setCell (by dsimp only; omega) _).setCell (by dsimp only; omega) _⟩
set_option maxRecDepth 100000 in
theorem eqExt_yes (k : Int) (a b : Option Addr) (n m c d : Nat) (y : List Int) (w : World) (h : Nums .i64 w a n y) (h' : Nums .i64 w b m y) :
    Calls Try.prog 118 #[.agg #[.int .i64 k, .slice a n c], .agg #[.int .i64 k, .slice b m d]] w (Told (.bool true) w) := by
  have H := Lib.hid h
  have H' := Lib.hid h'
  clear h h'
  go_enter Try.func118, Try.ntmps118
  go_wp2_with fail
  have HB : Hid (Below w.heap.size w ((w.alloc (.cells #[.int .i64 k, .slice a n c] 99)).alloc (.cells #[.int .i64 k, .slice b m d] 99))) := Lib.hid (((Below.refl _ w).alloc (Nat.le_refl _) _).alloc (by simp) _)
  refine (eqIntS_yes a b n m c d y _ (H.out.same HB.out) (H'.out.same HB.out)).mono ?_
  rintro e w1 ⟨rfl, hb⟩
  have HB1 := Lib.hid (HB.out.trans (hb.mono HB.out.size))
  clear hb
  go_wp2_with fail
  go_ret
  exact ⟨rfl, HB1.out⟩
set_option maxRecDepth 100000 in
theorem eqExtS_yes (a b : Option Addr) (n m c d : Nat) (l : List Vl) (w : World) (h : Vals w a n l) (h' : Vals w b m l) :
    Calls Try.prog 80 #[.slice a n c, .slice b m d] w (Told (.bool true) w) := by
  obtain rfl : n = m := by rw [← h.len, ← h'.len]
  have hn := h.fits
  have H := Lib.hid h
  have H' := Lib.hid h'
  clear h h'
  go_enter Try.func80, Try.ntmps80
  go_wp2_with fail
  go_loopw [5] (fun i wr => ∃ j : Nat, j ≤ n ∧ i = .int .i64 j ∧ Below w.heap.size w wr) (fun i _ => n - (intOf i).toNat)
  case atStart => exact ⟨0, Nat.zero_le _, rfl, Below.refl _ _⟩
  case round =>
    obtain ⟨j, hj, rfl, hb⟩ := hrel
    have HB := Lib.hid hb
    clear hb
    by_cases hlt : j < n
    · obtain ⟨b1, o1, p1, m1, d1, k1, y1, rfl, hx, hc0, hc1, hN1, hr1⟩ := (H.out.same HB.out).at_ hlt
      obtain ⟨b2, o2, p2, m2, d2, k2, y2, rfl, hy, hd0, hd1, hN2, hr2⟩ := (H'.out.same HB.out).at_ hlt
      rw [hx] at hy
      cases hy
      have HN1 := Lib.hid hN1
      have HN2 := Lib.hid hN2
      clear hx hN1 hN2
      go_wp2_with fail
      go_still_tail 8, (by kernel_rfl)
      have H2 : Hid (Below wr.heap.size wr wr.drew) := Lib.hid (Below.refl _ _).drew
      change wpList _ _ _ _ _ wr.drew
      generalize wr.drew = w2 at H2 ⊢
      go_wp2_with fail
      refine (eqExt_yes k1 p1 p2 m1 m2 d1 d2 y1 w2 (HN1.out.same H2.out) (HN2.out.same H2.out)).mono ?_
      rintro e w3 ⟨rfl, hb3⟩
      have HB3 := Lib.hid ((HB.out.trans (H2.out.mono HB.out.size)).trans (hb3.mono (Nat.le_trans HB.out.size H2.out.size)))
      clear hb3
      go_wp2
      go_roundw
      case rel => exact ⟨j + 1, by omega, by go_num, HB3.out⟩
      case measure => simp [intOf]; omega
    · go_wp2
      go_ret
      exact ⟨rfl, HB.out⟩
set_option maxRecDepth 100000 in
theorem toExtS_any (a : Option Addr) (n c : Nat) (l : List Vl) (w : World) (h : Vals w a n l) (hn : n + itemsOf l ≤ 1048576000) :
    Calls Try.prog 79 #[.slice a n c] w (MadeV 99 3 w.heap.size l w) := by
  have H := Lib.hid h
  have hl := Lib.hid h.len
  clear h
  obtain ⟨i0, hi, hz0, hz1, hz2⟩ := info_parts infoExtS
  go_enter Try.func79, Try.ntmps79
  go_wp2_with (with_reducible refine wpList_make_full _ rfl (.tmp 6) (.tmp 6) 25 rfl w.heap.size 99 i0 (.agg #[.int .i64 0, .slice none 0 0]) 2 Try.underlying25 hi hz0 hz1 .i64 .i64 _ _ n rfl rfl (by omega) (by omega) ?c1 ?c2 ?c3 ?_)
  case c1 => rw [hz2]; omega
  case c2 => unfold maxLen; omega
  case c3 => omega
  intro w1 hown hgrow
  have hb1 : Below w.heap.size w w1 := (Below.refl _ w).grown hgrow (Nat.le_refl _) (fun _ e => by cases e)
  have HO : Hid (OwnV 99 3 w1 w.heap.size (some ⟨w.heap.size, 0, none⟩) n n (l.take 0 ++ List.replicate (n - 0) ⟨0, []⟩)) := by
    have hm : (madeCells #[.int .i64 0, .slice none 0 0] (n * 2)).toList = flatOf Vh.enc (List.replicate n ⟨0, none, 0, 0⟩) := made2 n
    rw [hm] at hown
    exact Lib.hid (by simpa using OwnV.zeros hown)
  have HB := Lib.hid hb1
  clear hown hgrow hb1 hi hz0 hz1 hz2
  go_wp2_with fail
  go_loopw [4] (fun i wr => ∃ j : Nat, j ≤ n ∧ i = .int .i64 j ∧ OwnV 99 3 wr w.heap.size (some ⟨w.heap.size, 0, none⟩) n n (l.take j ++ List.replicate (n - j) ⟨0, []⟩) ∧ Below w.heap.size w wr) (fun i _ => n - (intOf i).toNat)
  case atStart => exact ⟨0, Nat.zero_le _, rfl, HO.out, HB.out⟩
  case round =>
    obtain ⟨j, hj, rfl, hown, hb⟩ := hrel
    have HO2 := Lib.hid hown
    have HB2 := Lib.hid hb
    clear hown hb
    by_cases hlt : j < n
    · obtain ⟨b, o, p, m, d, k, y, rfl, hx, hc0, hc1, hN, hr⟩ := (H.out.same HB2.out).at_ hlt
      have HX := Lib.hid hx
      have HN := Lib.hid hN
      have hm1 := hN.len
      have hm2 := itemsOf_mem hx
      dsimp only at hm2
      clear hx hN
      go_wp2_with fail
      refine (toExt_any k p m d y wr HN.out (by omega)).mono ?_
      rintro e w2 ⟨q, m2, d2, rfl, ho, hb2⟩
      obtain ⟨hs, hI, hRV⟩ := HO2.out
      have hrow := (hI.same hb2).2
      have hf0 := hrow.frozenAt (j * 2)
      have hf1 := hrow.frozenAt (j * 2 + 1)
      obtain ⟨u0, hu0⟩ := row_cell hrow (k := j * 2) (by omega)
      obtain ⟨u1, hu1⟩ := row_cell hrow (k := j * 2 + 1) (by omega)
      have hput := OwnV.put HO2.out hb2 hlt k q m2 d2 y (ho.lower HB2.out.size) (fun ad e => (ho.span ad e).1)
      rw [put_step HX.out hl.out] at hput
      have HP := Lib.hid hput
      have HB3 := Lib.hid (HB2.out.trans (hb2.mono HB2.out.size))
      clear hrow hb2 hc0 hc1 hI hRV ho hput
      go_wp2_with fail
      go_roundw
      case rel =>
        exact ⟨j + 1, by omega, by go_num, HP.out.1, grown_to (b := some ⟨w.heap.size, 0, none⟩) (m := n) (d := n) HP.out.2 HB3.out (lo := w.heap.size) (hi := w.heap.size + 1) (fun ad e => by cases e; exact ⟨Nat.le_refl _, Nat.lt_succ_self _⟩) (Nat.le_refl _) HB3.out.size⟩
      case measure => simp [intOf]; omega
    · obtain rfl : j = n := by omega
      go_wp2
      go_ret
      have h1 := HO2.out
      rw [List.take_of_length_le (by rw [hl.out]; omega), Nat.sub_self, List.replicate_zero, List.append_nil] at h1
      exact ⟨_, _, _, rfl, h1, HB2.out⟩
end Go.Proofs.Ytcpnchjgklemgaa
namespace Go.Proofs.Ytcpnchjgklemgaa
open Go.ChangeShapes Go.WideShapes Go.ChangeAt Go.RowKit
set_option linter.unusedVariables false
set_option linter.unusedSimpArgs false

/-- While one extension of a list is drawn: it lies in block g, its integers behind it, the list below it. -/
structure BoxE (b : Nat) (a : Option Addr) (n c : Nat) (w : World) (g : Nat) (k : Int) (p : Option Addr) (m d : Nat) (y : List Int) (ao : Option Addr) (no co : Nat) (v : List Vl) (W : World) : Prop where
  cu : Curs w b a n c
  dr : Drawn b a n c w W
  box : W.heap[g]? = some (.cells #[.int .i64 k, .slice p m d] 99 (0, 0))
  own : Own .i64 3 W (g + 1) p m d y
  val : OwnVB g 99 3 W w.heap.size ao no co v
  ge : w.heap.size ≤ g
section
variable {b : Nat} {a : Option Addr} {n c : Nat} {w : World} {g : Nat} {k : Int} {p : Option Addr} {m d : Nat} {y : List Int} {ao : Option Addr} {no co : Nat} {v : List Vl} {W W' : World}
theorem BoxE.lt (h : BoxE b a n c w g k p m d y ao no co v W) : g < W.heap.size := by
  rcases Nat.lt_or_ge g W.heap.size with h1 | h1
  · exact h1
  · have := h.box
    rw [Array.getElem?_eq_none h1] at this
    cases this
theorem BoxE.new (k : Int) (cu : Curs w b a n c) (hd : Drawn b a n c w W) (ho : OwnV 99 3 W w.heap.size ao no co v) : BoxE b a n c w W.heap.size k none 0 0 [] ao no co v (W.alloc (.cells #[.int .i64 k, .slice none 0 0] 99)) :=
  ⟨cu, hd.same (alloc_same _ _), heap_alloc_new _ _, Own.nil, ho.lim.same (alloc_same _ _), hd.2.size⟩
theorem BoxE.only (h : BoxE b a n c w g k p m d y ao no co v W) (hd : Drawn b a n c W W') : BoxE b a n c w g k p m d y ao no co v W' := by
  have hb := h.cu.lt
  have hge := h.ge
  exact ⟨h.cu, h.dr.trans hd, by rw [hd.2.block g h.lt (by omega)]; exact h.box, h.own.far (only_grown hd.2) (fun ad e q => by
    have := (h.own.span ad e).1
    cases q
    omega), h.val.only hd.2 hb, hge⟩
theorem BoxE.same (h : BoxE b a n c w g k p m d y ao no co v W) (hb : Below W.heap.size W W') : BoxE b a n c w g k p m d y ao no co v W' :=
  ⟨h.cu, h.dr.same hb, by rw [hb.block g h.lt]; exact h.box, h.own.same hb, h.val.same hb, h.ge⟩
theorem BoxE.num (h : BoxE b a n c w g k p m d y ao no co v W) (k' : Int) : BoxE b a n c w g k' p m d y ao no co v (W.setCell ⟨g, 0, none⟩ (.int .i64 k')) := by
  have hge := h.ge
  have hB : Below w.heap.size W (W.setCell ⟨g, 0, none⟩ (.int .i64 k')) := (Below.refl _ W).setCell (by dsimp only; omega) _
  exact ⟨h.cu, h.dr.under h.cu hB (Nat.le_refl _), by rw [heap_setCell_same W g 0 _ _ (.int .i64 k') h.box]; rfl, h.own.set (fun ad e => by
    have := (h.own.span ad e).1
    omega) _ _, h.val.far (set_grown W g 0 _) (fun r e => by cases e; exact Or.inr (Nat.le_refl _)), hge⟩
/-- The block itself, behind an append onto the integers. -/
theorem BoxE.kept (h : BoxE b a n c w g k p m d y ao no co v W) (hg : W.grownBy W' (Value.ownBlock (.slice p m d))) : W'.heap[g]? = some (.cells #[.int .i64 k, .slice p m d] 99 (0, 0)) := by
  rw [hg.block g h.lt (fun e => ?_)]
  · exact h.box
  · cases hp : p with
    | none => rw [hp] at e; simp [Value.ownBlock] at e
    | some ad =>
      rw [hp] at e
      have := (h.own.span ad hp).1
      simp only [Value.ownBlock, Option.some.injEq] at e
      omega
theorem BoxE.items (h : BoxE b a n c w g k p m d y ao no co v W) (hg : W.grownBy W' (Value.ownBlock (.slice p m d))) {p' : Option Addr} {m' d' : Nat} {y' : List Int} (ho : Own .i64 3 W' (g + 1) p' m' d' y') :
    BoxE b a n c w g k p' m' d' y' ao no co v (W'.setCell ⟨g, 1, none⟩ (.slice p' m' d')) := by
  have hge := h.ge
  have hrow : ∀ r, Value.ownBlock (.slice p m d) = some r → g + 1 ≤ r := fun r e => by
    cases hp : p with
    | none => rw [hp] at e; simp [Value.ownBlock] at e
    | some ad =>
      rw [hp] at e
      have := (h.own.span ad hp).1
      simp only [Value.ownBlock, Option.some.injEq] at e
      omega
  have hB1 : Below w.heap.size W W' := (Below.refl _ W).grown hg h.dr.2.size (fun r e => by have := hrow r e; omega)
  have hB2 : Below w.heap.size W (W'.setCell ⟨g, 1, none⟩ (.slice p' m' d')) := hB1.setCell (by dsimp only; omega) _
  exact ⟨h.cu, h.dr.under h.cu hB2 (Nat.le_refl _), by rw [heap_setCell_same W' g 1 _ _ (.slice p' m' d') (h.kept hg)]; rfl, ho.set (fun ad e => by
    have := (ho.span ad e).1
    omega) _ _, (h.val.far hg (fun r e => Or.inr (by have := hrow r e; omega))).far (set_grown W' g 1 _) (fun r e => by cases e; exact Or.inr (Nat.le_refl _)), hge⟩
theorem BoxE.cell (h : BoxE b a n c w g k p m d y ao no co v W) {q : Addr} {u : Value} (hq : w.cell? q = some u) (hne : q.block ≠ b) : W.cell? q = some u := by
  rw [h.dr.2.cell (cell_in hq) hne]
  exact hq
end

/-- The extensions drawn so far: valid, and no two with the same tag. -/
def Xok (v : List Vl) : Prop := (∀ x ∈ v, okX x = true) ∧ (tagsX v).Nodup
theorem Xok.nil : Xok [] := ⟨fun x hx => by (cases hx), List.nodup_nil⟩
theorem Xok.app {v : List Vl} {k : Int} {y : List Int} (h : Xok v) (hk : 0 ≤ k ∧ k ≤ 255) (hy : ∀ z ∈ y, 0 ≤ z ∧ z ≤ 255) (hl : y.length ≤ 3) (hn : extOf v k < 0) : Xok (v ++ [⟨k, y⟩]) := by
  refine ⟨fun x hx => ?_, ?_⟩
  · rcases List.mem_append.1 hx with q | q
    · exact h.1 x q
    · rw [List.mem_singleton.1 q]
      unfold okX fitIts allIn
      dsimp only
      rw [decide_eq_true hk, decide_eq_true (by omega), Bool.true_and, Bool.true_and, List.all_eq_true]
      intro z hz
      exact decide_eq_true (hy z hz)
  · have hno : ¬ k ∈ tagsX v := fun hm => by
      rw [extOf_yes hm] at hn
      omega
    unfold tagsX at hno ⊢
    rw [List.map_append, List.nodup_append]
    refine ⟨h.2, by simp, fun a ha b hb e => ?_⟩
    have : b = k := by simpa using hb
    rw [e, this] at ha
    exact hno ha
theorem Xok.are {v : List Vl} (h : Xok v) (h6 : v.length ≤ 6) : areX v = true := areX_parts.2 ⟨h6, h.1, h.2⟩
theorem Xok.vok {v : List Vl} (h : Xok v) : Vok 4 v := fun x hx => by
  have h1 := h.1 x hx
  refine ⟨⟨⟨by have := okX_tag h1; omega, by have := okX_tag h1; omega⟩, fun z hz => ?_⟩, okX_few h1⟩
  unfold okX fitIts allIn at h1
  rw [Bool.and_eq_true, Bool.and_eq_true, List.all_eq_true] at h1
  have h2 := h1.2.2 z hz
  rw [decide_eq_true_eq] at h2
  exact ⟨by omega, by omega⟩
set_option maxHeartbeats 8000000 in
set_option maxRecDepth 100000 in
theorem drawE_any (b : Nat) (a : Option Addr) (n c : Nat) (w : World) (hc : Curs w b a n c) :
    Calls Try.prog 105 #[.pointer (some ⟨b, 0, none⟩)] w fun e w' => ∃ (ao : Option Addr) (m co : Nat) (v : List Vl), e = .returned (.slice ao m co) ∧ OwnV 99 3 w' w.heap.size ao m co v ∧ m ≤ 5 ∧ Xok v ∧ Drawn b a n c w w' := by
  have HC := Lib.hid hc
  clear hc
  obtain ⟨i0, hi, hz0, hz1, hz2⟩ := info_parts infoExtS
  have HI := Lib.hid (And.intro hi (And.intro hz0 (And.intro hz1 hz2)))
  clear hi hz0 hz1 hz2
  obtain ⟨i1, hi, hz0, hz1, hz2⟩ := info_parts infoIntS
  have HJ := Lib.hid (And.intro hi (And.intro hz0 (And.intro hz1 hz2)))
  clear hi hz0 hz1 hz2
  have HD0 : Hid (Drawn b a n c w (w.alloc (.cells #[] 99))) := Lib.hid ((Drawn.refl HC.out).same (alloc_same _ _))
  have HO0 : Hid (OwnV 99 3 (w.alloc (.cells #[] 99)) w.heap.size (some ⟨w.heap.size, 0, none⟩) 0 0 []) := Lib.hid (OwnV.empty (Nat.le_refl _))
  go_enter Try.func105, Try.ntmps105
  go_wp2_with fail
  refine (below_any b a n c 6 (by omega) (by omega) _ HD0.out.1).mono ?_
  rintro e w1 ⟨x, hx0, hx1, rfl, hd1⟩
  obtain ⟨q0, rfl⟩ : ∃ q0 : Nat, x = q0 := ⟨x.toNat, by omega⟩
  have HO1 := Lib.hid (HO0.out.only hd1.2 HC.out.lt)
  have HD1 := Lib.hid (HD0.out.trans hd1)
  clear hd1
  go_wp2_with fail
  go_loopw [3, 4] (fun s i wr => ∃ (q : Nat) (ao : Option Addr) (no co : Nat) (v : List Vl), s = .slice ao no co ∧ i = .int .i64 q ∧ no + q ≤ 5 ∧ OwnV 99 3 wr w.heap.size ao no co v ∧ Xok v ∧ Drawn b a n c w wr) (fun _ i _ => (intOf i).toNat)
  case atStart => exact ⟨q0, _, _, _, [], rfl, rfl, by omega, HO1.out, Xok.nil, HD1.out⟩
  case round =>
    obtain ⟨q, ao, no, co, v, rfl, rfl, hq, ho, hv, hd⟩ := hrel
    have HV := Lib.hid hv
    have HO := Lib.hid ho
    have HD := Lib.hid hd
    have hsz := hd.2.size
    clear ho hv hd
    by_cases hq0 : 0 < q
    · have hqi : (0 : Int) < (q : Int) := by omega
      go_wp2_with fail
      refine (pickNew b a n c [1, 2, 3, 10, 26, 40, 42, 200] 8 (by omega) (by omega) rfl rfl wr HD.out.1).mono ?_
      rintro e w2 ⟨x, hx, rfl, hd2⟩
      have hxi : 0 ≤ x ∧ x ≤ 255 := by
        simp only [List.mem_cons, List.not_mem_nil, or_false] at hx
        omega
      have HD2 := Lib.hid (HD.out.trans hd2)
      have HG2 := Lib.hid (BoxE.new x HC.out HD2.out (HO.out.only hd2.2 HC.out.lt))
      have hs2 := HD2.out.2.size
      clear hd2 hx
      go_wp2_with fail
      generalize hgw : w2.heap.size = g at *
      have HGW := Lib.hid hgw
      clear hgw
      generalize w2.alloc (.cells #[.int .i64 x, .slice none 0 0] 99) = w3 at *
      refine (below_any b a n c 4 (by omega) (by omega) _ HG2.out.dr.1).mono ?_
      rintro e w4 ⟨k, hk0, hk1, rfl, hd4⟩
      obtain ⟨r0, rfl⟩ : ∃ r0 : Nat, k = r0 := ⟨k.toNat, by omega⟩
      have HG4 := Lib.hid (HG2.out.only hd4)
      clear hd4
      go_wp2_with fail
      go_loopw [6] (fun s wi => ∃ (r : Nat) (p : Option Addr) (m d : Nat) (y : List Int), s = .int .i64 r ∧ r + m ≤ 3 ∧ (∀ z ∈ y, 0 ≤ z ∧ z ≤ 255) ∧ BoxE b a n c w g x p m d y ao no co v wi) (fun s _ => (intOf s).toNat)
      case atStart => exact ⟨r0, none, 0, 0, [], rfl, by omega, (fun z hz => by cases hz), HG4.out⟩
      case round =>
        obtain ⟨r, p, m, d, y, rfl, hrm, hy, hG⟩ := hrel
        have HG := Lib.hid hG
        have HY := Lib.hid hy
        clear hG hy
        by_cases hr : 0 < r
        · have hr4 : (0 : Int) < (r : Int) := by omega
          go_wp2_with fail
          have GS := Lib.hid (HG.out.same (Below.refl _ wr).drew)
          refine wp_region_held_drew (S := fun _ => True) (by kernel_rfl) trivial (fun hHeld => ?_)
          refine wpAnyH_take (i := 0) (v := ?v1) (by simp only [List.getElem?_toArray, List.getElem?_cons_succ, List.getElem?_cons_zero]; rfl) (by kernel_rfl) (by kernel_rfl) (by kernel_rfl) (by exact fun _ _ _ h => h) (Or.inl ⟨by rfl, fun w9 hS9 => ?hy1⟩) hHeld ?rest1
          case hy1 =>
            clear hS9
            go_simp
            try with_reducible rfl
          try simp only [Act.put, List.setIfInBounds_toArray, List.set_cons_zero, List.set_cons_succ]
          refine wpAnyH_take (i := 2) (v := ?v2) (by simp only [List.getElem?_toArray, List.getElem?_cons_succ, List.getElem?_cons_zero]; rfl) (by kernel_rfl) (by kernel_rfl) (by kernel_rfl) (by exact fun _ _ _ h => h) (Or.inl ⟨by rfl, fun w9 hS9 => ?hy2⟩) hHeld ?rest2
          case hy2 =>
            clear hS9
            go_simp
            try with_reducible rfl
          try simp only [Act.put, List.setIfInBounds_toArray, List.set_cons_zero, List.set_cons_succ]
          refine wpAnyH_ready (rs := [1, 3]) (by kernel_rfl) (by simp) (AllReadyH.cons (by simp only [List.getElem?_toArray, List.getElem?_cons_succ, List.getElem?_cons_zero]; rfl) (fun K hK => ?_) (AllReadyH.cons (by simp only [List.getElem?_toArray, List.getElem?_cons_succ, List.getElem?_cons_zero]; rfl) (fun K hK => ?_) AllReadyH.nil))
          · skip
            have q1 := (block_cell GS.out.box 1).trans rfl
            go_simp
            refine hK.out _ _ trivial (fun hHeld => ?_)
            clear hK K
            try simp only [Act.put, List.setIfInBounds_toArray, List.set_cons_zero, List.set_cons_succ]
            refine wpAnyH_ready (rs := [3]) (by kernel_rfl) (by simp) (AllReadyH.cons (by simp only [List.getElem?_toArray, List.getElem?_cons_succ, List.getElem?_cons_zero]; rfl) (fun K hK => ?_) AllReadyH.nil)
            go_simp
            refine (below_any b a n c 256 (by omega) (by omega) _ GS.out.dr.1).mono ?_
            rintro e x1 ⟨z, hz0, hz1, rfl, hdz⟩
            have GA := Lib.hid (GS.out.only hdz)
            clear hdz
            go_wp2_with fail
            refine hK.out _ _ trivial (fun hHeld => ?_)
            clear hK K
            try simp only [Act.put, List.setIfInBounds_toArray, List.set_cons_zero, List.set_cons_succ]
            refine wpAnyH_ready (rs := [4]) (by kernel_rfl) (by simp) (AllReadyH.cons (by simp only [List.getElem?_toArray, List.getElem?_cons_succ, List.getElem?_cons_zero]; rfl) (fun K hK => ?_) AllReadyH.nil)
            have GB := Lib.hid (GA.out.same (alloc_same x1 (.cells #[.int .i64 z] 3)))
            have NB := Lib.hid (nums_new x1 .i64 z 3)
            go_simp
            refine hK.out _ _ trivial (fun hHeld => ?_)
            clear hK K
            try simp only [Act.put, List.setIfInBounds_toArray, List.set_cons_zero, List.set_cons_succ]
            refine wpAnyH_ready (rs := [5]) (by kernel_rfl) (by simp) (AllReadyH.cons (by simp only [List.getElem?_toArray, List.getElem?_cons_succ, List.getElem?_cons_zero]; rfl) (fun K hK => ?_) AllReadyH.nil)
            have hszb := GB.out.lt
            refine step_app3 _ (by rfl) (.tmp 25) (.tmp 28) 24 (by rfl) .i64 3 i1 (.int .i64 0) 8 Try.underlying24 HJ.out.1 HJ.out.2.1 HJ.out.2.2.1 HJ.out.2.2.2 rfl (by rfl) GB.out.own (by rfl) NB.out (by omega) (by omega) (by omega) (by omega) ?_
            intro p2 d2 x2 ho2 hg2 _
            have HK2 := Lib.hid (GB.out.kept hg2)
            have GC := Lib.hid (GB.out.items hg2 ho2)
            clear ho2 hg2
            refine hK.out _ _ trivial (fun hHeld => ?_)
            clear hK K
            try simp only [Act.put, List.setIfInBounds_toArray, List.set_cons_zero, List.set_cons_succ]
            refine wpAnyH_take (i := 6) (v := ?v3) (by simp only [List.getElem?_toArray, List.getElem?_cons_succ, List.getElem?_cons_zero]; rfl) (by kernel_rfl) (by kernel_rfl) (by kernel_rfl) (by exact fun _ _ _ h => h) (Or.inl ⟨by rfl, fun w9 hS9 => ?hy3⟩) hHeld ?rest3
            case hy3 =>
              clear hS9
              go_simp
              try with_reducible rfl
            try simp only [Act.put, List.setIfInBounds_toArray, List.set_cons_zero, List.set_cons_succ]
            refine wpAnyH_ready (rs := [7]) (by kernel_rfl) (by simp) (AllReadyH.cons (by simp only [List.getElem?_toArray, List.getElem?_cons_succ, List.getElem?_cons_zero]; rfl) (fun K hK => ?_) AllReadyH.nil)
            have r1 := (block_cell HK2.out 1).trans rfl
            have r2 := block_frozen HK2.out 1
            go_simp
            refine hK.out _ _ trivial (fun hHeld => ?_)
            clear hK K
            try simp only [Act.put, List.setIfInBounds_toArray, List.set_cons_zero, List.set_cons_succ]
            refine wpAnyH_done (by kernel_rfl) ?_ _
            have HY2 : Hid (∀ u ∈ y ++ [z], 0 ≤ u ∧ u ≤ 255) := Lib.hid (fun u hu => by
              rcases List.mem_append.1 hu with e | e
              · exact HY.out u e
              · rw [List.mem_singleton.1 e]; exact ⟨by omega, by omega⟩)
            go_wp2_with fail
            go_roundw
            case rel => exact ⟨r - 1, p2, m + 1, d2, y ++ [z], by go_num, by omega, HY2.out, GC.out⟩
            case measure => simp [intOf]; omega
          · skip
            go_simp
            refine (below_any b a n c 256 (by omega) (by omega) _ GS.out.dr.1).mono ?_
            rintro e x1 ⟨z, hz0, hz1, rfl, hdz⟩
            have GA := Lib.hid (GS.out.only hdz)
            clear hdz
            go_wp2_with fail
            refine hK.out _ _ trivial (fun hHeld => ?_)
            clear hK K
            try simp only [Act.put, List.setIfInBounds_toArray, List.set_cons_zero, List.set_cons_succ]
            refine wpAnyH_ready (rs := [1, 4]) (by kernel_rfl) (by simp) (AllReadyH.cons (by simp only [List.getElem?_toArray, List.getElem?_cons_succ, List.getElem?_cons_zero]; rfl) (fun K hK => ?_) (AllReadyH.cons (by simp only [List.getElem?_toArray, List.getElem?_cons_succ, List.getElem?_cons_zero]; rfl) (fun K hK => ?_) AllReadyH.nil))
            · skip
              have q1 := (block_cell GA.out.box 1).trans rfl
              go_simp
              refine hK.out _ _ trivial (fun hHeld => ?_)
              clear hK K
              try simp only [Act.put, List.setIfInBounds_toArray, List.set_cons_zero, List.set_cons_succ]
              refine wpAnyH_ready (rs := [4]) (by kernel_rfl) (by simp) (AllReadyH.cons (by simp only [List.getElem?_toArray, List.getElem?_cons_succ, List.getElem?_cons_zero]; rfl) (fun K hK => ?_) AllReadyH.nil)
              have GB := Lib.hid (GA.out.same (alloc_same x1 (.cells #[.int .i64 z] 3)))
              have NB := Lib.hid (nums_new x1 .i64 z 3)
              go_simp
              refine hK.out _ _ trivial (fun hHeld => ?_)
              clear hK K
              try simp only [Act.put, List.setIfInBounds_toArray, List.set_cons_zero, List.set_cons_succ]
              refine wpAnyH_ready (rs := [5]) (by kernel_rfl) (by simp) (AllReadyH.cons (by simp only [List.getElem?_toArray, List.getElem?_cons_succ, List.getElem?_cons_zero]; rfl) (fun K hK => ?_) AllReadyH.nil)
              have hszb := GB.out.lt
              refine step_app3 _ (by rfl) (.tmp 25) (.tmp 28) 24 (by rfl) .i64 3 i1 (.int .i64 0) 8 Try.underlying24 HJ.out.1 HJ.out.2.1 HJ.out.2.2.1 HJ.out.2.2.2 rfl (by rfl) GB.out.own (by rfl) NB.out (by omega) (by omega) (by omega) (by omega) ?_
              intro p2 d2 x2 ho2 hg2 _
              have HK2 := Lib.hid (GB.out.kept hg2)
              have GC := Lib.hid (GB.out.items hg2 ho2)
              clear ho2 hg2
              refine hK.out _ _ trivial (fun hHeld => ?_)
              clear hK K
              try simp only [Act.put, List.setIfInBounds_toArray, List.set_cons_zero, List.set_cons_succ]
              refine wpAnyH_take (i := 6) (v := ?v4) (by simp only [List.getElem?_toArray, List.getElem?_cons_succ, List.getElem?_cons_zero]; rfl) (by kernel_rfl) (by kernel_rfl) (by kernel_rfl) (by exact fun _ _ _ h => h) (Or.inl ⟨by rfl, fun w9 hS9 => ?hy4⟩) hHeld ?rest4
              case hy4 =>
                clear hS9
                go_simp
                try with_reducible rfl
              try simp only [Act.put, List.setIfInBounds_toArray, List.set_cons_zero, List.set_cons_succ]
              refine wpAnyH_ready (rs := [7]) (by kernel_rfl) (by simp) (AllReadyH.cons (by simp only [List.getElem?_toArray, List.getElem?_cons_succ, List.getElem?_cons_zero]; rfl) (fun K hK => ?_) AllReadyH.nil)
              have r1 := (block_cell HK2.out 1).trans rfl
              have r2 := block_frozen HK2.out 1
              go_simp
              refine hK.out _ _ trivial (fun hHeld => ?_)
              clear hK K
              try simp only [Act.put, List.setIfInBounds_toArray, List.set_cons_zero, List.set_cons_succ]
              refine wpAnyH_done (by kernel_rfl) ?_ _
              have HY2 : Hid (∀ u ∈ y ++ [z], 0 ≤ u ∧ u ≤ 255) := Lib.hid (fun u hu => by
                rcases List.mem_append.1 hu with e | e
                · exact HY.out u e
                · rw [List.mem_singleton.1 e]; exact ⟨by omega, by omega⟩)
              go_wp2_with fail
              go_roundw
              case rel => exact ⟨r - 1, p2, m + 1, d2, y ++ [z], by go_num, by omega, HY2.out, GC.out⟩
              case measure => simp [intOf]; omega
            · skip
              have GB := Lib.hid (GA.out.same (alloc_same x1 (.cells #[.int .i64 z] 3)))
              have NB := Lib.hid (nums_new x1 .i64 z 3)
              go_simp
              refine hK.out _ _ trivial (fun hHeld => ?_)
              clear hK K
              try simp only [Act.put, List.setIfInBounds_toArray, List.set_cons_zero, List.set_cons_succ]
              refine wpAnyH_ready (rs := [1]) (by kernel_rfl) (by simp) (AllReadyH.cons (by simp only [List.getElem?_toArray, List.getElem?_cons_succ, List.getElem?_cons_zero]; rfl) (fun K hK => ?_) AllReadyH.nil)
              have q1 := (block_cell GB.out.box 1).trans rfl
              go_simp
              refine hK.out _ _ trivial (fun hHeld => ?_)
              clear hK K
              try simp only [Act.put, List.setIfInBounds_toArray, List.set_cons_zero, List.set_cons_succ]
              refine wpAnyH_ready (rs := [5]) (by kernel_rfl) (by simp) (AllReadyH.cons (by simp only [List.getElem?_toArray, List.getElem?_cons_succ, List.getElem?_cons_zero]; rfl) (fun K hK => ?_) AllReadyH.nil)
              have hszb := GB.out.lt
              refine step_app3 _ (by rfl) (.tmp 25) (.tmp 28) 24 (by rfl) .i64 3 i1 (.int .i64 0) 8 Try.underlying24 HJ.out.1 HJ.out.2.1 HJ.out.2.2.1 HJ.out.2.2.2 rfl (by rfl) GB.out.own (by rfl) NB.out (by omega) (by omega) (by omega) (by omega) ?_
              intro p2 d2 x2 ho2 hg2 _
              have HK2 := Lib.hid (GB.out.kept hg2)
              have GC := Lib.hid (GB.out.items hg2 ho2)
              clear ho2 hg2
              refine hK.out _ _ trivial (fun hHeld => ?_)
              clear hK K
              try simp only [Act.put, List.setIfInBounds_toArray, List.set_cons_zero, List.set_cons_succ]
              refine wpAnyH_take (i := 6) (v := ?v5) (by simp only [List.getElem?_toArray, List.getElem?_cons_succ, List.getElem?_cons_zero]; rfl) (by kernel_rfl) (by kernel_rfl) (by kernel_rfl) (by exact fun _ _ _ h => h) (Or.inl ⟨by rfl, fun w9 hS9 => ?hy5⟩) hHeld ?rest5
              case hy5 =>
                clear hS9
                go_simp
                try with_reducible rfl
              try simp only [Act.put, List.setIfInBounds_toArray, List.set_cons_zero, List.set_cons_succ]
              refine wpAnyH_ready (rs := [7]) (by kernel_rfl) (by simp) (AllReadyH.cons (by simp only [List.getElem?_toArray, List.getElem?_cons_succ, List.getElem?_cons_zero]; rfl) (fun K hK => ?_) AllReadyH.nil)
              have r1 := (block_cell HK2.out 1).trans rfl
              have r2 := block_frozen HK2.out 1
              go_simp
              refine hK.out _ _ trivial (fun hHeld => ?_)
              clear hK K
              try simp only [Act.put, List.setIfInBounds_toArray, List.set_cons_zero, List.set_cons_succ]
              refine wpAnyH_done (by kernel_rfl) ?_ _
              have HY2 : Hid (∀ u ∈ y ++ [z], 0 ≤ u ∧ u ≤ 255) := Lib.hid (fun u hu => by
                rcases List.mem_append.1 hu with e | e
                · exact HY.out u e
                · rw [List.mem_singleton.1 e]; exact ⟨by omega, by omega⟩)
              go_wp2_with fail
              go_roundw
              case rel => exact ⟨r - 1, p2, m + 1, d2, y ++ [z], by go_num, by omega, HY2.out, GC.out⟩
              case measure => simp [intOf]; omega
        · obtain rfl : r = 0 := by omega
          have c0 := (block_cell HG.out.box 0).trans rfl
          have c1 := (block_cell HG.out.box 1).trans rfl
          have hge := HG.out.ge
          have hsz9 := HG.out.dr.2.size
          have KX := Lib.hid (specExtOf_any (c := co) x HG.out.val.ownV.vals)
          obtain ⟨t, ht⟩ : ∃ t, t = extOf v x := ⟨_, rfl⟩
          rw [← ht] at KX
          by_cases ht0 : t < 0
          · have HV5 : Hid (Xok (v ++ [⟨x, y⟩])) := Lib.hid (HV.out.app hxi HY.out (by have := HG.out.own.len; omega) (by rw [← ht]; exact ht0))
            have HNN : Hid (Items Vh.enc 2 (wr.alloc (.cells #[.int .i64 x, .slice p m d] 99)) (some ⟨wr.heap.size, 0, none⟩) 1 [⟨x, p, m, d⟩]) := Lib.hid (items_new Vh.enc_len wr ⟨x, p, m, d⟩ 99)
            have HFF : Hid (∀ ad, p = some ad → g ≤ ad.block) := Lib.hid (fun ad e => by
              have := (HG.out.own.span ad e).1
              omega)
            have HOX : Hid (Own .i64 3 (wr.alloc (.cells #[.int .i64 x, .slice p m d] 99)) w.heap.size p m d y) := Lib.hid ((HG.out.own.lower (by omega)).alloc _)
            clear ht
            go_wp2_with (first | (go_at_call 92; refine KX.out.mono ?_; rintro e w' ⟨rfl, rfl⟩) | (at_builtin; refine wpl_appV _ rfl (.tmp 36) (.tmp 38) 25 rfl 99 3 i0 (.agg #[.int .i64 0, .slice none 0 0]) 32 Try.underlying25 HI.out.1 HI.out.2.1 HI.out.2.2.1 HI.out.2.2.2 rfl rfl (HG.out.val.same (alloc_same _ _)) rfl HNN.out HOX.out HFF.out (by omega) ?c4 ?c5 ?_))
            case c4 => omega
            case c5 => simp; omega
            intro a5 c5 w5 ho5 hb5
            have HO5 := Lib.hid ho5
            have HD5 : Hid (Drawn b a n c w w5) := Lib.hid (HG.out.dr.under HC.out (((alloc_same _ _).mono hsz9).trans hb5) (Nat.le_refl _))
            clear ho5 hb5 c0 c1
            go_wp2_with fail
            go_roundw
            case rel => exact ⟨q - 1, a5, no + 1, c5, _, rfl, by go_num, by omega, HO5.out, HV5.out, HD5.out⟩
            case measure => simp [intOf]; omega
          · clear ht
            go_wp2_with (go_at_call 92; refine KX.out.mono ?_; rintro e w' ⟨rfl, rfl⟩)
            go_roundw
            case rel => exact ⟨q - 1, ao, no, co, v, rfl, by go_num, by omega, HG.out.val.ownV, HV.out, HG.out.dr⟩
            case measure => simp [intOf]; omega
    · obtain rfl : q = 0 := by omega
      go_wp2_with fail
      go_ret
      exact ⟨_, _, _, _, rfl, HO.out, by omega, HV.out, HD.out⟩
end Go.Proofs.Ytcpnchjgklemgaa
