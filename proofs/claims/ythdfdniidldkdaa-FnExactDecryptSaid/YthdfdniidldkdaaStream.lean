/- The key stream: a function that keeps the blocks that it has met; whatever it has kept, it tells the shift of the place. -/
import Derived.Test.YthdfdniidldkdaaShift
namespace Go.Proofs.Ythdfdniidldkdaa
open Go.ChangeShapes Go.WideShapes Go.ChangeAt Go.RowKit
open Go.Maps (Keyed int_keyed keyOf_int_mk)
set_option linter.unusedVariables false

/-- What is kept under a number is the block of that number. -/
def Good (k : Int) (key val : Value) : Prop := ∀ q : Nat, key = .int .i64 (q : Int) → val = .agg (blk k (q * 16))
/-- The variables of a key stream: the map of the blocks that were met, and the key. -/
structure Stream (w : World) (gm gk bm n : Nat) (k : Int) : Prop where
  met : w.heap[gm]? = some (.cells #[.map (some bm)] 65 (0, 0))
  key : w.heap[gk]? = some (.cells #[.int .i64 k] 3 (0, 0))
  keeps : Keeps Try.prog 3 w bm n (Good k)
theorem Stream.lt {w : World} {gm gk bm n : Nat} {k : Int} (h : Stream w gm gk bm n k) : gm < w.heap.size ∧ gk < w.heap.size ∧ bm < w.heap.size :=
  ⟨(Array.getElem?_eq_some_iff.1 h.met).1, (Array.getElem?_eq_some_iff.1 h.key).1, h.keeps.lt⟩
theorem Stream.of_heap {w w' : World} {gm gk bm n : Nat} {k : Int} (h : Stream w gm gk bm n k) (e1 : w'.heap[gm]? = w.heap[gm]?) (e2 : w'.heap[gk]? = w.heap[gk]?) (e3 : w'.heap[bm]? = w.heap[bm]?) : Stream w' gm gk bm n k :=
  ⟨e1.trans h.met, e2.trans h.key, h.keeps.of_heap e3⟩
theorem Stream.below {w w' : World} {gm gk bm n : Nat} {k : Int} (h : Stream w gm gk bm n k) (hb : Below w.heap.size w w') : Stream w' gm gk bm n k :=
  h.of_heap (hb.block _ h.lt.1) (hb.block _ h.lt.2.1) (hb.block _ h.lt.2.2)
theorem Stream.apart {w : World} {gm gk bm n : Nat} {k : Int} (h : Stream w gm gk bm n k) : gm ≠ bm ∧ gk ≠ bm := by
  obtain ⟨es, clock, h1, _⟩ := h.keeps
  constructor <;> intro e <;> subst e
  · have := h.met.symm.trans h1; cases this
  · have := h.key.symm.trans h1; cases this
theorem blk_size (k : Int) (f : Nat) : (blk k f).size = 16 := blkTo_size k f 16
theorem blk_one (k : Int) (f : Nat) : (blk k f).all (·.oneCell') = true := blkTo_one k f 16
theorem mapLaw : Keyed Try.prog 3 := int_keyed Try.underlying3
theorem blkZero (w : World) : (zeroValue 66).run Try.prog w = .ok (.agg (blkTo 0 0 0)) w := by kernel_rfl
theorem cell_of_single {w : World} {g : Nat} {v : Value} {t : TypeId} (h : w.heap[g]? = some (.cells #[v] t (0, 0))) : w.cell? ⟨g, 0, none⟩ = some v := by rw [cell_of_row w g 0 _ _ _ h]; rfl
theorem place_split (i : Nat) : i / 16 * 16 + i % 16 = i := by omega
theorem place_cell {w : World} {g i : Nat} {k : Int} {t : TypeId} (h : w.heap[g]? = some (.cells (blk k (i / 16 * 16)) t (0, 0))) : w.cell? ⟨g, i % 16, none⟩ = some (.int .u8 (shiftAt k i)) := by
  rw [cell_of_row w g _ _ _ _ h, blk_get _ _ _ (by omega), place_split]

set_option maxRecDepth 100000 in
theorem shift_hit (i gm gk bm n : Nat) (k : Int) (w : World) (h : Stream w gm gk bm n k) (hi : i ≤ 1000000000000)
    (hrun : (Instr.lookup 65 (.map (some bm)) (.int .i64 ((i : Int) / 16)) true).run Try.prog w = .ok (.tuple #[.agg (blk k (i / 16 * 16)), .bool true]) w) :
    Calls Try.prog 56 #[.int .i64 i, .pointer (some ⟨gm, 0, none⟩), .pointer (some ⟨gk, 0, none⟩)] w fun e w' => e = .returned (.int .u8 (shiftAt k i)) ∧ Below w.heap.size w w' := by
  have hc1 := cell_of_single h.met
  have hc2 := cell_of_single h.key
  go_enter Try.func56, Try.ntmps56
  go_wp2_with (with_reducible refine wpl_store_whole _ rfl 66 (.tmp 6) (.tmp 14) rfl w.heap.size (blk k (i / 16 * 16)) rfl rfl 66 _ (heap_alloc_new _ _) ?c2 ?c3 (blk_one _ _) ?_)
  case c2 => rw [blk_size]; exact blkInfo
  case c3 => rw [blk_size]; rfl
  intro w1 h1 hg
  have hc := place_cell h1
  have HG := Lib.hid (((Below.refl _ w).alloc (Nat.le_refl _) _).grown hg (by simp) (fun _ e => by cases e; exact Nat.le_refl _))
  clear h1 hg
  go_wp2
  go_ret
  exact ⟨rfl, HG.out⟩
theorem shiftsFrom_at (k : Int) (i : Nat) (w : World) (hk : Fit64 k) (hi : i ≤ 1000000000000) :
    Calls Try.prog 57 #[.int .i64 k, .int .i64 ((i : Int) / 16 * 16)] w fun e w' => e = .returned (.agg (blk k (i / 16 * 16))) ∧ Below w.heap.size w w' := by
  have h := shiftsFrom_any k (i / 16 * 16) w hk (by omega)
  rw [Int.natCast_mul, Int.natCast_ediv] at h
  exact h
theorem zeros_size : (blkTo 0 0 0).size = 16 := blkTo_size 0 0 0
theorem good_put (k : Int) (i : Nat) : Good k (.int .i64 ((i : Int) / 16)) (.agg (blk k (i / 16 * 16))) := by
  intro q hq
  injection hq with _ h
  have : i / 16 = q := by omega
  rw [this]

set_option maxRecDepth 100000 in
theorem shift_miss (i gm gk bm n : Nat) (k : Int) (w : World) (h : Stream w gm gk bm n k) (hk : Fit64 k) (hi : i ≤ 1000000000000) (hn : n ≤ 1000000000000)
    (hrun : (Instr.lookup 65 (.map (some bm)) (.int .i64 ((i : Int) / 16)) true).run Try.prog w = .ok (.tuple #[.agg (blkTo 0 0 0), .bool false]) w) :
    Calls Try.prog 56 #[.int .i64 i, .pointer (some ⟨gm, 0, none⟩), .pointer (some ⟨gk, 0, none⟩)] w fun e w' => e = .returned (.int .u8 (shiftAt k i)) ∧ Stream w' gm gk bm (n + 1) k ∧ w.grownBy w' (some bm) := by
  have hc1 := cell_of_single h.met
  have hc2 := cell_of_single h.key
  have HK := Lib.hid hk
  have HS := Lib.hid h
  clear hk h
  go_enter Try.func56, Try.ntmps56
  go_wp2_with (with_reducible refine wpl_store_whole _ rfl 66 (.tmp 6) (.tmp 14) rfl w.heap.size (blkTo 0 0 0) rfl rfl 66 _ (heap_alloc_new _ _) ?c2 ?c3 (blkTo_one _ _ _) ?_)
  case c2 => rw [zeros_size]; exact blkInfo
  case c3 => rw [zeros_size]; rfl
  intro w1 h1 hg
  have HG1 : Hid (Below w.heap.size w w1) := Lib.hid (((Below.refl _ w).alloc (Nat.le_refl _) _).grown hg (by simp) (fun _ e => by cases e; exact Nat.le_refl _))
  have S1 := Lib.hid (HS.out.below HG1.out)
  have hd2 := cell_of_single S1.out.key
  have H1 := Lib.hid h1
  clear h1 hg hc1 hc2 hrun
  go_wp2_with fail
  refine (shiftsFrom_at k i _ HK.out hi).mono ?_
  rintro e w2 ⟨rfl, hb2⟩
  have hz1 : w.heap.size < w1.heap.size := (Array.getElem?_eq_some_iff.1 H1.out).1
  have H2 : Hid (w2.heap[w.heap.size]? = some (.cells (blkTo 0 0 0) 66 (0, 0))) := Lib.hid ((hb2.block _ hz1).trans H1.out)
  have S2 := Lib.hid (S1.out.below hb2)
  have HG2 := Lib.hid (HG1.out.trans (hb2.mono (by omega)))
  clear hd2 hb2
  go_wp2_with (with_reducible refine wpl_store_whole _ rfl 66 (.tmp 6) (.tmp 21) rfl w.heap.size (blk k (i / 16 * 16)) rfl rfl 66 _ H2.out ?c4 ?c5 (blk_one _ _) ?_)
  case c4 => rw [blk_size]; exact blkInfo
  case c5 => rw [blk_size, zeros_size]
  intro w3 h3 hg3
  have HG3 := Lib.hid (HG2.out.grown hg3 HG2.out.size (fun _ e => by cases e; exact Nat.le_refl _))
  have H3 := Lib.hid h3
  have S3 := Lib.hid (HS.out.below HG3.out)
  have hc3 := cell_of_single S3.out.met
  clear h3 hg3 hz1
  go_wp2_with (first | (with_reducible refine wpList_load_row rfl 66 (.tmp 6) rfl w.heap.size rfl 66 (blk k (i / 16 * 16)) (0, 0) _ H3.out Try.underlying66 rfl ?c6 ?_) | (at_mapUpdate; refine wpl_put _ rfl (.tmp 22) (.tmp 23) (.tmp 24) 65 rfl 3 66 mapLaw Try.underlying65 bm n (Good k) rfl S3.out.keeps ?c7 _ _ _ rfl rfl (keyOf_int_mk Try.underlying3 ?c8) (good_put k i) ?_))
  case c6 => rw [blk_size]; exact blkInfo
  case c7 => unfold maxLen; omega
  case c8 => exact fit_mk (by omega) (by omega)
  intro w4 hk4 hg4
  have hne := S3.out.apart
  have hl := S3.out.lt
  have hl0 := HS.out.lt
  have H4 : w4.heap[w.heap.size]? = some (.cells (blk k (i / 16 * 16)) 66 (0, 0)) := (hg4.block _ (by have := (Array.getElem?_eq_some_iff.1 H3.out).1; omega) (by simp; omega)).trans H3.out
  have hc := place_cell H4
  have HS4 : Hid (Stream w4 gm gk bm (n + 1) k) := Lib.hid ⟨(hg4.block _ hl.1 (by simp; exact hne.1)).trans S3.out.met, (hg4.block _ hl.2.1 (by simp; exact hne.2)).trans S3.out.key, hk4⟩
  have HG4 : Hid (w.grownBy w4 (some bm)) := Lib.hid ⟨hg4.os.trans HG3.out.os, hg4.tape.trans HG3.out.tape, hg4.output.trans HG3.out.output, Nat.le_trans HG3.out.size hg4.size, fun j hj hj' => (hg4.block j (Nat.lt_of_lt_of_le hj HG3.out.size) hj').trans (HG3.out.block j hj)⟩
  clear hk4 hg4 hne hl hl0 H4 hc3
  go_wp2
  go_ret
  exact ⟨rfl, HS4.out, HG4.out⟩

theorem shift_any (i gm gk bm n : Nat) (k : Int) (w : World) (h : Stream w gm gk bm n k) (hk : Fit64 k) (hi : i ≤ 1000000000000) (hn : n ≤ 1000000000000) :
    Calls Try.prog 56 #[.int .i64 i, .pointer (some ⟨gm, 0, none⟩), .pointer (some ⟨gk, 0, none⟩)] w fun e w' => e = .returned (.int .u8 (shiftAt k i)) ∧ Stream w' gm gk bm (n + 1) k ∧ w.grownBy w' (some bm) := by
  rcases h.keeps.look mapLaw Try.underlying65 (blkZero w) (key := .int .i64 ((i : Int) / 16)) (keyOf_int_mk Try.underlying3 (fit_mk (by omega) (by omega))) with hrun | ⟨v, hrun, hG⟩
  · exact shift_miss i gm gk bm n k w h hk hi hn hrun
  · have hv := hG (i / 16) (by rw [Int.natCast_ediv]; rfl)
    subst hv
    refine (shift_hit i gm gk bm n k w h hi hrun).mono fun e w' ⟨he, hb⟩ => ⟨he, ?_, grown_below hb _⟩
    have h' := h.below hb
    exact ⟨h'.met, h'.key, h'.keeps.mono (Nat.le_succ n)⟩
end Go.Proofs.Ythdfdniidldkdaa
