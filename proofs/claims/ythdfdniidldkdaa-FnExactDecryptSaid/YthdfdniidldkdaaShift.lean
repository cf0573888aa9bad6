/- A block of the key stream: what the program hashes for the sixteen places from one on. -/
import Derived.Test.YthdfdniidldkdaaHash
import Derived.Test.YthdfdniidldkdaaKeep
namespace Go.Proofs.Ythdfdniidldkdaa
open Go.ChangeShapes Go.WideShapes Go.ChangeAt Go.RowKit
set_option linter.unusedVariables false

/-- The shift of a place under a key. -/
def shiftAt (k : Int) (i : Nat) : Int := khash k [(i : Int)] % 256
theorem shiftAt_bd (k : Int) (i : Nat) : 0 ≤ shiftAt k i ∧ shiftAt k i ≤ 255 := by unfold shiftAt; omega
/-- The first j of sixteen shifts are there, the others are 0 still. -/
def blkTo (k : Int) (f j : Nat) : Array Value := ((List.range 16).map fun r => if r < j then Value.int .u8 (shiftAt k (f + r)) else .int .u8 0).toArray
def blk (k : Int) (f : Nat) : Array Value := blkTo k f 16
theorem blkTo_size (k : Int) (f j : Nat) : (blkTo k f j).size = 16 := by simp [blkTo]
theorem blkTo_get (k : Int) (f j r : Nat) (h : r < 16) : (blkTo k f j)[r]? = some (if r < j then Value.int .u8 (shiftAt k (f + r)) else .int .u8 0) := by
  simp [blkTo, h]
theorem blk_get (k : Int) (f r : Nat) (h : r < 16) : (blk k f)[r]? = some (Value.int .u8 (shiftAt k (f + r))) := by
  unfold blk
  rw [blkTo_get _ _ _ _ h, if_pos h]
theorem blkTo_step (k : Int) (f j : Nat) (h : j < 16) : (blkTo k f j).setIfInBounds j (.int .u8 (shiftAt k (f + j))) = blkTo k f (j + 1) := by
  apply Array.ext_getElem?
  intro r
  rw [Array.getElem?_setIfInBounds]
  by_cases hr : r < 16
  · by_cases hj : j = r
    · subst hj
      rw [if_pos rfl, if_pos (by rw [blkTo_size]; exact hr), blkTo_get _ _ _ _ hr, if_pos (by omega)]
    · rw [if_neg hj, blkTo_get _ _ _ _ hr, blkTo_get _ _ _ _ hr]
      by_cases h1 : r < j
      · rw [if_pos h1, if_pos (by omega)]
      · rw [if_neg h1, if_neg (by omega)]
  · rw [if_neg (by omega), Array.getElem?_eq_none (by rw [blkTo_size]; omega), Array.getElem?_eq_none (by rw [blkTo_size]; omega)]
theorem blkTo_one (k : Int) (f j : Nat) : (blkTo k f j).all (·.oneCell') = true := by
  refine Array.all_eq_true_iff_forall_mem.2 fun v hv => ?_
  obtain ⟨r, hr⟩ := Array.mem_iff_getElem?.1 hv
  have h16 : r < 16 := by
    rcases Nat.lt_or_ge r 16 with h | h
    · exact h
    · rw [Array.getElem?_eq_none (by rw [blkTo_size]; omega)] at hr; cases hr
  rw [blkTo_get _ _ _ _ h16] at hr
  cases hr
  split <;> rfl
theorem blkTo_zero (k : Int) (f : Nat) : blkTo k f 0 = #[.int .u8 0, .int .u8 0, .int .u8 0, .int .u8 0, .int .u8 0, .int .u8 0, .int .u8 0, .int .u8 0, .int .u8 0, .int .u8 0, .int .u8 0, .int .u8 0, .int .u8 0, .int .u8 0, .int .u8 0, .int .u8 0] := by
  rfl
theorem blkInfo : (Try.prog.info? 66).map (·.size) = some 16 := by kernel_rfl

set_option maxRecDepth 100000 in
theorem shiftsFrom_any (k : Int) (f : Nat) (w : World) (hk : Fit64 k) (hf : f ≤ 1000000000000) :
    Calls Try.prog 57 #[.int .i64 k, .int .i64 f] w fun e w' => e = .returned (.agg (blk k f)) ∧ Below w.heap.size w w' := by
  have HK := Lib.hid hk
  clear hk
  go_enter Try.func57, Try.ntmps57
  go_wp2
  go_loopw [7] (fun i wr => ∃ j : Nat, j ≤ 16 ∧ i = .int .i64 j ∧ wr.heap[w.heap.size]? = some (.cells (blkTo k f 0) 66 (0, 0)) ∧ wr.heap[w.heap.size + 1]? = some (.cells (blkTo k f j) 66 (0, 0)) ∧ Below w.heap.size w wr) (fun i _ => 16 - (intOf i).toNat)
  case atStart => exact ⟨0, by omega, rfl, heap_alloc2_old w _ _, heap_alloc2_new w _ _, ((Below.refl _ w).alloc (Nat.le_refl _) _).alloc (by simp) _⟩
  case round =>
    obtain ⟨j, hj, rfl, h0, h1, hb⟩ := hrel
    have H0 := Lib.hid h0
    have H1 := Lib.hid h1
    have HB := Lib.hid hb
    have hz : w.heap.size + 1 < wr.heap.size := (Array.getElem?_eq_some_iff.1 h1).1
    clear h0 h1 hb
    by_cases hlt : j < 16
    · have hc : wr.cell? ⟨w.heap.size + 1, j, none⟩ = some (.int .u8 0) := by
        rw [cell_of_row wr _ _ _ _ _ H1.out, blkTo_get _ _ _ _ hlt, if_neg (by omega)]
      have hf : wr.frozen? ⟨w.heap.size + 1, j, none⟩ = false := frozen_of_row wr _ _ _ _ H1.out
      go_wp2_with fail
      refine (keyedHash_same k _ 1 1 _ _ HK.out (nums_new _ _ _ _) (fun x hx => by rw [List.mem_singleton.1 hx]; exact fit_mk (by omega) (by omega))).mono ?_
      rintro e w' ⟨rfl, rfl⟩
      go_wp2
      go_roundw
      case rel =>
        refine ⟨j + 1, by omega, by go_num, ?_, ?_, ?_⟩
        · rw [Below.heap_alloc _ _ _ (by simp; omega), Below.heap_setCell _ _ _ _ (by simp)]
          exact H0.out
        · rw [Below.heap_alloc _ _ _ (by simp; omega), heap_setCell_same _ _ _ _ _ _ H1.out, ← blkTo_step k f j hlt]
          unfold shiftAt
          rw [Int.natCast_add]
        · exact (HB.out.setCell (by simp) _).alloc (by simp; omega) _
      case measure => simp [intOf]; omega
    · obtain rfl : j = 16 := by omega
      go_wp2_with (first | (with_reducible refine wpList_load_row rfl 66 (.tmp 5) rfl (w.heap.size + 1) rfl 66 (blkTo k f 16) (0, 0) _ H1.out Try.underlying66 rfl ?c1 ?_) | (with_reducible refine wpl_store_whole _ rfl 66 (.tmp 4) (.tmp 20) rfl w.heap.size (blkTo k f 16) rfl rfl 66 (blkTo k f 0) H0.out ?c2 ?c3 (blkTo_one _ _ _) ?_))
      case c1 => rw [blkTo_size]; exact blkInfo
      case c2 => rw [blkTo_size]; exact blkInfo
      case c3 => rw [blkTo_size, blkTo_size]
      intro w1 h1 hg
      have HH := Lib.hid h1
      have HG := Lib.hid (HB.out.grown hg (by omega) (fun _ e => by cases e; omega))
      clear h1 hg
      go_wp2
      exact bodyPost_ret (v := .agg (blkTo k f 16)) (results_cell_row rfl _ _ w.heap.size 66 (blkTo k f 16) (0, 0) _ rfl HH.out Try.underlying66 rfl (by rw [blkTo_size]; exact blkInfo)) rfl ⟨rfl, HG.out⟩
end Go.Proofs.Ythdfdniidldkdaa
