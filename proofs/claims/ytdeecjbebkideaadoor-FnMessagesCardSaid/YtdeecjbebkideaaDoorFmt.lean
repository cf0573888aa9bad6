/- The model's FormatInt returns the decimal numeral of every integer of 64 bits. -/
import Derived.Test.YtdeecjbebkideaaDoorRows
import Derived.Test.YtdeecjbebkideaaDoorPlain
import Derived.Lib.ItoaLen
import Derived.WalkKit
import Derived.ProofKit
import Derived.OpenShut
import Derived.Lib.Hide
import Derived.Laws.BytesArg
import Derived.Laws.Concat
namespace Go.Proofs.YtdeecjbebkideaaDoor
open Go.ChangeShapes Go.WideShapes Go.ChangeAt Go.RowKit Go.Lib
set_option linter.unusedVariables false

/-- The digits that are still to be written. -/
def decR (m : Nat) : List UInt8 := if m = 0 then [] else decDigits m
theorem decR_zero : decR 0 = [] := rfl
theorem decR_pos {m : Nat} (h : 1 ≤ m) : decR m = decR (m / 10) ++ [UInt8.ofNat (48 + m % 10)] := by
  unfold decR
  rw [if_neg (by omega)]
  by_cases h1 : m < 10
  · rw [if_pos (by omega), decDigits_one h1, Nat.mod_eq_of_lt h1]; rfl
  · rw [if_neg (by omega), decDigits, dif_neg h1]

theorem byte_text (x : Nat) (w : World) :
    (convert 22 9 (.slice (some ⟨w.heap.size, 0, none⟩) 1 1)).run Tryd.prog (w.alloc (.cells #[.int .u8 x] 5)) = .ok (.string ⟨[UInt8.ofNat x].toArray⟩) (w.alloc (.cells #[.int .u8 x] 5)) := by
  rw [run_convert_bytes_arg (w.alloc (.cells #[.int .u8 x] 5)) 22 5 Tryd.underlying22 Tryd.underlying5 w.heap.size 0 1 1 [(x : Int)] rfl (fun i hi => by
    obtain rfl : i = 0 := by omega
    simp) 9 Tryd.underlying9]
  simp [strOfNums]
theorem byte_join (c : UInt8) (l : List UInt8) (h : l.length ≤ 1000) (w : World) :
    (Op.stringOp .add ⟨[c].toArray⟩ ⟨l.toArray⟩).run Tryd.prog w = .ok (.string ⟨(c :: l).toArray⟩) w := by
  rw [run_string_add_sum w _ _ (by
    show [c].toArray.size + l.toArray.size ≤ _
    simp
    omega), ByteArray.mk_append_mk]
  simp

theorem dec_len20 (n : Nat) (h : n ≤ 9223372036854775808) : (decDigits n).length ≤ 20 := by
  rw [decDigits_length]
  exact nDigits_le20 n (by omega)

set_option maxRecDepth 100000 in
theorem specFmt_pos (n : Nat) (hn : 1 ≤ n) (hb2 : n ≤ 9223372036854775807) (w : World) :
    Calls Tryd.prog 50 #[.int .i64 n] w fun e w' => e = .returned (.string ⟨(decDigits n).toArray⟩) ∧ Below w.heap.size w w' := by
  have hlen := dec_len20 n (by omega)
  have hc0 : ((n : Int) == 0) = false := by simp; omega
  go_enter Tryd.func50, Tryd.ntmps50
  go_wp2
  clear hc0
  go_loopw [3, 4] (fun s x wr => ∃ m : Nat, m ≤ n ∧ x = .int .i64 m ∧ ∃ l : List UInt8, s = .string ⟨l.toArray⟩ ∧ decR m ++ l = decDigits n ∧ Below w.heap.size w wr) (fun _ x _ => (intOf x).toNat)
  case atStart => exact ⟨n, Nat.le_refl _, rfl, [], rfl, by simp [decR]; omega, Below.refl _ _⟩
  case round =>
    obtain ⟨m, hm, rfl, l, rfl, hl, hB⟩ := hrel
    by_cases h0 : 1 ≤ m
    · have hc1 : ((m : Int) != 0) = true := by simp; omega
      have hll : l.length ≤ 1000 := by have := congrArg List.length hl; rw [List.length_append] at this; omega
      obtain ⟨c, hc⟩ : ∃ c : UInt8, c = UInt8.ofNat (48 + m % 10) := ⟨_, rfl⟩
      have hcv := byte_text (48 + m % 10) wr
      have hjn := byte_join c l hll (wr.alloc (.cells #[.int .u8 ((48 + m % 10 : Nat) : Int)] 5))
      have ecast : ((48 + m % 10 : Nat) : Int) = 48 + (m : Int) % 10 := by omega
      rw [ecast, ← hc] at hcv
      rw [ecast] at hjn
      have H := Lib.hid hl
      have HC := Lib.hid hc
      clear hl ecast hc
      go_wp2
      go_roundw
      case rel =>
        refine ⟨m / 10, by omega, by go_num, c :: l, rfl, ?_, hB.trans ((Below.refl _ _).alloc (hB.size) _)⟩
        have := H.out
        rw [decR_pos h0, ← HC.out] at this
        simpa using this
      case measure => simp [intOf]; omega
    · obtain rfl : m = 0 := by omega
      rw [decR_zero, List.nil_append] at hl
      subst hl
      go_wp2
      go_ret
      exact ⟨rfl, hB⟩
set_option maxRecDepth 100000 in
theorem specFmt_neg (n : Nat) (hn : 1 ≤ n) (hb2 : n ≤ 9223372036854775808) (w : World) :
    Calls Tryd.prog 50 #[.int .i64 (-(n : Int))] w fun e w' => e = .returned (.string ⟨(45 :: decDigits n).toArray⟩) ∧ Below w.heap.size w w' := by
  have hlen := dec_len20 n hb2
  have hc0 : (-(n : Int) == 0) = false := by simp; omega
  go_enter Tryd.func50, Tryd.ntmps50
  go_wp2
  clear hc0
  go_loopw [3, 4] (fun s x wr => ∃ m : Nat, m ≤ n ∧ x = .int .i64 (-(m : Int)) ∧ ∃ l : List UInt8, s = .string ⟨l.toArray⟩ ∧ decR m ++ l = decDigits n ∧ Below w.heap.size w wr) (fun _ x _ => (-(intOf x)).toNat)
  case atStart => exact ⟨n, Nat.le_refl _, rfl, [], rfl, by simp [decR]; omega, Below.refl _ _⟩
  case round =>
    obtain ⟨m, hm, rfl, l, rfl, hl, hB⟩ := hrel
    by_cases h0 : 1 ≤ m
    · have hc1 : (-(m : Int) != 0) = true := by simp; omega
      have hll : l.length ≤ 1000 := by have := congrArg List.length hl; rw [List.length_append] at this; omega
      obtain ⟨c, hc⟩ : ∃ c : UInt8, c = UInt8.ofNat (48 + m % 10) := ⟨_, rfl⟩
      have hcv := byte_text (48 + m % 10) wr
      have hjn := byte_join c l hll (wr.alloc (.cells #[.int .u8 ((48 + m % 10 : Nat) : Int)] 5))
      have ecast : ((48 + m % 10 : Nat) : Int) = 48 + (m : Int) % 10 := by omega
      rw [ecast, ← hc] at hcv
      rw [ecast] at hjn
      have etm : (-(m : Int)).tmod 10 = -((m : Int) % 10) := by rw [Int.neg_tmod, Int.tmod_eq_emod_of_nonneg (by omega)]
      have etd : (-(m : Int)).tdiv 10 = -(((m / 10 : Nat)) : Int) := by rw [Int.neg_tdiv, Int.tdiv_eq_ediv_of_nonneg (by omega)]; omega
      have H := Lib.hid hl
      have HC := Lib.hid hc
      clear hl ecast hc
      by_cases hz : (m : Int) % 10 = 0
      · rw [hz] at hcv hjn etm
        simp only [Int.add_zero, Int.neg_zero] at hcv hjn etm
        go_wp2
        go_roundw
        case rel =>
          refine ⟨m / 10, by omega, by go_num, c :: l, rfl, ?_, hB.trans ((Below.refl _ _).alloc (hB.size) _)⟩
          have := H.out
          rw [decR_pos h0, ← HC.out] at this
          simpa using this
        case measure => simp [intOf]; omega
      · go_wp2
        go_roundw
        case rel =>
          refine ⟨m / 10, by omega, by go_num, c :: l, rfl, ?_, hB.trans ((Below.refl _ _).alloc (hB.size) _)⟩
          have := H.out
          rw [decR_pos h0, ← HC.out] at this
          simpa using this
        case measure => simp [intOf]; omega
    · obtain rfl : m = 0 := by omega
      rw [decR_zero, List.nil_append] at hl
      subst hl
      have hjn := byte_join 45 (decDigits n) (by omega) wr
      go_wp2
      go_ret
      exact ⟨rfl, hB⟩

set_option maxRecDepth 100000 in
theorem specFmt_zero (w : World) :
    Calls Tryd.prog 50 #[.int .i64 0] w fun e w' => e = .returned (.string ⟨#[48]⟩) ∧ Below w.heap.size w w' := by
  go_enter Tryd.func50, Tryd.ntmps50
  go_wp2
  go_ret
  exact ⟨rfl, Below.refl _ _⟩

theorem specFmt_any (n : Int) (h0 : -9223372036854775808 ≤ n) (h1 : n ≤ 9223372036854775807) (w : World) :
    Calls Tryd.prog 50 #[.int .i64 n] w fun e w' => e = .returned (.string ⟨(itoa n).toArray⟩) ∧ Below w.heap.size w w' := by
  rcases Int.lt_trichotomy n 0 with h | h | h
  · obtain ⟨u, rfl⟩ : ∃ u : Nat, n = -(u : Int) := ⟨n.natAbs, by omega⟩
    rw [itoa_neg u (by omega)]
    exact specFmt_neg u (by omega) (by omega) w
  · subst h
    rw [show (0 : Int) = ((0 : Nat) : Int) from rfl, itoa_nonneg, decDigits_one (by omega)]
    exact specFmt_zero w
  · obtain ⟨u, rfl⟩ : ∃ u : Nat, n = u := ⟨n.toNat, by omega⟩
    rw [itoa_nonneg]
    exact specFmt_pos u (by omega) (by omega) w
end Go.Proofs.YtdeecjbebkideaaDoor
