/- Varints are appended as the mathematics says, by the program and by its model. -/
import Derived.Test.YthdfdniidldkdaaByteS
import Derived.Test.YthdfdniidldkdaaIntS
import Derived.Test.YthdfdniidldkdaaUv
import Derived.Laws.BitsAllLaws
import Derived.Laws.BitsLemmas
namespace Go.Proofs.Ythdfdniidldkdaa
open Go.ChangeShapes Go.WideShapes Go.ChangeAt Go.RowKit
set_option linter.unusedVariables false

theorem ofInt_nat (a : Nat) (ha : a < 18446744073709551616) : (BitVec.ofInt 64 (a : Int)).toNat = a := by
  rw [BitVec.ofInt_natCast, BitVec.toNat_ofNat]; exact Nat.mod_eq_of_lt (by omega)
theorem and127 (a : Nat) (ha : a < 9223372036854775808) : bits .and .i64 (a : Int) 127 = (a : Int) % 128 := by
  have h2 : (BitVec.ofInt 64 127).toNat = 2 ^ 7 - 1 := by decide
  show IntKind.i64.wrap ((BitVec.ofInt 64 (a : Int) &&& BitVec.ofInt 64 127).toNat : Int) = _
  rw [BitVec.toNat_and, ofInt_nat a (by omega), h2, Nat.and_two_pow_sub_one_eq_mod, IntKind.wrap_i64]
  omega
theorem or_add (a b i : Nat) (h : b < 2 ^ i) : 2 ^ i * a ||| b = 2 ^ i * a + b := (Nat.two_pow_add_eq_or_of_lt h a).symm
theorem or128 (a : Nat) (ha : a < 128) : bits .or .i64 (a : Int) 128 = ((a + 128 : Nat) : Int) := by
  have h2 : (BitVec.ofInt 64 128).toNat = 2 ^ 7 * 1 := by decide
  show IntKind.i64.wrap ((BitVec.ofInt 64 (a : Int) ||| BitVec.ofInt 64 128).toNat : Int) = _
  rw [BitVec.toNat_or, ofInt_nat a (by omega), h2, Nat.or_comm, or_add 1 a 7 (by omega), IntKind.wrap_i64]
  omega
theorem group_byte (m : Nat) (hm : m < 9223372036854775808) : bits .or .i64 (bits .and .i64 (m : Int) 127) 128 = (m : Int) % 128 + 128 := by
  rw [and127 m hm, show (m : Int) % 128 = ((m % 128 : Nat) : Int) by omega, or128 _ (by omega)]
  omega

theorem inRange_any (n l h : Int) (w : World) :
    Calls Try.prog 43 #[.int .i64 n, .int .i64 l, .int .i64 h] w fun e w' => e = .returned (.bool (decide (l ≤ n) && decide (n ≤ h))) ∧ w = w' := by
  by_cases h1 : l ≤ n <;> by_cases h2 : n ≤ h <;> (go_enter Try.func43, Try.ntmps43; go_wp2; go_ret; exact ⟨by simp [h1, h2], rfl⟩)
theorem l1In_any (n l h : Int) (w : World) :
    Calls Try.prog 50 #[.int .i64 n, .int .i64 l, .int .i64 h] w fun e w' => e = .returned (.bool (decide (l ≤ n) && decide (n ≤ h))) ∧ w = w' := by
  by_cases h1 : l ≤ n <;> by_cases h2 : n ≤ h <;> (go_enter Try.func50, Try.ntmps50; go_wp2; go_ret; exact ⟨by simp [h1, h2], rfl⟩)

theorem in_yes {n l h : Int} (h1 : l ≤ n) (h2 : n ≤ h) (w : World) : Calls Try.prog 43 #[.int .i64 n, .int .i64 l, .int .i64 h] w fun e w' => e = .returned (.bool true) ∧ w = w' := by
  have := inRange_any n l h w
  rwa [decide_eq_true h1, decide_eq_true h2] at this
theorem in_no {n l h : Int} (h1 : ¬ (l ≤ n ∧ n ≤ h)) (w : World) : Calls Try.prog 43 #[.int .i64 n, .int .i64 l, .int .i64 h] w fun e w' => e = .returned (.bool false) ∧ w = w' := by
  have := inRange_any n l h w
  rwa [show (decide (l ≤ n) && decide (n ≤ h)) = false by rw [← Bool.decide_and]; exact decide_eq_false h1] at this
theorem l1In_yes {n l h : Int} (h1 : l ≤ n) (h2 : n ≤ h) (w : World) : Calls Try.prog 50 #[.int .i64 n, .int .i64 l, .int .i64 h] w fun e w' => e = .returned (.bool true) ∧ w = w' := by
  have := l1In_any n l h w
  rwa [decide_eq_true h1, decide_eq_true h2] at this
theorem l1In_no {n l h : Int} (h1 : ¬ (l ≤ n ∧ n ≤ h)) (w : World) : Calls Try.prog 50 #[.int .i64 n, .int .i64 l, .int .i64 h] w fun e w' => e = .returned (.bool false) ∧ w = w' := by
  have := l1In_any n l h w
  rwa [show (decide (l ≤ n) && decide (n ≤ h)) = false by rw [← Bool.decide_and]; exact decide_eq_false h1] at this

/-- The groups that have been written, and those that are still to come. -/
def Rest (l0 : List Int) (m0 : Nat) (l : List Int) (m : Nat) : Prop := l ++ uv m = l0 ++ uv m0
theorem Rest.step {l0 l : List Int} {m0 m : Nat} (h : Rest l0 m0 l m) (hm : 128 ≤ m) : Rest l0 m0 (l ++ [((m : Int) % 128 + 128)]) (m / 128) := by
  unfold Rest at *
  rw [← h, uv_big hm, List.append_assoc]
  congr 1
theorem Rest.last {l0 l : List Int} {m0 m : Nat} (h : Rest l0 m0 l m) (hm : m < 128) : l ++ [(m : Int)] = l0 ++ uv m0 := by
  unfold Rest at h
  rw [← h, uv_small hm]
theorem Rest.len {l0 l : List Int} {m0 m : Nat} (h : Rest l0 m0 l m) (hm : m0 ≤ 1000000000000) : l.length + 1 ≤ l0.length + 6 := by
  have h1 := congrArg List.length h
  rw [List.length_append, List.length_append] at h1
  have := uv_pos m
  have := uv_len6 m0 hm
  omega

set_option maxRecDepth 100000 in
theorem addIn_any (B : Nat) (a : Option Addr) (n c m : Nat) (l : List Int) (w : World) (h : Own .u8 5 w B a n c l) (hB : B ≤ w.heap.size) (hn : n ≤ 1000000000000) (hm : m ≤ 1000000000000) :
    Calls Try.prog 41 #[.slice a n c, .int .i64 m] w (Made .u8 5 B (l ++ uv m) w) := by
  have H := Lib.hid h
  have HL := Lib.hid h.len
  clear h
  obtain ⟨i0, hi, hz0, hz1, hz2⟩ := info_parts infoByteS
  have HI := Lib.hid (And.intro hi (And.intro hz0 (And.intro hz1 hz2)))
  clear hi hz0 hz1 hz2
  go_enter Try.func41, Try.ntmps41
  go_wp2_with fail
  refine (in_yes (by omega) (by omega) _).mono ?_
  rintro e w' ⟨rfl, rfl⟩
  go_wp2
  go_loopw [0, 1] (fun v x wr => ∃ (a' : Option Addr) (n' c' q : Nat) (l' : List Int), v = .slice a' n' c' ∧ x = .int .i64 q ∧ q ≤ m ∧ Rest l m l' q ∧ Own .u8 5 wr B a' n' c' l' ∧ Below B w wr) (fun _ x _ => (intOf x).toNat)
  case atStart => exact ⟨a, n, c, m, l, rfl, rfl, Nat.le_refl _, rfl, H.out, Below.refl _ _⟩
  case round =>
    obtain ⟨a', n', c', q, l', rfl, rfl, hq, hr, ho, hb⟩ := hrel
    have hlen : n' + 1 ≤ n + 6 := by have := hr.len hm; have := ho.len; have := HL.out; omega
    have HR := Lib.hid hr
    have HO := Lib.hid ho
    have HB := Lib.hid hb
    clear hr ho hb
    by_cases hlt : 128 ≤ q
    · have hg := group_byte q (by omega)
      go_wp2_with (at_builtin; refine wpl_app _ rfl (.tmp 11) (.tmp 16) 22 rfl .u8 5 i0 (.int .u8 0) 1 Try.underlying22 HI.out.1 HI.out.2.1 HI.out.2.2.1 HI.out.2.2.2 rfl rfl (HO.out.alloc _) rfl (nums_new _ _ _ _) (by omega) ?c1 ?c2 ?_)
      case c1 => omega
      case c2 => have := HB.out.size; simp; omega
      intro a2 c2 w2 ho2 hb2
      have HO2 := Lib.hid ho2
      have HB2 := Lib.hid hb2
      clear ho2 hb2 hg
      go_wp2
      go_roundw
      case rel => exact ⟨a2, n' + 1, c2, q / 128, _, rfl, by go_num, by omega, HR.out.step hlt, HO2.out, HB.out.trans (((alloc_same _ _).mono (by have := HB.out.size; omega)).trans HB2.out)⟩
      case measure => simp [intOf]; omega
    · go_wp2_with (at_builtin; refine wpl_app _ rfl (.tmp 20) (.tmp 23) 22 rfl .u8 5 i0 (.int .u8 0) 1 Try.underlying22 HI.out.1 HI.out.2.1 HI.out.2.2.1 HI.out.2.2.2 rfl rfl (HO.out.alloc _) rfl (nums_new _ _ _ _) (by omega) ?c3 ?c4 ?_)
      case c3 => omega
      case c4 => have := HB.out.size; simp; omega
      intro a2 c2 w2 ho2 hb2
      have HO2 := Lib.hid ho2
      have HB2 := Lib.hid hb2
      clear ho2 hb2
      go_wp2
      go_ret
      have h1 := HO2.out
      rw [HR.out.last (by omega)] at h1
      exact ⟨a2, n' + 1, c2, rfl, h1, HB.out.trans (((alloc_same _ _).mono (by have := HB.out.size; omega)).trans HB2.out)⟩
end Go.Proofs.Ythdfdniidldkdaa
