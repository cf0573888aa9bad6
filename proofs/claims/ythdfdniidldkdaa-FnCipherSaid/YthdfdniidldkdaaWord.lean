/- The draws of chapter 3: a key or value, some of them, a byte string under a key, a label under a key. -/
import Derived.Test.YthdfdniidldkdaaDrB
namespace Go.Proofs.Ythdfdniidldkdaa
open Go.ChangeShapes Go.WideShapes Go.ChangeAt Go.RowKit
set_option linter.unusedVariables false

/-- What is drawn for a key or a value. -/
def Word (x : Int) : Prop := -1 ≤ x ∧ x ≤ 2147483648
theorem list_word {l : List Int} (h : (l.all fun x => decide (-1 ≤ x) && decide (x ≤ 2147483648)) = true) {x : Int} (hx : x ∈ l) : Word x := by
  rw [List.all_eq_true] at h
  simpa [Word] using h x hx
theorem mul_word {y z : Int} (hy0 : 0 ≤ y) (hy1 : y < 1000000) (hz0 : 0 ≤ z) (hz1 : z < 2000) : 0 ≤ y * z ∧ y * z ≤ 1998999999 + 1000000 := by
  constructor
  · exact Int.mul_nonneg hy0 hz0
  · have h1 : y * z ≤ 999999 * z := Int.mul_le_mul_of_nonneg_right (by omega) hz0
    omega
theorem wrap_word {y z : Int} (hy0 : 0 ≤ y) (hy1 : y < 1000000) (hz0 : 0 ≤ z) (hz1 : z < 2000) : wrap64 (y * z) = y * z := by
  have h := mul_word hy0 hy1 hz0 hz1
  unfold wrap64
  omega
def DrewWord (b : Nat) (a : Option Addr) (n c : Nat) (w : World) (e : Ending) (w' : World) : Prop := ∃ x : Int, e = .returned (.int .i64 x) ∧ Word x ∧ Drawn b a n c w w'

set_option maxRecDepth 100000 in
theorem word_any (b : Nat) (a : Option Addr) (n c : Nat) (w : World) (hc : Curs w b a n c) :
    Calls Try.prog 48 #[.pointer (some ⟨b, 0, none⟩)] w (DrewWord b a n c w) := by
  have H := Lib.hid hc
  clear hc
  go_enter Try.func48, Try.ntmps48
  go_wp2_with fail
  refine (once_any b a n c 10 (by omega) (by omega) _ H.out).mono ?_
  rintro e w1 ⟨t, rfl, hd1⟩
  have H1 := Lib.hid hd1
  clear hd1
  cases t
  · go_wp2_with fail
    refine (once_any b a n c 4 (by omega) (by omega) _ H1.out.1).mono ?_
    rintro e w2 ⟨t, rfl, hd2⟩
    have H2 := Lib.hid (H1.out.trans hd2)
    clear hd2
    cases t
    · go_wp2_with fail
      refine (below_any b a n c 1000000 (by omega) (by omega) _ H2.out.1).mono ?_
      rintro e w3 ⟨y, hy0, hy1, rfl, hd3⟩
      have H3 := Lib.hid (H2.out.trans hd3)
      clear hd3
      go_wp2_with fail
      refine (below_any b a n c 2000 (by omega) (by omega) _ H3.out.1).mono ?_
      rintro e w4 ⟨z, hz0, hz1, rfl, hd4⟩
      have H4 := Lib.hid (H3.out.trans hd4)
      clear hd4
      go_wp2_with fail
      go_ret
      have hm := mul_word hy0 hy1 hz0 hz1
      exact ⟨wrap64 (y * z), rfl, by rw [wrap_word hy0 hy1 hz0 hz1]; exact ⟨by omega, by omega⟩, H4.out⟩
    · go_wp2_with fail
      refine (pickNew b a n c [0, 1, 2147483646] 3 (by omega) (by omega) rfl rfl _ H2.out.1).mono ?_
      rintro e w3 ⟨v, hv, rfl, hd3⟩
      have H3 := Lib.hid (H2.out.trans hd3)
      have HV := Lib.hid hv
      clear hd3 hv
      go_wp2_with fail
      go_ret
      exact ⟨v, rfl, list_word (by decide) HV.out, H3.out⟩
  · go_wp2_with fail
    refine (pickNew b a n c [-1, 2147483647, 2147483648] 3 (by omega) (by omega) rfl rfl _ H1.out.1).mono ?_
    rintro e w2 ⟨v, hv, rfl, hd2⟩
    have H2 := Lib.hid (H1.out.trans hd2)
    have HV := Lib.hid hv
    clear hd2 hv
    go_wp2_with fail
    go_ret
    exact ⟨v, rfl, list_word (by decide) HV.out, H2.out⟩

set_option maxRecDepth 100000 in
theorem drawEncrypt_any (a : Option Addr) (n c : Nat) (w : World) (hc : Code w a n) :
    Calls Try.prog 25 #[.slice a n c] w fun e w' => ∃ (k : Int) (a' : Option Addr) (n' c' : Nat) (l : List Int), e = .returned (.tuple #[.int .i64 k, .slice a' n' c']) ∧ Own .u8 5 w' w.heap.size a' n' c' l ∧ Bs l ∧ n' ≤ 1000 ∧ Word k ∧ Below w.heap.size w w' := by
  have H := Lib.hid hc
  clear hc
  go_enter Try.func25, Try.ntmps25
  go_wp2_with fail
  refine (new_any a n c H.out.2 _ H.out.1).mono ?_
  rintro e w1 ⟨rfl, hc1, hb1⟩
  have hlt := hc1.lt
  have H1 := Lib.hid hc1
  have HB := Lib.hid hb1
  clear hc1 hb1
  go_wp2_with fail
  refine (word_any w.heap.size a n c _ H1.out).mono ?_
  rintro e w2 ⟨k, rfl, hk, hd2⟩
  have hs2 : w1.heap.size ≤ w2.heap.size := hd2.2.size
  have HW := Lib.hid hk
  have H2 := Lib.hid hd2
  clear hd2 hk
  go_wp2_with fail
  refine (below_any w.heap.size a n c 8 (by omega) (by omega) _ H2.out.1).mono ?_
  rintro e w3 ⟨y, hy0, hy1, rfl, hd3⟩
  obtain ⟨m, rfl⟩ : ∃ m : Nat, y = m := ⟨y.toNat, by omega⟩
  have hs3 : w2.heap.size ≤ w3.heap.size := hd3.2.size
  have H3 := Lib.hid (H2.out.trans hd3)
  clear hd3
  go_wp2_with fail
  refine (bytes_any w.heap.size a n c m (by omega) _ H3.out.1).mono ?_
  rintro e w4 ⟨a4, n4, c4, l, rfl, ho, hBs, hlen, hd4⟩
  have hn4 : n4 ≤ 1000 := by have := ho.len; omega
  have HO4 := Lib.hid ho
  have HBs := Lib.hid hBs
  have H4 := Lib.hid (H3.out.trans hd4)
  clear ho hBs hlen hd4
  go_wp2_with fail
  go_ret2
  exact ⟨k, a4, n4, c4, l, rfl, HO4.out.lower (by omega), HBs.out, hn4, HW.out, HB.out.trans (H4.out.below (Nat.le_refl _) HB.out.size)⟩
end Go.Proofs.Ythdfdniidldkdaa
