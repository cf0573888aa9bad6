/- A list of fields and a number, as the laws draw them. -/
import Derived.Test.YtjmabidahofbbaaDrF2
namespace Go.Proofs.Ytjmabidahofbbaa
open Go.ChangeShapes Go.WideShapes Go.ChangeAt Go.RowKit
set_option linter.unusedVariables false

/-- A list of fields and a number in a range, as a law draws them. -/
def DrewFI (lo hi : Int) (w : World) (e : Ending) (w' : World) : Prop :=
  ∃ (f : Option Addr) (fn fc : Nat) (l : List Fd) (x : Int), e = .returned (.tuple #[.slice f fn fc, .int .i64 x]) ∧ lo ≤ x ∧ x ≤ hi ∧ Fds w' f fn l ∧ (fn ≤ fc ∧ (fc : Int) ≤ 9223372036854775807) ∧ fn ≤ 7 ∧ Below w.heap.size w w'

set_option maxHeartbeats 2000000 in
set_option maxRecDepth 100000 in
theorem drawMakeMessage_any (a : Option Addr) (n c : Nat) (w : World) (h : Code w a n) :
    Calls Try.prog 11 #[.slice a n c] w (DrewFI (-0) (100 - 1 - 0) w) := by
  have H := Lib.hid h
  clear h
  go_enter Try.func11, Try.ntmps11
  go_wp2_with fail
  refine (new_any a n c H.out.2 w H.out.1).mono ?_
  rintro e w1 ⟨rfl, hc1, hb1⟩
  have HC1 := Lib.hid hc1
  have HB1 := Lib.hid hb1
  have hs1 := hb1.size
  have hlt := hc1.lt
  clear hc1 hb1
  go_wp2_with fail
  refine (drawF_any w.heap.size a n c w1 HC1.out).mono ?_
  rintro e w2 ⟨gf, fn, fc, l, rfl, ho2, hm1, hm5, hfm, hd2⟩
  have HF2 := Lib.hid ho2
  have HD2 := Lib.hid hd2
  have hs2 := hd2.2.size
  clear ho2 hd2 hfm
  go_wp2_with fail
  refine (once_any w.heap.size a n c 8 (by omega) (by omega) _ HD2.out.1).mono ?_
  rintro e w4 ⟨tb, rfl, hd4⟩
  have HF4 := Lib.hid (HF2.out.only hd4.2 HF2.out.span (Or.inl hlt))
  have HD4 := Lib.hid (HD2.out.trans hd4)
  have hs4 := hd4.2.size
  clear hd4
  cases tb with
  | true =>
    go_wp2_with fail
    refine (anyF_any w.heap.size a n c w4 HD4.out.1).mono ?_
    rintro e w5 ⟨f5, m5, c5, l5, rfl, ho5, hm5, hfm5, hd5⟩
    have HO5 := Lib.hid ho5
    have HD5 := Lib.hid (HD4.out.trans hd5)
    have hlt5 : w.heap.size < w4.heap.size := by omega
    clear ho5 hd5
    go_wp2_with fail
    refine (below_any w.heap.size a n c 100 (by omega) (by omega) _ HD5.out.1).mono ?_
    rintro e w6 ⟨x, hx0, hx1, rfl, hd6⟩
    have HO6 := Lib.hid (HO5.out.only hd6.2 HO5.out.span (Or.inl hlt5))
    have HD6 := Lib.hid (HD5.out.trans hd6)
    have HB6 := Lib.hid (HB1.out.trans (HD6.out.below (Nat.le_refl _) hs1))
    clear hd6
    go_wp2_with fail
    go_ret2
    exact ⟨_, _, _, l5, _, rfl, by omega, by omega, HO6.out.items Fd.enc_len, HO6.out.room, hm5, HB6.out⟩
  | false =>
    go_wp2_with fail
    refine (below_any w.heap.size a n c 100 (by omega) (by omega) _ HD4.out.1).mono ?_
    rintro e w6 ⟨x, hx0, hx1, rfl, hd6⟩
    have HO6 := Lib.hid (HF4.out.only hd6.2 HF4.out.span (Or.inl hlt))
    have HD6 := Lib.hid (HD4.out.trans hd6)
    have HB6 := Lib.hid (HB1.out.trans (HD6.out.below (Nat.le_refl _) hs1))
    clear hd6
    go_wp2_with fail
    go_ret2
    exact ⟨_, _, _, l, _, rfl, by omega, by omega, HO6.out.items Fd.enc_len, HO6.out.room, by omega, HB6.out⟩

set_option maxHeartbeats 2000000 in
set_option maxRecDepth 100000 in
theorem drawCountMessages_any (a : Option Addr) (n c : Nat) (w : World) (h : Code w a n) :
    Calls Try.prog 20 #[.slice a n c] w (DrewFI (-1) (6 - 1 - 1) w) := by
  have H := Lib.hid h
  clear h
  go_enter Try.func20, Try.ntmps20
  go_wp2_with fail
  refine (new_any a n c H.out.2 w H.out.1).mono ?_
  rintro e w1 ⟨rfl, hc1, hb1⟩
  have HC1 := Lib.hid hc1
  have HB1 := Lib.hid hb1
  have hs1 := hb1.size
  have hlt := hc1.lt
  clear hc1 hb1
  go_wp2_with fail
  refine (drawF_any w.heap.size a n c w1 HC1.out).mono ?_
  rintro e w2 ⟨gf, fn, fc, l, rfl, ho2, hm1, hm5, hfm, hd2⟩
  have HF2 := Lib.hid ho2
  have HD2 := Lib.hid hd2
  have hs2 := hd2.2.size
  clear ho2 hd2 hfm
  go_wp2_with fail
  refine (once_any w.heap.size a n c 8 (by omega) (by omega) _ HD2.out.1).mono ?_
  rintro e w4 ⟨tb, rfl, hd4⟩
  have HF4 := Lib.hid (HF2.out.only hd4.2 HF2.out.span (Or.inl hlt))
  have HD4 := Lib.hid (HD2.out.trans hd4)
  have hs4 := hd4.2.size
  clear hd4
  cases tb with
  | true =>
    go_wp2_with fail
    refine (anyF_any w.heap.size a n c w4 HD4.out.1).mono ?_
    rintro e w5 ⟨f5, m5, c5, l5, rfl, ho5, hm5, hfm5, hd5⟩
    have HO5 := Lib.hid ho5
    have HD5 := Lib.hid (HD4.out.trans hd5)
    have hlt5 : w.heap.size < w4.heap.size := by omega
    clear ho5 hd5
    go_wp2_with fail
    refine (below_any w.heap.size a n c 6 (by omega) (by omega) _ HD5.out.1).mono ?_
    rintro e w6 ⟨x, hx0, hx1, rfl, hd6⟩
    have HO6 := Lib.hid (HO5.out.only hd6.2 HO5.out.span (Or.inl hlt5))
    have HD6 := Lib.hid (HD5.out.trans hd6)
    have HB6 := Lib.hid (HB1.out.trans (HD6.out.below (Nat.le_refl _) hs1))
    clear hd6
    go_wp2_with fail
    go_ret2
    exact ⟨_, _, _, l5, _, rfl, by omega, by omega, HO6.out.items Fd.enc_len, HO6.out.room, hm5, HB6.out⟩
  | false =>
    go_wp2_with fail
    refine (below_any w.heap.size a n c 6 (by omega) (by omega) _ HD4.out.1).mono ?_
    rintro e w6 ⟨x, hx0, hx1, rfl, hd6⟩
    have HO6 := Lib.hid (HF4.out.only hd6.2 HF4.out.span (Or.inl hlt))
    have HD6 := Lib.hid (HD4.out.trans hd6)
    have HB6 := Lib.hid (HB1.out.trans (HD6.out.below (Nat.le_refl _) hs1))
    clear hd6
    go_wp2_with fail
    go_ret2
    exact ⟨_, _, _, l, _, rfl, by omega, by omega, HO6.out.items Fd.enc_len, HO6.out.room, by omega, HB6.out⟩
end Go.Proofs.Ytjmabidahofbbaa
