/- The messages that chapter 5's law draws. -/
import Derived.Test.YtpbdfbpcjeajbaaDrV2
import Derived.Deep.RegionHeld3
namespace Go.Proofs.Ytpbdfbpcjeajbaa
open Go.ChangeShapes Go.WideShapes Go.ChangeAt Go.RowKit
set_option linter.unusedVariables false
set_option linter.unusedSimpArgs false

set_option maxRecDepth 100000 in
theorem drawFitsFormat_any (a : Option Addr) (n c : Nat) (w : World) (h : Code w a n) :
    Calls Try.prog 39 #[.slice a n c] w fun e w' => ∃ (f : Option Addr) (fn fc : Nat) (l : List Fd) (ao : Option Addr) (m co : Nat) (v : List Vl), e = .returned (.tuple #[.slice f fn fc, .slice ao m co]) ∧ Fds w' f fn l ∧ (fn ≤ fc ∧ (fc : Int) ≤ 9223372036854775807) ∧ fn ≤ 7 ∧ Vals w' ao m v ∧ m ≤ 6 ∧ Vok 6 v ∧ Below w.heap.size w w' := by
  have H := Lib.hid h
  clear h
  go_enter Try.func39, Try.ntmps39
  go_wp2_with fail
  refine (new_any a n c H.out.2 w H.out.1).mono ?_
  rintro e w1 ⟨rfl, hc1, hb1⟩
  have hs1 := hb1.size
  go_wp2_with fail
  refine (anyV_any w.heap.size a n c w1 hc1).mono ?_
  rintro e w2 ⟨f, fn, fc, l, ao, m, co, v, rfl, ho, hn, hfm, hv, hm, hvk, hd⟩
  have HF := Lib.hid (ho.items Fd.enc_len)
  have HR := Lib.hid ho.room
  have HV := Lib.hid hv.vals
  have HVK := Lib.hid hvk
  have HB := Lib.hid (hb1.trans (hd.below (Nat.le_refl _) hs1))
  clear ho hd hc1 hb1 hv hvk hfm
  go_wp2_with fail
  go_ret2
  exact ⟨f, fn, fc, l, ao, m, co, v, rfl, HF.out, HR.out, hn, HV.out, hm, HVK.out, HB.out⟩
end Go.Proofs.Ytpbdfbpcjeajbaa
