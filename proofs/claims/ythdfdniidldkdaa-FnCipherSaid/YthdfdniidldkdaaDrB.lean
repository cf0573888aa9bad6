/- Draws of byte strings. -/
import Derived.Test.YthdfdniidldkdaaDr
import Derived.Test.YthdfdniidldkdaaByteS
namespace Go.Proofs.Ythdfdniidldkdaa
open Go.ChangeShapes Go.WideShapes Go.ChangeAt Go.RowKit
set_option linter.unusedVariables false

/-- What a draw of some bytes leaves. -/
def DrewBytes (b : Nat) (a : Option Addr) (n c : Nat) (m : Nat) (w : World) (e : Ending) (w' : World) : Prop :=
  ∃ (a' : Option Addr) (n' c' : Nat) (l : List Int), e = .returned (.slice a' n' c') ∧ Own .u8 5 w' w.heap.size a' n' c' l ∧ Bs l ∧ l.length = m ∧ Drawn b a n c w w'
set_option maxRecDepth 100000 in
theorem bytes_any (b : Nat) (a : Option Addr) (n c m : Nat) (hm : m ≤ 1000) (w : World) (hc : Curs w b a n c) :
    Calls Try.prog 38 #[.pointer (some ⟨b, 0, none⟩), .int .i64 m] w (DrewBytes b a n c m w) := by
  have hblt := hc.lt
  have H := Lib.hid hc
  clear hc
  obtain ⟨i0, hi, hz0, hz1, hz2⟩ := info_parts infoByteS
  have HI := Lib.hid (And.intro hi (And.intro hz0 (And.intro hz1 hz2)))
  clear hi hz0 hz1 hz2
  go_enter Try.func38, Try.ntmps38
  go_wp2
  go_loopw [5, 6] (fun v i wr => ∃ (a' : Option Addr) (c' j : Nat) (l : List Int), v = .slice a' j c' ∧ i = .int .i64 j ∧ j ≤ m ∧ Own .u8 5 wr w.heap.size a' j c' l ∧ Bs l ∧ Drawn b a n c w wr) (fun _ i _ => m - (intOf i).toNat)
  case atStart => exact ⟨_, 0, 0, [], rfl, rfl, Nat.zero_le _, Own.empty (Nat.le_refl _), Bs.nil, (Drawn.refl H.out).same (alloc_same _ _)⟩
  case round =>
    obtain ⟨a', c', j, l, rfl, rfl, hj, ho, hB, hd⟩ := hrel
    have hsz : w.heap.size ≤ wr.heap.size := hd.2.size
    have HO := Lib.hid ho
    have HS := Lib.hid ho.span
    have HBs := Lib.hid hB
    have HD := Lib.hid hd
    clear ho hB hd
    by_cases hlt : j < m
    · go_wp2_with fail
      refine (step_any b a n c _ HD.out.1).mono ?_
      rintro e w1 ⟨x, hx0, hx1, rfl, hd1⟩
      have hs1 : wr.heap.size ≤ w1.heap.size := hd1.2.size
      have HO1 := Lib.hid (HO.out.only hd1.2 HS.out (Or.inl hblt))
      have HD1 := Lib.hid (HD.out.trans hd1)
      clear hd1
      go_wp2_with (at_builtin; refine wpl_app _ rfl (.tmp 13) (.tmp 17) 22 rfl .u8 5 i0 (.int .u8 0) 1 Try.underlying22 HI.out.1 HI.out.2.1 HI.out.2.2.1 HI.out.2.2.2 rfl rfl (HO1.out.alloc _) rfl (nums_new _ _ _ _) (by omega) ?c1 ?c2 ?_)
      case c1 => omega
      case c2 => simp; omega
      intro a2 c2 w2 ho2 hb2
      have HO2 := Lib.hid ho2
      have HB2 := Lib.hid hb2
      clear ho2 hb2
      go_wp2
      go_roundw
      case rel => exact ⟨a2, c2, j + 1, _, rfl, by go_num, by omega, HO2.out, HBs.out.append (Bs.cons hx0 hx1 Bs.nil), (HD1.out.same (alloc_same _ _)).under H.out HB2.out (Nat.le_refl _)⟩
      case measure => simp [intOf]; omega
    · obtain rfl : j = m := by omega
      go_wp2
      go_ret
      exact ⟨a', j, c', l, rfl, HO.out, HBs.out, HO.out.len, HD.out⟩

end Go.Proofs.Ythdfdniidldkdaa
