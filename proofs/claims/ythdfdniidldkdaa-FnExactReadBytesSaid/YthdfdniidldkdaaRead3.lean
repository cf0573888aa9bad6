/- Byte strings are read as the mathematics says, by the program and by its model. -/
import Derived.Test.YthdfdniidldkdaaRead2
import Derived.Test.YthdfdniidldkdaaEnc3
namespace Go.Proofs.Ythdfdniidldkdaa
open Go.ChangeShapes Go.WideShapes Go.ChangeAt Go.RowKit
set_option linter.unusedVariables false

/-- What a function leaves that makes a slice of integers and hands two values back beside it. -/
def MadeTup (k : IntKind) (t : TypeId) (B : Nat) (l : List Int) (x y : Value) (w : World) (e : Ending) (w' : World) : Prop :=
  ∃ a n c, e = .returned (.tuple #[.slice a n c, x, y]) ∧ Own k t w' B a n c l ∧ Below B w w'
def BytesAs (r : Option (List Int × Nat)) (w : World) (e : Ending) (w' : World) : Prop :=
  match r with
  | some (l, j) => MadeTup .u8 5 w.heap.size l (.int .i64 j) (.bool true) w e w'
  | none => MadeTup .u8 5 w.heap.size [] (.int .i64 0) (.bool false) w e w'
theorem bytes_none {r : Option (List Int × Nat)} (hr : r = none) {w : World} {e : Ending} {w' : World} (h : MadeTup .u8 5 w.heap.size [] (.int .i64 0) (.bool false) w e w') : BytesAs r w e w' := by
  subst hr; exact h
theorem bytes_some {r : Option (List Int × Nat)} {l : List Int} {j : Nat} (hr : r = some (l, j)) {w : World} {e : Ending} {w' : World} (h : MadeTup .u8 5 w.heap.size l (.int .i64 j) (.bool true) w e w') : BytesAs r w e w' := by
  subst hr; exact h

set_option maxRecDepth 100000 in
theorem rbNone_any (a : Option Addr) (n c : Nat) (off most : Int) (l : List Int) (w : World) (h : Nums .u8 w a n l) (hB : Bs l) (hc : n ≤ c ∧ (c : Int) ≤ 9223372036854775807) (hr : rd l off = none) :
    Calls Try.prog 20 #[.slice a n c, .int .i64 off, .int .i64 most] w (BytesAs (rdBytes l off most) w) := by
  have H := Lib.hid h
  have HN := Lib.hid (rdBytes_none (most := most) hr)
  have HR := Lib.hid hr
  clear h hr
  go_enter Try.func20, Try.ntmps20
  go_wp2_with fail
  refine (read_none HR.out H.out hB hc).mono ?_
  rintro e w1 ⟨rfl, hb1⟩
  have HB1 := Lib.hid hb1
  clear hb1
  go_wp2
  go_ret3
  exact bytes_none HN.out ⟨_, 0, 0, rfl, Own.empty HB1.out.size, HB1.out.alloc HB1.out.size _⟩
set_option maxRecDepth 100000 in
theorem rbNo_any (a : Option Addr) (n c j m : Nat) (off most : Int) (l : List Int) (w : World) (h : Nums .u8 w a n l) (hB : Bs l) (hc : n ≤ c ∧ (c : Int) ≤ 9223372036854775807) (hr : rd l off = some ((m : Int), j)) (hno : ¬ ((m : Int) ≤ most ∧ (m : Int) ≤ (n : Int) - j)) :
    Calls Try.prog 20 #[.slice a n c, .int .i64 off, .int .i64 most] w (BytesAs (rdBytes l off most) w) := by
  have H := Lib.hid h
  have HN := Lib.hid (rdBytes_no (most := most) hr (by rw [h.len]; exact hno))
  have hfit := h.fits
  have hf := rd_facts hB hr
  have hj : j ≤ n := by have := h.len; omega
  have hm : m ≤ 1000000000000 := by omega
  have HR := Lib.hid hr
  clear h hr hf
  by_cases h1 : (m : Int) ≤ most
  · have h2 : (n : Int) - j < m := by omega
    clear hno
    go_enter Try.func20, Try.ntmps20
    go_wp2_with fail
    refine (read_some HR.out H.out hB hc).mono ?_
    rintro e w1 ⟨rfl, hb1⟩
    have HB1 := Lib.hid hb1
    clear hb1
    go_wp2
    go_ret3
    exact bytes_none HN.out ⟨_, 0, 0, rfl, Own.empty HB1.out.size, HB1.out.alloc HB1.out.size _⟩
  · clear hno
    go_enter Try.func20, Try.ntmps20
    go_wp2_with fail
    refine (read_some HR.out H.out hB hc).mono ?_
    rintro e w1 ⟨rfl, hb1⟩
    have HB1 := Lib.hid hb1
    clear hb1
    go_wp2
    go_ret3
    exact bytes_none HN.out ⟨_, 0, 0, rfl, Own.empty HB1.out.size, HB1.out.alloc HB1.out.size _⟩
set_option maxRecDepth 100000 in
theorem rbYes_any (a : Option Addr) (n c j m : Nat) (off most : Int) (l : List Int) (w : World) (h : Nums .u8 w a n l) (hB : Bs l) (hc : n ≤ c ∧ (c : Int) ≤ 9223372036854775807) (hr : rd l off = some ((m : Int), j)) (h1 : (m : Int) ≤ most) (h2 : (m : Int) ≤ (n : Int) - j) :
    Calls Try.prog 20 #[.slice a n c, .int .i64 off, .int .i64 most] w (BytesAs (rdBytes l off most) w) := by
  have hy := rdBytes_yes (most := most) hr (by rw [h.len]; exact ⟨h1, h2⟩)
  rw [Int.toNat_natCast] at hy
  have H := Lib.hid h
  have HN := Lib.hid hy
  have hfit := h.fits
  have hf := rd_facts hB hr
  have hm : m ≤ 1000000000000 := by omega
  obtain ⟨hc1, hc2⟩ := hc
  have HR := Lib.hid hr
  clear h hr hf hy
  by_cases h0 : m = 0
  · subst h0
    go_enter Try.func20, Try.ntmps20
    go_wp2_with fail
    refine (read_some HR.out H.out hB ⟨hc1, hc2⟩).mono ?_
    rintro e w1 ⟨rfl, hb1⟩
    have HB1 := Lib.hid hb1
    clear hb1
    go_wp2_with fail
    refine (copy_any a 0 0 [] _ Nums.none (by omega)).mono ?_
    rintro e w2 ⟨a2, n2, c2, rfl, ho2, hb2⟩
    have HO2 := Lib.hid (ho2.lower HB1.out.size)
    have HB2 := Lib.hid (HB1.out.trans (hb2.mono HB1.out.size))
    clear ho2 hb2
    go_wp2
    go_ret3
    exact bytes_some HN.out ⟨a2, n2, c2, by simp, by simpa using HO2.out, HB2.out⟩
  · have h3 : 0 < m := by omega
    clear h0
    go_enter Try.func20, Try.ntmps20
    go_wp2_with fail
    refine (read_some HR.out H.out hB ⟨hc1, hc2⟩).mono ?_
    rintro e w1 ⟨rfl, hb1⟩
    have HB1 := Lib.hid hb1
    clear hb1
    have hnum : Nums .u8 w1 (a.map (·.add j)) m ((l.drop j).take m) := (H.out.same HB1.out).sub j m (by omega) (fun _ ad e => by rw [e]; rfl)
    have HM := Lib.hid hnum
    clear hnum
    go_wp2_with fail
    refine (copy_any _ m m _ _ HM.out hm).mono ?_
    rintro e w2 ⟨a2, n2, c2, rfl, ho2, hb2⟩
    have HO2 := Lib.hid (ho2.lower HB1.out.size)
    have HB2 := Lib.hid (HB1.out.trans (hb2.mono HB1.out.size))
    clear ho2 hb2
    go_wp2
    go_ret3
    exact bytes_some HN.out ⟨a2, n2, c2, by simp, HO2.out, HB2.out⟩
theorem readBytes_any (a : Option Addr) (n c : Nat) (off most : Int) (l : List Int) (w : World) (h : Nums .u8 w a n l) (hB : Bs l) (hc : n ≤ c ∧ (c : Int) ≤ 9223372036854775807) :
    Calls Try.prog 20 #[.slice a n c, .int .i64 off, .int .i64 most] w (BytesAs (rdBytes l off most) w) := by
  cases hr : rd l off with
  | none => exact rbNone_any a n c off most l w h hB hc hr
  | some p =>
    obtain ⟨x, j⟩ := p
    have hf := rd_facts hB hr
    obtain ⟨m, rfl⟩ : ∃ m : Nat, x = m := ⟨x.toNat, by omega⟩
    by_cases h1 : (m : Int) ≤ most ∧ (m : Int) ≤ (n : Int) - j
    · exact rbYes_any a n c j m off most l w h hB hc hr h1.1 h1.2
    · exact rbNo_any a n c j m off most l w h hB hc hr h1
end Go.Proofs.Ythdfdniidldkdaa
