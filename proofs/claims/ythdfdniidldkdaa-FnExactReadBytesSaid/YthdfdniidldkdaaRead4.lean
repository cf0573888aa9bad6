/- The model's reading of a byte string. -/
import Derived.Test.YthdfdniidldkdaaRead3
namespace Go.Proofs.Ythdfdniidldkdaa
open Go.ChangeShapes Go.WideShapes Go.ChangeAt Go.RowKit
set_option linter.unusedVariables false

set_option maxRecDepth 100000 in
theorem srbNone_any (a : Option Addr) (n c : Nat) (off most : Int) (l : List Int) (w : World) (h : Nums .u8 w a n l) (hB : Bs l) (hc : n ≤ c ∧ (c : Int) ≤ 9223372036854775807) (hr : rd l off = none) :
    Calls Try.prog 34 #[.slice a n c, .int .i64 off, .int .i64 most] w (BytesAs (rdBytes l off most) w) := by
  have H := Lib.hid h
  have HN := Lib.hid (rdBytes_none (most := most) hr)
  have HR := Lib.hid hr
  clear h hr
  go_enter Try.func34, Try.ntmps34
  go_wp2_with fail
  refine (specRead_none HR.out H.out hB).mono ?_
  rintro e w1 ⟨rfl, hb1⟩
  have HB1 := Lib.hid hb1
  clear hb1
  go_wp2
  go_ret3
  exact bytes_none HN.out ⟨_, 0, 0, rfl, Own.empty HB1.out.size, HB1.out.alloc HB1.out.size _⟩
set_option maxRecDepth 100000 in
theorem srbNo_any (a : Option Addr) (n c j m : Nat) (off most : Int) (l : List Int) (w : World) (h : Nums .u8 w a n l) (hB : Bs l) (hc : n ≤ c ∧ (c : Int) ≤ 9223372036854775807) (hr : rd l off = some ((m : Int), j)) (hno : ¬ ((m : Int) ≤ most ∧ (m : Int) ≤ (n : Int) - j)) :
    Calls Try.prog 34 #[.slice a n c, .int .i64 off, .int .i64 most] w (BytesAs (rdBytes l off most) w) := by
  have H := Lib.hid h
  have HN := Lib.hid (rdBytes_no (most := most) hr (by rw [h.len]; exact hno))
  have hfit := h.fits
  have hf := rd_facts hB hr
  have hj : j ≤ n := by have := h.len; omega
  have hm : m ≤ 1000000000000 := by omega
  have HR := Lib.hid hr
  clear h hr hf
  by_cases h1 : (m : Int) ≤ most
  · have h2 : (n : Int) - j < m := by omega
    clear hno
    go_enter Try.func34, Try.ntmps34
    go_wp2_with fail
    refine (specRead_some HR.out H.out hB).mono ?_
    rintro e w1 ⟨rfl, hb1⟩
    have HB1 := Lib.hid hb1
    clear hb1
    go_wp2
    go_ret3
    exact bytes_none HN.out ⟨_, 0, 0, rfl, Own.empty HB1.out.size, HB1.out.alloc HB1.out.size _⟩
  · clear hno
    go_enter Try.func34, Try.ntmps34
    go_wp2_with fail
    refine (specRead_some HR.out H.out hB).mono ?_
    rintro e w1 ⟨rfl, hb1⟩
    have HB1 := Lib.hid hb1
    clear hb1
    go_wp2
    go_ret3
    exact bytes_none HN.out ⟨_, 0, 0, rfl, Own.empty HB1.out.size, HB1.out.alloc HB1.out.size _⟩
set_option maxRecDepth 100000 in
theorem srbYes_any (a : Option Addr) (n c j m : Nat) (off most : Int) (l : List Int) (w : World) (h : Nums .u8 w a n l) (hB : Bs l) (hc : n ≤ c ∧ (c : Int) ≤ 9223372036854775807) (hr : rd l off = some ((m : Int), j)) (h1 : (m : Int) ≤ most) (h2 : (m : Int) ≤ (n : Int) - j) :
    Calls Try.prog 34 #[.slice a n c, .int .i64 off, .int .i64 most] w (BytesAs (rdBytes l off most) w) := by
  have hy := rdBytes_yes (most := most) hr (by rw [h.len]; exact ⟨h1, h2⟩)
  rw [Int.toNat_natCast] at hy
  have H := Lib.hid h
  have HN := Lib.hid hy
  have hfit := h.fits
  have hf := rd_facts hB hr
  have hm : m ≤ 1000000000000 := by omega
  obtain ⟨hc1, hc2⟩ := hc
  have HR := Lib.hid hr
  clear h hr hf hy
  obtain ⟨i0, hi, hz0, hz1, hz2⟩ := info_parts infoByteS
  have HI := Lib.hid (And.intro hi (And.intro hz0 (And.intro hz1 hz2)))
  clear hi hz0 hz1 hz2
  by_cases h0 : c = j
  · obtain rfl : m = 0 := by omega
    subst h0
    go_enter Try.func34, Try.ntmps34
    go_wp2_with fail
    refine (specRead_some HR.out H.out hB).mono ?_
    rintro e w1 ⟨rfl, hb1⟩
    have HB1 := Lib.hid hb1
    clear hb1
    go_wp2_with (at_builtin; refine wpl_app (l' := []) _ rfl (.tmp 35) (.tmp 41) 22 rfl .u8 5 i0 (.int .u8 0) 1 Try.underlying22 HI.out.1 HI.out.2.1 HI.out.2.2.1 HI.out.2.2.2 rfl rfl (Own.empty (B := w.heap.size) HB1.out.size) rfl Nums.none (by omega) ?c1 ?c2 ?_)
    case c1 => omega
    case c2 => have := HB1.out.size; simp; omega
    intro a2 c2 w2 ho2 hb2
    have HO2 := Lib.hid ho2
    have HB2 := Lib.hid (HB1.out.trans (((alloc_same w1 _).mono HB1.out.size).trans hb2))
    clear ho2 hb2
    go_wp2
    go_ret3
    exact bytes_some HN.out ⟨a2, 0, c2, by simp, by simpa using HO2.out, HB2.out⟩
  · go_enter Try.func34, Try.ntmps34
    go_wp2_with fail
    refine (specRead_some HR.out H.out hB).mono ?_
    rintro e w1 ⟨rfl, hb1⟩
    have HB1 := Lib.hid hb1
    clear hb1
    have hnum : Nums .u8 (w1.alloc (.cells #[] 5)) (a.map (·.add j)) (j + m - j) ((l.drop j).take m) := by
      rw [Nat.add_sub_cancel_left]
      exact ((H.out.same HB1.out).same (alloc_same _ _)).sub j m (by omega) (fun _ ad e => by rw [e]; rfl)
    have HM := Lib.hid hnum
    clear hnum
    go_wp2_with (at_builtin; refine wpl_app _ rfl (.tmp 35) (.tmp 41) 22 rfl .u8 5 i0 (.int .u8 0) 1 Try.underlying22 HI.out.1 HI.out.2.1 HI.out.2.2.1 HI.out.2.2.2 rfl rfl (Own.empty (B := w.heap.size) HB1.out.size) rfl HM.out (by omega) ?c3 ?c4 ?_)
    case c3 => omega
    case c4 => have := HB1.out.size; simp; omega
    intro a2 c2 w2 ho2 hb2
    have HO2 := Lib.hid ho2
    have HB2 := Lib.hid (HB1.out.trans (((alloc_same w1 _).mono HB1.out.size).trans hb2))
    clear ho2 hb2
    go_wp2
    go_ret3
    exact bytes_some HN.out ⟨a2, m, c2, by simp, by simpa using HO2.out, HB2.out⟩
theorem specReadBytes_any (a : Option Addr) (n c : Nat) (off most : Int) (l : List Int) (w : World) (h : Nums .u8 w a n l) (hB : Bs l) (hc : n ≤ c ∧ (c : Int) ≤ 9223372036854775807) :
    Calls Try.prog 34 #[.slice a n c, .int .i64 off, .int .i64 most] w (BytesAs (rdBytes l off most) w) := by
  cases hr : rd l off with
  | none => exact srbNone_any a n c off most l w h hB hc hr
  | some p =>
    obtain ⟨x, j⟩ := p
    have hf := rd_facts hB hr
    obtain ⟨m, rfl⟩ : ∃ m : Nat, x = m := ⟨x.toNat, by omega⟩
    by_cases h1 : (m : Int) ≤ most ∧ (m : Int) ≤ (n : Int) - j
    · exact srbYes_any a n c j m off most l w h hB hc hr h1.1 h1.2
    · exact srbNo_any a n c j m off most l w h hB hc hr h1
theorem readBytes_case {r : Option (List Int × Nat)} {a : Option Addr} {n c : Nat} {off most : Int} {l : List Int} (hr : rdBytes l off most = r) {w : World} (h : Nums .u8 w a n l) (hB : Bs l) (hc : n ≤ c ∧ (c : Int) ≤ 9223372036854775807) :
    Calls Try.prog 20 #[.slice a n c, .int .i64 off, .int .i64 most] w (BytesAs r w) := by
  rw [← hr]; exact readBytes_any a n c off most l w h hB hc
theorem specReadBytes_case {r : Option (List Int × Nat)} {a : Option Addr} {n c : Nat} {off most : Int} {l : List Int} (hr : rdBytes l off most = r) {w : World} (h : Nums .u8 w a n l) (hB : Bs l) (hc : n ≤ c ∧ (c : Int) ≤ 9223372036854775807) :
    Calls Try.prog 34 #[.slice a n c, .int .i64 off, .int .i64 most] w (BytesAs r w) := by
  rw [← hr]; exact specReadBytes_any a n c off most l w h hB hc
theorem rdBytes_len {l : List Int} {off most : Int} {p : List Int × Nat} (h : rdBytes l off most = some p) : p.1.length ≤ l.length := by
  unfold rdBytes at h
  split at h
  · cases h
  · split at h
    · injection h with h
      rw [← h, List.length_take, List.length_drop]
      omega
    · cases h
end Go.Proofs.Ythdfdniidldkdaa
