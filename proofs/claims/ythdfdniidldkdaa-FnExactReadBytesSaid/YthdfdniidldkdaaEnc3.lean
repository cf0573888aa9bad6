/- What the model appends for a number, for a byte string, for a list of numbers. -/
import Derived.Test.YthdfdniidldkdaaEnc2
namespace Go.Proofs.Ythdfdniidldkdaa
open Go.ChangeShapes Go.WideShapes Go.ChangeAt Go.RowKit
set_option linter.unusedVariables false

set_option maxRecDepth 100000 in
theorem specAppendIn_any (a : Option Addr) (n c m : Nat) (l : List Int) (w : World) (h : Nums .u8 w a n l) (hn : n ≤ 1000000000000) (hm : m ≤ 1000000000000) :
    Calls Try.prog 28 #[.slice a n c, .int .i64 m] w (Made .u8 5 w.heap.size (l ++ uv m) w) := by
  have H := Lib.hid h
  have HL := Lib.hid h.len
  clear h
  obtain ⟨i0, hi, hz0, hz1, hz2⟩ := info_parts infoByteS
  have HI := Lib.hid (And.intro hi (And.intro hz0 (And.intro hz1 hz2)))
  clear hi hz0 hz1 hz2
  go_enter Try.func28, Try.ntmps28
  go_wp2_with (at_builtin; refine wpl_app _ rfl (.tmp 6) (.tmp 7) 22 rfl .u8 5 i0 (.int .u8 0) 1 Try.underlying22 HI.out.1 HI.out.2.1 HI.out.2.2.1 HI.out.2.2.2 rfl rfl (Own.empty (Nat.le_refl _)) rfl (H.out.same (alloc_same _ _)) (by omega) ?c1 ?c2 ?_)
  case c1 => omega
  case c2 => simp
  intro a1 c1 w1 ho1 hb1
  have HO1 : Hid (Own .u8 5 w1 w.heap.size a1 n c1 l) := Lib.hid (by simpa using ho1)
  have HB1 := Lib.hid ((alloc_same w (.cells #[] 5)).trans hb1)
  clear ho1 hb1
  go_wp2_with fail
  refine (l1In_yes (by omega) (by omega) _).mono ?_
  rintro e w' ⟨rfl, rfl⟩
  go_wp2
  go_loopw [5, 1] (fun v x wr => ∃ (a' : Option Addr) (n' c' q : Nat) (l' : List Int), v = .slice a' n' c' ∧ x = .int .i64 q ∧ q ≤ m ∧ Rest l m l' q ∧ Own .u8 5 wr w.heap.size a' n' c' l' ∧ Below w.heap.size w wr) (fun _ x _ => (intOf x).toNat)
  case atStart => exact ⟨a1, n, c1, m, l, rfl, rfl, Nat.le_refl _, rfl, HO1.out, HB1.out⟩
  case round =>
    obtain ⟨a', n', c', q, l', rfl, rfl, hq, hr, ho, hb⟩ := hrel
    have hlen : n' + 1 ≤ n + 6 := by have := hr.len hm; have := ho.len; have := HL.out; omega
    have HR := Lib.hid hr
    have HO := Lib.hid ho
    have HB := Lib.hid hb
    clear hr ho hb
    by_cases hlt : 127 < q
    · have hg := group_byte q (by omega)
      go_wp2_with (at_builtin; refine wpl_app _ rfl (.tmp 15) (.tmp 20) 22 rfl .u8 5 i0 (.int .u8 0) 1 Try.underlying22 HI.out.1 HI.out.2.1 HI.out.2.2.1 HI.out.2.2.2 rfl rfl (HO.out.alloc _) rfl (nums_new _ _ _ _) (by omega) ?c3 ?c4 ?_)
      case c3 => omega
      case c4 => have := HB.out.size; simp; omega
      intro a2 c2 w2 ho2 hb2
      have HO2 := Lib.hid ho2
      have HB2 := Lib.hid hb2
      clear ho2 hb2 hg
      go_wp2
      go_roundw
      case rel => exact ⟨a2, n' + 1, c2, q / 128, _, rfl, by go_num, by omega, HR.out.step (by omega), HO2.out, HB.out.trans (((alloc_same _ _).mono (by have := HB.out.size; omega)).trans HB2.out)⟩
      case measure => simp [intOf]; omega
    · go_wp2_with (at_builtin; refine wpl_app _ rfl (.tmp 24) (.tmp 27) 22 rfl .u8 5 i0 (.int .u8 0) 1 Try.underlying22 HI.out.1 HI.out.2.1 HI.out.2.2.1 HI.out.2.2.2 rfl rfl (HO.out.alloc _) rfl (nums_new _ _ _ _) (by omega) ?c5 ?c6 ?_)
      case c5 => omega
      case c6 => have := HB.out.size; simp; omega
      intro a2 c2 w2 ho2 hb2
      have HO2 := Lib.hid ho2
      have HB2 := Lib.hid hb2
      clear ho2 hb2
      go_wp2
      go_ret
      have h1 := HO2.out
      rw [HR.out.last (by omega)] at h1
      exact ⟨a2, n' + 1, c2, rfl, h1, HB.out.trans (((alloc_same _ _).mono (by have := HB.out.size; omega)).trans HB2.out)⟩

set_option maxRecDepth 100000 in
theorem specAppendOut_any (a : Option Addr) (n c : Nat) (x : Int) (l : List Int) (w : World) (h : Nums .u8 w a n l) (hn : n ≤ 1000000000000) (hx : ¬ (0 ≤ x ∧ x ≤ 1000000000000)) :
    Calls Try.prog 28 #[.slice a n c, .int .i64 x] w (Made .u8 5 w.heap.size (l ++ []) w) := by
  have H := Lib.hid h
  have HX := Lib.hid hx
  clear h hx
  obtain ⟨i0, hi, hz0, hz1, hz2⟩ := info_parts infoByteS
  have HI := Lib.hid (And.intro hi (And.intro hz0 (And.intro hz1 hz2)))
  clear hi hz0 hz1 hz2
  go_enter Try.func28, Try.ntmps28
  go_wp2_with (at_builtin; refine wpl_app _ rfl (.tmp 6) (.tmp 7) 22 rfl .u8 5 i0 (.int .u8 0) 1 Try.underlying22 HI.out.1 HI.out.2.1 HI.out.2.2.1 HI.out.2.2.2 rfl rfl (Own.empty (Nat.le_refl _)) rfl (H.out.same (alloc_same _ _)) (by omega) ?c1 ?c2 ?_)
  case c1 => omega
  case c2 => simp
  intro a1 c1 w1 ho1 hb1
  have HO1 : Hid (Own .u8 5 w1 w.heap.size a1 n c1 l) := Lib.hid (by simpa using ho1)
  have HB1 := Lib.hid ((alloc_same w (.cells #[] 5)).trans hb1)
  clear ho1 hb1
  go_wp2_with fail
  refine (l1In_no HX.out _).mono ?_
  rintro e w' ⟨rfl, rfl⟩
  go_wp2
  go_ret
  exact ⟨a1, n, c1, rfl, by rw [List.append_nil]; exact HO1.out, HB1.out⟩
theorem specAppend_any (a : Option Addr) (n c : Nat) (x : Int) (l : List Int) (w : World) (h : Nums .u8 w a n l) (hn : n ≤ 1000000000000) :
    Calls Try.prog 28 #[.slice a n c, .int .i64 x] w (Made .u8 5 w.heap.size (l ++ enc x) w) := by
  by_cases hx : 0 ≤ x ∧ x ≤ 1000000000000
  · rw [enc_in hx.1 hx.2]
    obtain ⟨m, rfl⟩ : ∃ m : Nat, x = m := ⟨x.toNat, by omega⟩
    exact specAppendIn_any a n c m l w h hn (by omega)
  · rw [enc_out hx]
    exact specAppendOut_any a n c x l w h hn hx

set_option maxRecDepth 100000 in
theorem specAppendBytes_any (a b : Option Addr) (n c m d : Nat) (l l' : List Int) (w : World) (h : Nums .u8 w a n l) (h' : Nums .u8 w b m l') (hn : n ≤ 1000000000000) (hm : m ≤ 1000000000000) :
    Calls Try.prog 33 #[.slice a n c, .slice b m d] w (Made .u8 5 w.heap.size (l ++ (enc m ++ l')) w) := by
  have H := Lib.hid h
  have H' := Lib.hid h'
  have hfit := h'.fits
  clear h h'
  obtain ⟨i0, hi, hz0, hz1, hz2⟩ := info_parts infoByteS
  have HI := Lib.hid (And.intro hi (And.intro hz0 (And.intro hz1 hz2)))
  clear hi hz0 hz1 hz2
  go_enter Try.func33, Try.ntmps33
  go_wp2_with fail
  refine (specAppend_any a n c m l _ H.out hn).mono ?_
  rintro e w2 ⟨a2, n2, c2, rfl, ho2, hb2⟩
  have h3 : n2 ≤ n + 6 := by have := ho2.len; rw [List.length_append] at this; have := enc_len m; have := H.out.len; omega
  have HO2 := Lib.hid ho2
  have HB2 := Lib.hid hb2
  clear ho2 hb2
  go_wp2_with (at_builtin; refine wpl_app _ rfl (.tmp 8) (.tmp 9) 22 rfl .u8 5 i0 (.int .u8 0) 1 Try.underlying22 HI.out.1 HI.out.2.1 HI.out.2.2.1 HI.out.2.2.2 rfl rfl HO2.out rfl (H'.out.same HB2.out) (by omega) ?c1 ?c2 ?_)
  case c1 => omega
  case c2 => exact HB2.out.size
  intro a3 c3 w3 ho3 hb3
  have HO3 := Lib.hid ho3
  have HB3 := Lib.hid hb3
  clear ho3 hb3
  go_wp2
  go_ret
  have h1 := HO3.out
  exact ⟨a3, n2 + m, c3, rfl, by simpa using h1, HB2.out.trans HB3.out⟩

theorem appendBytes_len (a b : Option Addr) (n c m d : Nat) (l l' : List Int) (w : World) (h : Nums .u8 w a n l) (h' : Nums .u8 w b m l') (hn : n ≤ 1000000000000) (hm : m ≤ 1000000000000) :
    Calls Try.prog 19 #[.slice a n c, .slice b m d] w (Made .u8 5 w.heap.size (l ++ (enc (l'.length : Int) ++ l')) w) := by
  rw [h'.len]
  exact appendBytes_any a b n c m d l l' w h h' hn hm
theorem specAppendBytes_len (a b : Option Addr) (n c m d : Nat) (l l' : List Int) (w : World) (h : Nums .u8 w a n l) (h' : Nums .u8 w b m l') (hn : n ≤ 1000000000000) (hm : m ≤ 1000000000000) :
    Calls Try.prog 33 #[.slice a n c, .slice b m d] w (Made .u8 5 w.heap.size (l ++ (enc (l'.length : Int) ++ l')) w) := by
  rw [h'.len]
  exact specAppendBytes_any a b n c m d l l' w h h' hn hm
end Go.Proofs.Ythdfdniidldkdaa
