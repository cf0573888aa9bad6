/- What is appended for a number, for a byte string, for a list of numbers: by the program and by its model. -/
import Derived.Test.YthdfdniidldkdaaEnc
namespace Go.Proofs.Ythdfdniidldkdaa
open Go.ChangeShapes Go.WideShapes Go.ChangeAt Go.RowKit
set_option linter.unusedVariables false

theorem Made.lower {k : IntKind} {t : TypeId} {B B' : Nat} {l : List Int} {w : World} {e : Ending} {w' : World} (h : Made k t B l w e w') (hB : B' ≤ B) : Made k t B' l w e w' := by
  obtain ⟨a, n, c, he, ho, hb⟩ := h
  exact ⟨a, n, c, he, ho.lower hB, hb.mono hB⟩

set_option maxRecDepth 100000 in
theorem addOut_any (B : Nat) (a : Option Addr) (n c : Nat) (x : Int) (l : List Int) (w : World) (h : Own .u8 5 w B a n c l) (hx : ¬ (0 ≤ x ∧ x ≤ 1000000000000)) :
    Calls Try.prog 41 #[.slice a n c, .int .i64 x] w (Made .u8 5 B (l ++ []) w) := by
  have H := Lib.hid h
  clear h
  have HX := Lib.hid hx
  clear hx
  go_enter Try.func41, Try.ntmps41
  go_wp2_with fail
  refine (in_no HX.out _).mono ?_
  rintro e w' ⟨rfl, rfl⟩
  go_wp2
  go_ret
  exact ⟨a, n, c, rfl, by rw [List.append_nil]; exact H.out, Below.refl _ _⟩
theorem add_any (B : Nat) (a : Option Addr) (n c : Nat) (x : Int) (l : List Int) (w : World) (h : Own .u8 5 w B a n c l) (hB : B ≤ w.heap.size) (hn : n ≤ 1000000000000) :
    Calls Try.prog 41 #[.slice a n c, .int .i64 x] w (Made .u8 5 B (l ++ enc x) w) := by
  by_cases hx : 0 ≤ x ∧ x ≤ 1000000000000
  · rw [enc_in hx.1 hx.2]
    obtain ⟨m, rfl⟩ : ∃ m : Nat, x = m := ⟨x.toNat, by omega⟩
    exact addIn_any B a n c m l w h hB hn (by omega)
  · rw [enc_out hx]
    exact addOut_any B a n c x l w h hx

set_option maxRecDepth 100000 in
theorem copy_any (a : Option Addr) (n c : Nat) (l : List Int) (w : World) (h : Nums .u8 w a n l) (hn : n ≤ 1000000000000) :
    Calls Try.prog 42 #[.slice a n c] w (Made .u8 5 w.heap.size l w) := by
  have H := Lib.hid h
  clear h
  obtain ⟨i0, hi, hz0, hz1, hz2⟩ := info_parts infoByteS
  have HI := Lib.hid (And.intro hi (And.intro hz0 (And.intro hz1 hz2)))
  clear hi hz0 hz1 hz2
  go_enter Try.func42, Try.ntmps42
  go_wp2_with (at_builtin; refine wpl_app _ rfl (.tmp 3) (.tmp 4) 22 rfl .u8 5 i0 (.int .u8 0) 1 Try.underlying22 HI.out.1 HI.out.2.1 HI.out.2.2.1 HI.out.2.2.2 rfl rfl (Own.empty (Nat.le_refl _)) rfl (H.out.same (alloc_same _ _)) (by omega) ?c1 ?c2 ?_)
  case c1 => omega
  case c2 => simp
  intro a2 c2 w2 ho2 hb2
  have HO2 := Lib.hid ho2
  have HB2 := Lib.hid hb2
  clear ho2 hb2
  go_wp2
  go_ret
  have h1 := HO2.out
  exact ⟨a2, n, c2, rfl, by simpa using h1, (alloc_same _ _).trans HB2.out⟩

set_option maxRecDepth 100000 in
theorem appendUvarint_any (a : Option Addr) (n c : Nat) (x : Int) (l : List Int) (w : World) (h : Nums .u8 w a n l) (hn : n ≤ 1000000000000) :
    Calls Try.prog 13 #[.slice a n c, .int .i64 x] w (Made .u8 5 w.heap.size (l ++ enc x) w) := by
  have H := Lib.hid h
  clear h
  go_enter Try.func13, Try.ntmps13
  go_wp2_with fail
  refine (copy_any a n c l _ H.out hn).mono ?_
  rintro e w1 ⟨a1, n1, c1, rfl, ho1, hb1⟩
  have h1 : n1 ≤ 1000000000000 := by have := ho1.len; have := H.out.len; omega
  have HO1 := Lib.hid ho1
  have HB1 := Lib.hid hb1
  clear ho1 hb1
  go_wp2_with fail
  refine (add_any w.heap.size a1 n1 c1 x l _ HO1.out HB1.out.size h1).mono ?_
  rintro e w2 ⟨a2, n2, c2, rfl, ho2, hb2⟩
  have HO2 := Lib.hid ho2
  have HB2 := Lib.hid hb2
  clear ho2 hb2
  go_wp2
  go_ret
  exact ⟨a2, n2, c2, rfl, HO2.out, HB1.out.trans HB2.out⟩

set_option maxRecDepth 100000 in
theorem appendBytes_any (a b : Option Addr) (n c m d : Nat) (l l' : List Int) (w : World) (h : Nums .u8 w a n l) (h' : Nums .u8 w b m l') (hn : n ≤ 1000000000000) (hm : m ≤ 1000000000000) :
    Calls Try.prog 19 #[.slice a n c, .slice b m d] w (Made .u8 5 w.heap.size (l ++ (enc m ++ l')) w) := by
  have H := Lib.hid h
  have H' := Lib.hid h'
  have hfit := h'.fits
  clear h h'
  obtain ⟨i0, hi, hz0, hz1, hz2⟩ := info_parts infoByteS
  have HI := Lib.hid (And.intro hi (And.intro hz0 (And.intro hz1 hz2)))
  clear hi hz0 hz1 hz2
  go_enter Try.func19, Try.ntmps19
  go_wp2_with fail
  refine (copy_any a n c l _ H.out hn).mono ?_
  rintro e w1 ⟨a1, n1, c1, rfl, ho1, hb1⟩
  have h1 : n1 = n := by have := ho1.len; have := H.out.len; omega
  have h2 : n1 ≤ 1000000000000 := by omega
  have HO1 := Lib.hid ho1
  have HB1 := Lib.hid hb1
  have HN1 := Lib.hid h1
  clear ho1 hb1 h1
  go_wp2_with fail
  refine (add_any w.heap.size a1 n1 c1 m l _ HO1.out HB1.out.size h2).mono ?_
  rintro e w2 ⟨a2, n2, c2, rfl, ho2, hb2⟩
  have h3 : n2 ≤ n + 6 := by have := ho2.len; rw [List.length_append] at this; have := enc_len m; have := H.out.len; omega
  have HO2 := Lib.hid ho2
  have HB2 := Lib.hid (HB1.out.trans hb2)
  clear ho2 hb2
  go_wp2_with (at_builtin; refine wpl_app _ rfl (.tmp 9) (.tmp 10) 22 rfl .u8 5 i0 (.int .u8 0) 1 Try.underlying22 HI.out.1 HI.out.2.1 HI.out.2.2.1 HI.out.2.2.2 rfl rfl HO2.out rfl (H'.out.same HB2.out) (by omega) ?c1 ?c2 ?_)
  case c1 => omega
  case c2 => exact HB2.out.size
  intro a3 c3 w3 ho3 hb3
  have HO3 := Lib.hid ho3
  have HB3 := Lib.hid hb3
  clear ho3 hb3
  go_wp2
  go_ret
  have h1 := HO3.out
  exact ⟨a3, n2 + m, c3, rfl, by simpa using h1, HB2.out.trans HB3.out⟩

set_option maxRecDepth 100000 in
theorem encodeInts_any (a : Option Addr) (n c : Nat) (l : List Int) (w : World) (h : Nums .i64 w a n l) (hn : n ≤ 100000000000) :
    Calls Try.prog 22 #[.slice a n c] w (Made .u8 5 w.heap.size (encs l) w) := by
  have H := Lib.hid h
  have hfit := h.fits
  have HL := Lib.hid h.len
  clear h
  go_enter Try.func22, Try.ntmps22
  go_wp2
  go_loopw [3, 9] (fun v i wr => ∃ (a' : Option Addr) (n' c' j : Nat), v = .slice a' n' c' ∧ i = .int .i64 j ∧ j ≤ n ∧ Own .u8 5 wr w.heap.size a' n' c' (encs (l.take j)) ∧ Below w.heap.size w wr) (fun _ i _ => n - (intOf i).toNat)
  case atStart => exact ⟨_, 0, 0, 0, rfl, rfl, Nat.zero_le _, Own.empty (Nat.le_refl _), alloc_same _ _⟩
  case round =>
    obtain ⟨a', n', c', j, rfl, rfl, hj, ho, hb⟩ := hrel
    have hlen : n' ≤ 6 * n := by have := ho.len; have := encs_len (l.take j); rw [List.length_take] at this; omega
    have HO := Lib.hid ho
    have HB := Lib.hid hb
    clear ho hb
    by_cases hlt : j < n
    · obtain ⟨ad, x, rfl, hx, hc⟩ := (H.out.same HB.out).at_ hlt
      have HX := Lib.hid hx
      clear hx
      go_wp2_with fail
      refine (add_any w.heap.size a' n' c' x _ _ HO.out HB.out.size (by omega)).mono ?_
      rintro e w2 ⟨a2, n2, c2, rfl, ho2, hb2⟩
      have HO2 := Lib.hid ho2
      have HB2 := Lib.hid hb2
      clear ho2 hb2
      go_wp2
      go_roundw
      case rel =>
        refine ⟨a2, n2, c2, j + 1, rfl, by go_num, by omega, ?_, HB.out.trans HB2.out⟩
        rw [List.take_add_one, HX.out]
        simp only [Option.toList]
        rw [encs_snoc]
        exact HO2.out
      case measure => simp [intOf]; omega
    · obtain rfl : j = n := by omega
      go_wp2
      go_ret
      have h1 := HO.out
      rw [← HL.out, List.take_length] at h1
      exact ⟨a', n', c', rfl, h1, HB.out⟩
end Go.Proofs.Ythdfdniidldkdaa
