/- The draw of a place to read at; the laws' own small helpers. -/
import Derived.Test.YthdfdniidldkdaaCur2
import Derived.Test.YthdfdniidldkdaaIntS
namespace Go.Proofs.Ythdfdniidldkdaa
open Go.ChangeShapes Go.WideShapes Go.ChangeAt Go.RowKit
set_option linter.unusedVariables false

/-- What a draw of a byte string and a place leaves. -/
def DrewAt (w : World) (e : Ending) (w' : World) : Prop :=
  ∃ (a' : Option Addr) (n' c' : Nat) (l : List Int) (x : Int), e = .returned (.tuple #[.slice a' n' c', .int .i64 x]) ∧ Own .u8 5 w' w.heap.size a' n' c' l ∧ Bs l ∧ n' ≤ 1000 ∧ I64 x ∧ Below w.heap.size w w'
theorem list_byte {l : List Int} (h : (l.all fun x => decide (0 ≤ x) && decide (x ≤ 255)) = true) {x : Int} (hx : x ∈ l) : 0 ≤ x ∧ x ≤ 255 := by
  rw [List.all_eq_true] at h
  simpa using h x hx
set_option maxRecDepth 100000 in
set_option maxHeartbeats 1000000 in
theorem drawReadUvarint_any (a : Option Addr) (n c : Nat) (w : World) (hc : Code w a n) :
    Calls Try.prog 16 #[.slice a n c] w (DrewAt w) := by
  have H := Lib.hid hc
  clear hc
  obtain ⟨i0, hi, hz0, hz1, hz2⟩ := info_parts infoByteS
  have HI := Lib.hid (And.intro hi (And.intro hz0 (And.intro hz1 hz2)))
  clear hi hz0 hz1 hz2
  go_enter Try.func16, Try.ntmps16
  go_wp2_with fail
  refine (new_any a n c H.out.2 _ H.out.1).mono ?_
  rintro e w1 ⟨rfl, hc1, hb1⟩
  have hlt := hc1.lt
  have hs1 : w.heap.size ≤ w1.heap.size := hb1.size
  have H1 := Lib.hid hc1
  have HB := Lib.hid hb1
  clear hc1 hb1
  go_wp2_with fail
  refine (once_any w.heap.size a n c 2 (by omega) (by omega) _ H1.out).mono ?_
  rintro e w2 ⟨t, rfl, hd2⟩
  have hs2 : w1.heap.size ≤ w2.heap.size := hd2.2.size
  have H2 := Lib.hid hd2
  clear hd2
  cases t
  · go_wp2_with fail
    refine (below_any w.heap.size a n c 8 (by omega) (by omega) _ (H2.out.1.same (alloc_same _ _))).mono ?_
    rintro e w3 ⟨y, hy0, hy1, rfl, hd3⟩
    obtain ⟨k, rfl⟩ : ∃ k : Nat, y = k := ⟨y.toNat, by omega⟩
    have he : Own .u8 5 (w2.alloc (.cells #[] 5)) w1.heap.size (some ⟨w2.heap.size, 0, none⟩) 0 0 [] := Own.empty hs2
    have hs3 : w2.heap.size ≤ w3.heap.size := by have := hd3.2.size; simp at this; omega
    have HO3 := Lib.hid (he.only hd3.2 he.span (Or.inl (by omega)))
    have H3 := Lib.hid ((H2.out.same (alloc_same _ _)).trans hd3)
    clear hd3 he
    go_wp2
    go_loopw [5, 6] (fun v i wr => ∃ (a' : Option Addr) (n' c' j : Nat) (l : List Int), v = .slice a' n' c' ∧ i = .int .i64 j ∧ n' + j ≤ 8 ∧ Own .u8 5 wr w1.heap.size a' n' c' l ∧ Bs l ∧ Drawn w.heap.size a n c w1 wr) (fun _ i _ => (intOf i).toNat)
    case atStart => exact ⟨_, 0, 0, k, [], rfl, rfl, by omega, HO3.out, Bs.nil, H3.out⟩
    case round =>
      obtain ⟨a', n', c', j, l, rfl, rfl, hj, ho, hB, hd⟩ := hrel
      have hsz : w1.heap.size ≤ wr.heap.size := hd.2.size
      have HO := Lib.hid ho
      have HS := Lib.hid ho.span
      have HBs := Lib.hid hB
      have HD := Lib.hid hd
      clear ho hB hd
      by_cases hlt2 : 0 < j
      · go_wp2_with fail
        refine (pickNew w.heap.size a n c [128, 255, 0, 1, 127] 5 (by omega) (by omega) rfl rfl _ HD.out.1).mono ?_
        rintro e w4 ⟨x, hx, rfl, hd4⟩
        have hx2 := list_byte (by decide) hx
        obtain ⟨hx0, hx1⟩ := hx2
        have hs4 : wr.heap.size ≤ w4.heap.size := hd4.2.size
        have HO4 := Lib.hid (HO.out.only hd4.2 HS.out (Or.inl (by omega)))
        have HD4 := Lib.hid (HD.out.trans hd4)
        clear hd4 hx
        go_wp2_with (at_builtin; refine wpl_app _ rfl (.tmp 23) (.tmp 28) 22 rfl .u8 5 i0 (.int .u8 0) 1 Try.underlying22 HI.out.1 HI.out.2.1 HI.out.2.2.1 HI.out.2.2.2 rfl rfl (HO4.out.alloc _) rfl (nums_new _ _ _ _) (by omega) ?c1 ?c2 ?_)
        case c1 => omega
        case c2 => simp; omega
        intro a5 c5 w5 ho5 hb5
        have HO5 := Lib.hid ho5
        have HB5 := Lib.hid hb5
        clear ho5 hb5
        go_wp2
        go_roundw
        case rel => exact ⟨a5, n' + 1, c5, j - 1, _, rfl, by go_num, by omega, HO5.out, HBs.out.append (Bs.cons hx0 hx1 Bs.nil), (HD4.out.same (alloc_same _ _)).under H1.out HB5.out (Nat.le_refl _)⟩
        case measure => simp [intOf]; omega
      · obtain rfl : j = 0 := by omega
        go_wp2_with fail
        refine (below_any w.heap.size a n c 4 (by omega) (by omega) _ HD.out.1).mono ?_
        rintro e w4 ⟨x, hx0, hx1, rfl, hd4⟩
        have HO4 := Lib.hid (HO.out.only hd4.2 HS.out (Or.inl (by omega)))
        have HD4 := Lib.hid (HD.out.trans hd4)
        clear hd4
        go_wp2_with fail
        go_ret2
        exact ⟨a', n', c', l, x - 1, rfl, HO4.out.lower hs1, HBs.out, by omega, ⟨by omega, by omega⟩, HB.out.trans (HD4.out.below (Nat.le_refl _) HB.out.size)⟩
  · go_wp2_with fail
    refine (bytes_any w.heap.size a n c 1 (by omega) _ H2.out.1).mono ?_
    rintro e w3 ⟨a3, n3, c3, l, rfl, ho, hBs, hlen, hd3⟩
    have hn3 : n3 ≤ 1 := by have := ho.len; omega
    have hs3 : w2.heap.size ≤ w3.heap.size := hd3.2.size
    have HO3 := Lib.hid ho
    have HS3 := Lib.hid ho.span
    have HBs := Lib.hid hBs
    have H3 := Lib.hid (H2.out.trans hd3)
    clear ho hBs hlen hd3
    go_wp2_with fail
    refine (num_any w.heap.size a n c _ H3.out.1).mono ?_
    rintro e w4 ⟨v, rfl, hv, hd4⟩
    have hs4 : w3.heap.size ≤ w4.heap.size := hd4.2.size
    have HO4 := Lib.hid (HO3.out.only hd4.2 HS3.out (Or.inl (by omega)))
    have H4 := Lib.hid (H3.out.trans hd4)
    clear hd4 hv
    go_wp2_with fail
    refine (specAppend_any a3 n3 c3 v l _ HO4.out.nums (by omega)).mono ?_
    rintro e w5 ⟨a5, n5, c5, rfl, ho5, hb5⟩
    have hn5 : n5 ≤ 1000 := by have := ho5.len; rw [List.length_append] at this; have := enc_len v; have := HO4.out.len; omega
    have HO5 := Lib.hid ho5
    have HB5 := Lib.hid hb5
    clear ho5 hb5
    go_wp2_with fail
    go_ret2
    exact ⟨a5, n5, c5, l ++ enc v, 1, rfl, HO5.out.lower (by omega), HBs.out.append (enc_bs v), hn5, ⟨by omega, by omega⟩, (HB.out.trans (H4.out.below (Nat.le_refl _) HB.out.size)).trans (HB5.out.mono (by omega))⟩

theorem ret_bool {a b : Bool} (h : a = b) : Ending.returned (.bool a) = .returned (.bool b) := by rw [h]
theorem big_no (a : Option Addr) (n c : Nat) (hn : (n : Int) ≤ 9223372036854775807) (h : ¬ 1048576 < n) (w : World) :
    Calls Try.prog 11 #[.slice a n c] w fun e w' => e = .returned (.bool false) ∧ w = w' := by
  go_enter Try.func11, Try.ntmps11
  go_wp2
  go_ret
  exact ⟨ret_bool (by simp; omega), rfl⟩
theorem big_yes (a : Option Addr) (n c : Nat) (hn : (n : Int) ≤ 9223372036854775807) (h : 1048576 < n) (w : World) :
    Calls Try.prog 11 #[.slice a n c] w fun e w' => e = .returned (.bool true) ∧ w = w' := by
  go_enter Try.func11, Try.ntmps11
  go_wp2
  go_ret
  exact ⟨ret_bool (by simp; omega), rfl⟩
set_option maxRecDepth 100000 in
theorem sameBytes_yes (a b : Option Addr) (n m c d : Nat) (l : List Int) (w : World) (h : Nums .u8 w a n l) (h' : Nums .u8 w b m l) :
    Calls Try.prog 15 #[.slice a n c, .slice b m d] w (Told (.bool true) w) := by
  obtain rfl : n = m := by rw [← h.len, ← h'.len]
  have hn := h.fits
  have H := Lib.hid h
  have H' := Lib.hid h'
  clear h h'
  go_enter Try.func15, Try.ntmps15
  go_wp2
  go_loopw [5] (fun i wr => ∃ j : Nat, j ≤ n ∧ i = .int .i64 j ∧ Below w.heap.size w wr) (fun i _ => n - (intOf i).toNat)
  case atStart => exact ⟨0, Nat.zero_le _, rfl, Below.refl _ _⟩
  case round =>
    obtain ⟨j, hj, rfl, hb⟩ := hrel
    have HB := Lib.hid hb
    clear hb
    by_cases hlt : j < n
    · obtain ⟨ad, x, rfl, hx, hc⟩ := (H.out.same HB.out).at_ hlt
      obtain ⟨be, y, rfl, hy, hc'⟩ := (H'.out.same HB.out).at_ hlt
      rw [hx] at hy
      cases hy
      clear hx
      go_wp2
      go_quiet (fail)
      go_wp2
      go_roundw
      case rel => exact ⟨j + 1, by omega, by go_num, HB.out.trans ((drewN_same _ _).mono HB.out.size)⟩
      case measure => simp [intOf]; omega
    · go_wp2
      go_ret
      exact ⟨rfl, HB.out⟩

set_option maxRecDepth 100000 in
theorem sameInts_yes (a b : Option Addr) (n m c d : Nat) (l : List Int) (w : World) (h : Nums .i64 w a n l) (h' : Nums .i64 w b m l) :
    Calls Try.prog 24 #[.slice a n c, .slice b m d] w (Told (.bool true) w) := by
  obtain rfl : n = m := by rw [← h.len, ← h'.len]
  have hn := h.fits
  have H := Lib.hid h
  have H' := Lib.hid h'
  clear h h'
  go_enter Try.func24, Try.ntmps24
  go_wp2
  go_loopw [5] (fun i wr => ∃ j : Nat, j ≤ n ∧ i = .int .i64 j ∧ Below w.heap.size w wr) (fun i _ => n - (intOf i).toNat)
  case atStart => exact ⟨0, Nat.zero_le _, rfl, Below.refl _ _⟩
  case round =>
    obtain ⟨j, hj, rfl, hb⟩ := hrel
    have HB := Lib.hid hb
    clear hb
    by_cases hlt : j < n
    · obtain ⟨ad, x, rfl, hx, hc⟩ := (H.out.same HB.out).at_ hlt
      obtain ⟨be, y, rfl, hy, hc'⟩ := (H'.out.same HB.out).at_ hlt
      rw [hx] at hy
      cases hy
      clear hx
      go_wp2
      go_quiet (fail)
      go_wp2
      go_roundw
      case rel => exact ⟨j + 1, by omega, by go_num, HB.out.trans ((drewN_same _ _).mono HB.out.size)⟩
      case measure => simp [intOf]; omega
    · go_wp2
      go_ret
      exact ⟨rfl, HB.out⟩

set_option maxRecDepth 100000 in
theorem at_any (a : Option Addr) (n c i : Nat) (hi : i ≤ 1000) (w : World) (h : Code w a n) (hn : n ≤ 1048576) :
    Calls Try.prog 21 #[.slice a n c, .int .i64 i] w fun e w' => ∃ x : Nat, x ≤ 255 ∧ e = .returned (.int .i64 x) ∧ w = w' := by
  have H := Lib.hid h
  clear h
  by_cases hlt : i < n
  · obtain ⟨ad, rfl, x, hx0, hx1, hx⟩ := H.out.1 i hlt
    obtain ⟨y, rfl⟩ : ∃ y : Nat, x = y := ⟨x.toNat, by omega⟩
    go_enter Try.func21, Try.ntmps21
    go_wp2
    go_ret
    exact ⟨y, by omega, rfl, rfl⟩
  · have h1 : (n : Int) ≤ 1048576 := by omega
    go_enter Try.func21, Try.ntmps21
    go_wp2
    go_ret
    exact ⟨(i * 31 + n * 7) % 256, by omega, by simp, rfl⟩
end Go.Proofs.Ythdfdniidldkdaa
