/- Lists of numbers are read as the mathematics says, by the program. -/
import Derived.Test.YthdfdniidldkdaaRead3
namespace Go.Proofs.Ythdfdniidldkdaa
open Go.ChangeShapes Go.WideShapes Go.ChangeAt Go.RowKit
set_option linter.unusedVariables false

/-- The numbers that are read, and the place behind them. -/
def decs (l : List Int) (off cnt : Int) : Option (List Int × Int) := if (0 ≤ cnt ∧ cnt ≤ 100) ∧ 0 ≤ off ∧ off ≤ l.length then decK l off cnt.toNat else none
theorem decs_out {l : List Int} {off cnt : Int} (h : ¬ ((0 ≤ cnt ∧ cnt ≤ 100) ∧ 0 ≤ off ∧ off ≤ l.length)) : decs l off cnt = none := if_neg h
theorem decs_in {l : List Int} {off : Int} {cnt : Nat} (h1 : cnt ≤ 100) (h2 : 0 ≤ off) (h3 : off ≤ l.length) : decs l off cnt = decK l off cnt := by
  unfold decs
  rw [if_pos ⟨⟨by omega, by omega⟩, h2, h3⟩]
  rfl
def IntsAs (r : Option (List Int × Int)) (w : World) (e : Ending) (w' : World) : Prop :=
  match r with
  | some (l, j) => MadeTup .i64 3 w.heap.size l (.int .i64 j) (.bool true) w e w'
  | none => MadeTup .i64 3 w.heap.size [] (.int .i64 0) (.bool false) w e w'
theorem ints_none {r : Option (List Int × Int)} (hr : r = none) {w : World} {e : Ending} {w' : World} (h : MadeTup .i64 3 w.heap.size [] (.int .i64 0) (.bool false) w e w') : IntsAs r w e w' := by
  subst hr; exact h
theorem ints_some {r : Option (List Int × Int)} {l : List Int} {j : Int} (hr : r = some (l, j)) {w : World} {e : Ending} {w' : World} (h : MadeTup .i64 3 w.heap.size l (.int .i64 j) (.bool true) w e w') : IntsAs r w e w' := by
  subst hr; exact h

set_option maxRecDepth 100000 in
theorem decOut_any (a : Option Addr) (n c : Nat) (off cnt : Int) (l : List Int) (w : World) (h : Nums .u8 w a n l) (hout : ¬ ((0 ≤ cnt ∧ cnt ≤ 100) ∧ 0 ≤ off ∧ off ≤ n)) :
    Calls Try.prog 23 #[.slice a n c, .int .i64 off, .int .i64 cnt] w (IntsAs (decs l off cnt) w) := by
  have hfit := h.fits
  have HN := Lib.hid (decs_out (l := l) (by rw [h.len]; exact hout))
  clear h
  by_cases hc : 0 ≤ cnt ∧ cnt ≤ 100
  · obtain ⟨hc1, hc2⟩ := hc
    have HO : Hid (¬ (0 ≤ off ∧ off ≤ n)) := Lib.hid (fun h => hout ⟨⟨hc1, hc2⟩, h⟩)
    clear hout
    go_enter Try.func23, Try.ntmps23
    go_wp2_with fail
    refine (in_yes hc1 hc2 _).mono ?_
    rintro e w' ⟨rfl, rfl⟩
    go_wp2_with fail
    refine (in_no HO.out _).mono ?_
    rintro e w' ⟨rfl, rfl⟩
    go_wp2
    go_ret3
    exact ints_none HN.out ⟨_, 0, 0, rfl, Own.empty (Nat.le_refl _), alloc_same _ _⟩
  · have HO := Lib.hid hc
    clear hout hc
    go_enter Try.func23, Try.ntmps23
    go_wp2_with fail
    refine (in_no HO.out _).mono ?_
    rintro e w' ⟨rfl, rfl⟩
    go_wp2
    go_ret3
    exact ints_none HN.out ⟨_, 0, 0, rfl, Own.empty (Nat.le_refl _), alloc_same _ _⟩
set_option maxRecDepth 100000 in
theorem decIn_any (a : Option Addr) (n c cnt : Nat) (off : Int) (l : List Int) (w : World) (h : Nums .u8 w a n l) (hB : Bs l) (hc : n ≤ c ∧ (c : Int) ≤ 9223372036854775807) (hcnt : cnt ≤ 100) (h0 : 0 ≤ off) (h1 : off ≤ n) :
    Calls Try.prog 23 #[.slice a n c, .int .i64 off, .int .i64 cnt] w (IntsAs (decs l off cnt) w) := by
  have hfit := h.fits
  have HD := Lib.hid (decs_in (l := l) hcnt h0 (by rw [h.len]; exact h1))
  have H := Lib.hid h
  have HC := Lib.hid hc
  clear h hc
  obtain ⟨i0, hi, hz0, hz1, hz2⟩ := info_parts infoIntS
  have HI := Lib.hid (And.intro hi (And.intro hz0 (And.intro hz1 hz2)))
  clear hi hz0 hz1 hz2
  go_enter Try.func23, Try.ntmps23
  go_wp2_with fail
  refine (in_yes (by omega) (by omega) _).mono ?_
  rintro e w' ⟨rfl, rfl⟩
  go_wp2_with fail
  refine (in_yes h0 h1 _).mono ?_
  rintro e w' ⟨rfl, rfl⟩
  go_wp2_with (at_make; refine wpList_make_own _ rfl _ _ 35 rfl w.heap.size 3 i0 (.int .i64 0) 1 Try.underlying35 HI.out.1 HI.out.2.1 HI.out.2.2.1 .i64 .i64 _ cnt rfl rfl (by omega) ?c1 ?c2 ?c3 ?_)
  case c1 => rw [HI.out.2.2.2]; omega
  case c2 => unfold maxLen; omega
  case c3 => omega
  intro w1 hown hgrow
  have HO1 : Hid (Own .i64 3 w1 w.heap.size (some ⟨w.heap.size, 0, none⟩) 0 cnt []) := Lib.hid ⟨rfl, hown⟩
  have HB1 : Hid (Below w.heap.size w w1) := Lib.hid ((Below.refl _ w).grown hgrow (Nat.le_refl _) (fun _ e => by cases e))
  clear hown hgrow
  go_wp2
  go_loopw [9, 1, 27] (fun v x i wr => ∃ (a' : Option Addr) (n' c' j : Nat) (zs : List Int) (o : Int), v = .slice a' n' c' ∧ x = .int .i64 o ∧ i = .int .i64 j ∧ j ≤ cnt ∧ decK l off j = some (zs, o) ∧ Own .i64 3 wr w.heap.size a' n' c' zs ∧ Below w.heap.size w wr) (fun _ _ i _ => cnt - (intOf i).toNat)
  case atStart => exact ⟨_, 0, cnt, 0, [], off, rfl, rfl, rfl, Nat.zero_le _, rfl, HO1.out, HB1.out⟩
  case round =>
    obtain ⟨a', n', c', j, zs, o, rfl, rfl, rfl, hj, hd, ho, hb⟩ := hrel
    have hn' : n' ≤ 100 := by have := ho.len; have := decK_len hd; omega
    have HK := Lib.hid hd
    have HO := Lib.hid ho
    have HB := Lib.hid hb
    clear hd ho hb
    by_cases hlt : j < cnt
    · cases hr : rd l o with
      | none =>
        have HR := Lib.hid hr
        have HN := Lib.hid (decK_none (m := cnt) (decK_stop HK.out hr) (by omega))
        clear hr
        go_wp2_with fail
        refine (read_none HR.out (H.out.same HB.out) hB HC.out).mono ?_
        rintro e w2 ⟨rfl, hb2⟩
        have HB2 := Lib.hid (HB.out.trans (hb2.mono HB.out.size))
        clear hb2
        go_wp2
        go_ret3
        exact ints_none (HD.out.trans HN.out) ⟨_, 0, 0, rfl, Own.empty HB2.out.size, HB2.out.alloc HB2.out.size _⟩
      | some p =>
        obtain ⟨m, q⟩ := p
        have HR := Lib.hid hr
        have HK2 := Lib.hid (decK_step HK.out hr)
        clear hr
        go_wp2_with fail
        refine (read_some HR.out (H.out.same HB.out) hB HC.out).mono ?_
        rintro e w2 ⟨rfl, hb2⟩
        have HO2 := Lib.hid (HO.out.same hb2)
        have HB2 := Lib.hid (HB.out.trans (hb2.mono HB.out.size))
        clear hb2
        go_wp2_with (at_builtin; refine wpl_app _ rfl (.tmp 39) (.tmp 41) 35 rfl .i64 3 i0 (.int .i64 0) 8 Try.underlying35 HI.out.1 HI.out.2.1 HI.out.2.2.1 HI.out.2.2.2 rfl rfl (HO2.out.alloc _) rfl (nums_new _ _ _ _) (by omega) ?c4 ?c5 ?_)
        case c4 => omega
        case c5 => have := HB2.out.size; simp; omega
        intro a3 c3 w3 ho3 hb3
        have HO3 := Lib.hid ho3
        have HB3 := Lib.hid (HB2.out.trans (((alloc_same _ _).mono HB2.out.size).trans hb3))
        clear ho3 hb3
        go_wp2
        go_roundw
        case rel => exact ⟨a3, n' + 1, c3, j + 1, _, _, rfl, rfl, by go_num, by omega, HK2.out, HO3.out, HB3.out⟩
        case measure => simp [intOf]; omega
    · obtain rfl : j = cnt := by omega
      go_wp2
      go_ret3
      exact ints_some (HD.out.trans HK.out) ⟨a', n', c', rfl, HO.out, HB.out⟩
theorem decodeInts_any (a : Option Addr) (n c : Nat) (off cnt : Int) (l : List Int) (w : World) (h : Nums .u8 w a n l) (hB : Bs l) (hc : n ≤ c ∧ (c : Int) ≤ 9223372036854775807) :
    Calls Try.prog 23 #[.slice a n c, .int .i64 off, .int .i64 cnt] w (IntsAs (decs l off cnt) w) := by
  by_cases hin : (0 ≤ cnt ∧ cnt ≤ 100) ∧ 0 ≤ off ∧ off ≤ n
  · obtain ⟨⟨h1, h2⟩, h3, h4⟩ := hin
    obtain ⟨m, rfl⟩ : ∃ m : Nat, cnt = m := ⟨cnt.toNat, by omega⟩
    exact decIn_any a n c m off l w h hB hc (by omega) h3 h4
  · exact decOut_any a n c off cnt l w h hin
end Go.Proofs.Ythdfdniidldkdaa
