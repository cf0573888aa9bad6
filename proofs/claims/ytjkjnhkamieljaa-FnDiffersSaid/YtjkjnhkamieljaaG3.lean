/- A list of fields is drawn, perhaps with a fault. A list of fields is changed, and two of them are drawn. The kinds of fields, and the greatest Max of each; being in a range. Being a format: by the program and by its model. Being a format, by the program. -/
import Derived.Test.YtjkjnhkamieljaaG2
import Derived.Handy
import Derived.Deep.QuietTactic
import Derived.BigQuiet
import Derived.Deep.RegionHeld3
namespace Go.Proofs.Ytjkjnhkamieljaa
open Go.ChangeShapes Go.WideShapes Go.ChangeAt Go.RowKit
set_option linter.unusedVariables false

set_option maxHeartbeats 4000000 in
set_option maxRecDepth 100000 in
theorem anyF_any (b : Nat) (a : Option Addr) (n c : Nat) (w : World) (hc : Curs w b a n c) :
    Calls Try.prog 60 #[.pointer (some ⟨b, 0, none⟩)] w (DrewF b a n c 7 w) := by
  have HC := Lib.hid hc
  have hb := hc.lt
  clear hc
  obtain ⟨i0, hi, hz0, hz1, hz2⟩ := info_parts infoFieldS
  have HI := Lib.hid (And.intro hi (And.intro hz0 (And.intro hz1 hz2)))
  clear hi hz0 hz1 hz2
  go_enter Try.func60, Try.ntmps60
  go_wp2_with fail
  refine (drawF_any b a n c w HC.out).mono ?_
  rintro e w1 ⟨g, m, c', l, rfl, ho1, hm1, hm5, hfm, hd1⟩
  have hgw := ho1.span _ rfl
  dsimp only at hgw
  have hbg : b ≠ g := by omega
  have hgb : g ≠ b := by omega
  go_wp2_with fail
  refine (below_any b a n c (m : Int) (by omega) (by omega) w1 hd1.1).mono ?_
  rintro e w2 ⟨x, hx0, hx1, rfl, hd2⟩
  obtain ⟨k, rfl⟩ : ∃ k : Nat, x = k := ⟨x.toNat, by omega⟩
  have hkm : k < m := by omega
  go_wp2_with fail
  refine (below_any b a n c 12 (by omega) (by omega) w2 hd2.1).mono ?_
  rintro e w3 ⟨y, hy0, hy1, rfl, hd3⟩
  have HD3 := Lib.hid (hd1.trans (hd2.trans hd3))
  have HO3 := Lib.hid (ho1.only (hd2.2.trans hd3.2) ho1.span (Or.inl hb))
  have hs3 := HD3.out.2.size
  clear hd1 hd2 hd3 ho1
  by_cases q0 : y = 0
  · have b0 : (y == 0) = true := by simpa using q0
    clear q0
    go_wp2_with fail
    refine (pickNew b a n c [0, 4, 1] 3 (by omega) (by omega) rfl rfl w3 HD3.out.1).mono ?_
    rintro e w4 ⟨v, hv, rfl, hd4⟩
    have hvi : I64 v := list_i64 (l := [0, 4, 1]) (by decide) hv
    have HO4 := HO3.out.only hd4.2 HO3.out.span (Or.inl hb)
    have fz := HO4.2.frozenAt (k * 4 + 0)
    obtain ⟨u, hu⟩ := row_cell HO4.2 (k := k * 4 + 0) (by omega)
    rw [Nat.add_zero] at fz hu
    obtain ⟨l', hp, hg, hfm'⟩ := ownf_put HO4 hkm 0 (by omega) v
    rw [Nat.add_zero] at hp hg
    have HP := Lib.hid hp
    have HD4 := HD3.out.trans hd4
    have HD5 := Lib.hid (Curs.far HD4.1 hg hgb HC.out HD4 (by omega))
    clear hp hg HO4 HD4 hd4
    go_wp2
    go_ret
    exact ⟨_, m, c', l', rfl, HP.out, by omega, hfm' hfm hvi, HD5.out⟩
  have b0 : (y == 0) = false := by simpa using q0
  by_cases q1 : y = 1
  · have b1 : (y == 1) = true := by simpa using q1
    clear q1
    go_wp2_with fail
    refine (pickNew b a n c [0, 5, 6, 99, 100, 9223372036854775807] 6 (by omega) (by omega) rfl rfl w3 HD3.out.1).mono ?_
    rintro e w4 ⟨v, hv, rfl, hd4⟩
    have hvi : I64 v := list_i64 (l := [0, 5, 6, 99, 100, 9223372036854775807]) (by decide) hv
    have HO4 := HO3.out.only hd4.2 HO3.out.span (Or.inl hb)
    have fz := HO4.2.frozenAt (k * 4 + 1)
    obtain ⟨u, hu⟩ := row_cell HO4.2 (k := k * 4 + 1) (by omega)
    obtain ⟨l', hp, hg, hfm'⟩ := ownf_put HO4 hkm 1 (by omega) v
    have HP := Lib.hid hp
    have HD4 := HD3.out.trans hd4
    have HD5 := Lib.hid (Curs.far HD4.1 hg hgb HC.out HD4 (by omega))
    clear hp hg HO4 HD4 hd4
    go_wp2
    go_ret
    exact ⟨_, m, c', l', rfl, HP.out, by omega, hfm' hfm hvi, HD5.out⟩
  have b1 : (y == 1) = false := by simpa using q1
  by_cases q2 : y = 2
  · have b2 : (y == 2) = true := by simpa using q2
    clear q2
    go_wp2_with fail
    refine (pickNew b a n c [-2, 0, 1, 5, 9223372036854775807] 5 (by omega) (by omega) rfl rfl w3 HD3.out.1).mono ?_
    rintro e w4 ⟨v, hv, rfl, hd4⟩
    have hvi : I64 v := list_i64 (l := [-2, 0, 1, 5, 9223372036854775807]) (by decide) hv
    have HO4 := HO3.out.only hd4.2 HO3.out.span (Or.inl hb)
    have fz := HO4.2.frozenAt (k * 4 + 2)
    obtain ⟨u, hu⟩ := row_cell HO4.2 (k := k * 4 + 2) (by omega)
    obtain ⟨l', hp, hg, hfm'⟩ := ownf_put HO4 hkm 2 (by omega) v
    have HP := Lib.hid hp
    have HD4 := HD3.out.trans hd4
    have HD5 := Lib.hid (Curs.far HD4.1 hg hgb HC.out HD4 (by omega))
    clear hp hg HO4 HD4 hd4
    go_wp2
    go_ret
    exact ⟨_, m, c', l', rfl, HP.out, by omega, hfm' hfm hvi, HD5.out⟩
  have b2 : (y == 2) = false := by simpa using q2
  by_cases q3 : y = 3
  · have b3 : (y == 3) = true := by simpa using q3
    clear q3
    go_wp2_with fail
    refine (pickNew b a n c [-1, 1, 10] 3 (by omega) (by omega) rfl rfl w3 HD3.out.1).mono ?_
    rintro e w4 ⟨v, hv, rfl, hd4⟩
    have hvi : I64 v := list_i64 (l := [-1, 1, 10]) (by decide) hv
    have HO4 := HO3.out.only hd4.2 HO3.out.span (Or.inl hb)
    have fz := HO4.2.frozenAt (k * 4 + 3)
    obtain ⟨u, hu⟩ := row_cell HO4.2 (k := k * 4 + 3) (by omega)
    obtain ⟨l', hp, hg, hfm'⟩ := ownf_put HO4 hkm 3 (by omega) v
    have HP := Lib.hid hp
    have HD4 := HD3.out.trans hd4
    have HD5 := Lib.hid (Curs.far HD4.1 hg hgb HC.out HD4 (by omega))
    clear hp hg HO4 HD4 hd4
    go_wp2
    go_ret
    exact ⟨_, m, c', l', rfl, HP.out, by omega, hfm' hfm hvi, HD5.out⟩
  have b3 : (y == 3) = false := by simpa using q3
  by_cases q4 : y = 4
  · have b4 : (y == 4) = true := by simpa using q4
    clear q4
    go_wp2_with fail
    go_loopw [3] (fun s wr => ∃ (g m c' : Nat) (l : List Fd), 1 ≤ m ∧ m ≤ 7 ∧ s = .slice (some ⟨g, 0, none⟩) m c' ∧ OwnF 50 wr w.heap.size (some ⟨g, 0, none⟩) m c' l ∧ FM l ∧ Drawn b a n c w wr) (fun s _ => 7 - (match s with | .slice _ m _ => m | _ => 0))
    case atStart => exact ⟨g, m, c', l, hm1, by omega, rfl, HO3.out, hfm, HD3.out⟩
    case round =>
      obtain ⟨g2, m2, c2, l2, hm1', hm7, rfl, ho, hfm2, hd⟩ := hrel
      have HO := Lib.hid ho
      have HD := Lib.hid hd
      clear ho hd
      by_cases hlt : m2 < 7
      · have e1 : decide ((m2 : Int) < 7) = true := decide_eq_true (by omega)
        obtain ⟨b', o', z, hbo, hz, h0, h1, h2, h3⟩ := fds_at (HO.out.items Fd.enc_len) (j := 0) (by omega)
        cases hbo
        simp only [Nat.zero_mul, Nat.zero_add, Nat.add_zero] at h0 h1 h2 h3
        have hsw := HD.out.2.size
        have hfm3 : FM (l2 ++ [z]) := fun y hy => by
          rcases List.mem_append.1 hy with q | q
          · exact hfm2 y q
          · rw [List.mem_singleton.1 q]; exact hfm2 z (List.mem_of_getElem? hz)
        have HN := Lib.hid (items_new Fd.enc_len wr z 50)
        go_wp2_with (at_builtin; refine wpl_appI _ Fd.enc_len (by omega) fd_cells rfl (.tmp 54) (.tmp 58) 24 rfl 50 i0 (.agg #[.int .i64 0, .int .i64 0, .int .i64 0, .int .i64 0]) 32 Try.underlying24 HI.out.1 HI.out.2.1 HI.out.2.2.1 HI.out.2.2.2 rfl rfl (HO.out.alloc _) rfl HN.out (by omega) ?c4 ?c5 ?_)
        case c4 => omega
        case c5 => simp; omega
        intro a5 c5 w5 ho5 hb5
        obtain ⟨g5, rfl, hg5, hg6⟩ := ho5.head (by omega)
        have HO5 := Lib.hid ho5
        have HD5 : Hid (Drawn b a n c w w5) := Lib.hid (HD.out.under HC.out ((alloc_same wr _).mono (by omega) |>.trans hb5) (Nat.le_refl _))
        clear ho5 hb5
        go_wp2
        go_roundw
        case rel => exact ⟨g5, m2 + 1, c5, _, by omega, by omega, by simp, HO5.out, hfm3, HD5.out⟩
        case measure => simp; omega
      · have e1 : decide ((m2 : Int) < 7) = false := decide_eq_false (by omega)
        go_wp2
        go_ret
        exact ⟨_, m2, c2, l2, rfl, HO.out, hm7, hfm2, HD.out⟩
  have b4 : (y == 4) = false := by simpa using q4
  by_cases q5 : y = 5
  · have b5 : (y == 5) = true := by simpa using q5
    clear q5
    go_wp2
    go_ret
    exact ⟨none, 0, 0, [], rfl, OwnI.nil, by omega, (fun x hx => by cases hx), HD3.out⟩
  have b5 : (y == 5) = false := by simpa using q5
  clear q0 q1 q2 q3 q4 q5
  go_wp2
  go_ret
  exact ⟨_, m, c', l, rfl, HO3.out, by omega, hfm, HD3.out⟩
end Go.Proofs.Ytjkjnhkamieljaa
namespace Go.Proofs.Ytjkjnhkamieljaa
open Go.ChangeShapes Go.WideShapes Go.ChangeAt Go.RowKit
set_option linter.unusedVariables false

theorem spec8Min (x y : Int) (w : World) : Calls Try.prog 75 #[.int .i64 x, .int .i64 y] w fun e w' => ∃ v, e = .returned (.int .i64 v) ∧ (I64 x → I64 y → I64 v) ∧ w = w' := by
  by_cases h : y < x
  · go_enter Try.func75, Try.ntmps75
    go_wp2
    go_ret
    exact ⟨y, rfl, fun _ h => h, rfl⟩
  · go_enter Try.func75, Try.ntmps75
    go_wp2
    go_ret
    exact ⟨x, rfl, fun h _ => h, rfl⟩
theorem spec8Max (x y : Int) (w : World) : Calls Try.prog 76 #[.int .i64 x, .int .i64 y] w fun e w' => ∃ v, e = .returned (.int .i64 v) ∧ (I64 x → I64 y → I64 v) ∧ w = w' := by
  by_cases h : x < y
  · go_enter Try.func76, Try.ntmps76
    go_wp2
    go_ret
    exact ⟨y, rfl, fun _ h => h, rfl⟩
  · go_enter Try.func76, Try.ntmps76
    go_wp2
    go_ret
    exact ⟨x, rfl, fun h _ => h, rfl⟩
theorem ownf_empty {t : TypeId} (w : World) {B : Nat} (hB : B ≤ w.heap.size) : OwnF t (w.alloc (.cells #[] t)) B (some ⟨w.heap.size, 0, none⟩) 0 0 [] :=
  ⟨rfl, World.ownsRow_lit w #[] 0 hB (by unfold maxLen; omega) rfl⟩
theorem FM.take {l : List Fd} (h : FM l) (n : Nat) : FM (l.take n) := fun x hx => h x (List.mem_of_mem_take hx)
theorem ownf_take {t : TypeId} {w : World} {B n c : Nat} {a : Option Addr} {l : List Fd} (h : OwnF t w B a n c l) (m : Nat) (hm : m ≤ n) (hm1 : 1 ≤ n) : OwnF t w B a m c (l.take m) := by
  obtain ⟨h1, h2, h3⟩ := h
  have hlt : (l.take m).length = m := by rw [List.length_take]; omega
  refine ⟨hlt, by rw [flatOf_len Fd.enc_len, hlt], ?_⟩
  rcases h3 with ⟨e, h4⟩ | ⟨g, cap, cur, e, hB, hg, hn, hc, hs, ht⟩
  · omega
  · cases e
    refine Or.inr ⟨g, c, cur, rfl, hB, hg, by omega, hc, hs, ?_⟩
    have e1 : flatOf Fd.enc (l.take m) = (flatOf Fd.enc l).take (m * 4) := by
      have e2 : flatOf Fd.enc l = flatOf Fd.enc (l.take m) ++ flatOf Fd.enc (l.drop m) := by rw [← flatOf_app, List.take_append_drop]
      have e3 : (flatOf Fd.enc (l.take m)).length = m * 4 := by rw [flatOf_len Fd.enc_len, hlt]
      rw [e2, List.take_append_of_le_length (by omega)]
      exact (List.take_of_length_le (by omega)).symm
    rw [e1, ← ht, List.take_take, Nat.min_eq_left (by omega)]
set_option maxHeartbeats 4000000 in
set_option maxRecDepth 100000 in
theorem next_any (b : Nat) (a : Option Addr) (n c : Nat) (w : World) (hc : Curs w b a n c) (p : Option Addr) (m d : Nat) (l : List Fd) (hl : Fds w p m l) (hm1 : 1 ≤ m) (hm5 : m ≤ 5) (hfm : FM l) :
    Calls Try.prog 58 #[.pointer (some ⟨b, 0, none⟩), .slice p m d] w (DrewF b a n c 7 w) := by
  obtain ⟨b0, o0, _, rfl, _, _⟩ := hl.at_ (j := 0) (by omega)
  have HL := Lib.hid hl
  have HC := Lib.hid hc
  have hb := hc.lt
  clear hc hl
  obtain ⟨i0, hi, hz0, hz1, hz2⟩ := info_parts infoFieldS
  have HI := Lib.hid (And.intro hi (And.intro hz0 (And.intro hz1 hz2)))
  clear hi hz0 hz1 hz2
  go_enter Try.func58, Try.ntmps58
  go_wp2_with (at_builtin; refine wpl_appI _ Fd.enc_len (by omega) fd_cells rfl _ _ 24 rfl 50 i0 (.agg #[.int .i64 0, .int .i64 0, .int .i64 0, .int .i64 0]) 32 Try.underlying24 HI.out.1 HI.out.2.1 HI.out.2.2.1 HI.out.2.2.2 rfl rfl (ownf_empty w (Nat.le_refl _)) rfl (HL.out.same (alloc_same w _)) (by omega) ?c4 ?c5 ?_)
  case c4 => omega
  case c5 => simp
  intro a1 c1 w1 ho1 hb1
  obtain ⟨g, rfl, hg1, hg2⟩ := ho1.head (by omega)
  have hd1 : Drawn b a n c w w1 := (Drawn.refl HC.out).under HC.out ((alloc_same w _).trans hb1) (Nat.le_refl _)
  have hbg : b ≠ g := by omega
  have hgb : g ≠ b := by omega
  clear hb1
  go_wp2_with fail
  refine (below_any b a n c (m : Int) (by omega) (by omega) w1 hd1.1).mono ?_
  rintro e w2 ⟨x, hx0, hx1, rfl, hd2⟩
  obtain ⟨k, rfl⟩ : ∃ k : Nat, x = k := ⟨x.toNat, by omega⟩
  have hkm : k < m := by omega
  go_wp2_with fail
  refine (below_any b a n c 6 (by omega) (by omega) w2 hd2.1).mono ?_
  rintro e w3 ⟨y, hy0, hy1, rfl, hd3⟩
  have HD3 := Lib.hid (hd1.trans (hd2.trans hd3))
  have HO3 := Lib.hid (ho1.only (hd2.2.trans hd3.2) ho1.span (Or.inl hb))
  have hs3 := HD3.out.2.size
  clear hd1 hd2 hd3 ho1
  by_cases q0 : y = 0
  · have b0 : (y == 0) = true := by simpa using q0
    clear q0
    obtain ⟨b1, o1, z, hbo, hz, h0, h1, h2, h3⟩ := fds_at (HO3.out.items Fd.enc_len) (j := k) (by omega)
    cases hbo
    rw [Nat.zero_add] at h0 h1 h2 h3
    have hzm : I64 z.max := hfm z (List.mem_of_getElem? hz)
    have hzm2 := hzm
    unfold I64 at hzm2
    have fz := HO3.out.2.frozenAt (k * 4 + 1)
    go_wp2_with fail
    refine (spec8Min 5 _ w3).mono ?_
    rintro e w4 ⟨v, rfl, hv, rfl⟩
    obtain ⟨l', hp, hg, hfm'⟩ := ownf_put HO3.out hkm 1 (by omega) v
    have HP := Lib.hid hp
    have HD5 := Lib.hid (Curs.far HD3.out.1 hg hgb HC.out HD3.out (by omega))
    clear hp hg
    go_wp2
    go_ret
    exact ⟨_, m, c1, l', rfl, HP.out, by omega, hfm' hfm (hv ⟨by omega, by omega⟩ (i64_wrap _)), HD5.out⟩
  have b0 : (y == 0) = false := by simpa using q0
  by_cases q1 : y = 1
  · have b1 : (y == 1) = true := by simpa using q1
    clear q1
    obtain ⟨b1, o1, z, hbo, hz, h0, h1, h2, h3⟩ := fds_at (HO3.out.items Fd.enc_len) (j := k) (by omega)
    cases hbo
    rw [Nat.zero_add] at h0 h1 h2 h3
    have hzm : I64 z.max := hfm z (List.mem_of_getElem? hz)
    have hzm2 := hzm
    unfold I64 at hzm2
    have fz := HO3.out.2.frozenAt (k * 4 + 1)
    go_wp2_with fail
    refine (spec8Max 1 _ w3).mono ?_
    rintro e w4 ⟨v, rfl, hv, rfl⟩
    obtain ⟨l', hp, hg, hfm'⟩ := ownf_put HO3.out hkm 1 (by omega) v
    have HP := Lib.hid hp
    have HD5 := Lib.hid (Curs.far HD3.out.1 hg hgb HC.out HD3.out (by omega))
    clear hp hg
    go_wp2
    go_ret
    exact ⟨_, m, c1, l', rfl, HP.out, by omega, hfm' hfm (hv ⟨by omega, by omega⟩ (i64_wrap _)), HD5.out⟩
  have b1 : (y == 1) = false := by simpa using q1
  by_cases q2 : y = 2
  · have b2 : (y == 2) = true := by simpa using q2
    clear q2
    by_cases h6 : m < 6
    · go_wp2_with fail
      refine (below_any b a n c 3 (by omega) (by omega) w3 HD3.out.1).mono ?_
      rintro e w4 ⟨v, hv0, hv1, rfl, hd4⟩
      have HD4 := Lib.hid (HD3.out.trans hd4)
      have HO4 := Lib.hid (HO3.out.only hd4.2 HO3.out.span (Or.inl hb))
      clear hd4
      go_wp2_with fail
      refine (below_any b a n c 4 (by omega) (by omega) w4 HD4.out.1).mono ?_
      rintro e w5 ⟨u, hu0, hu1, rfl, hd5⟩
      have HD5 := Lib.hid (HD4.out.trans hd5)
      have HO5 := Lib.hid (HO4.out.only hd5.2 HO4.out.span (Or.inl hb))
      have hs5 := HD5.out.2.size
      clear hd5
      have HN := Lib.hid (items_new Fd.enc_len w5 (⟨1 + v, 1 + u, -1, 0⟩ : Fd) 50)
      have hfm2 : FM (l ++ [(⟨1 + v, 1 + u, -1, 0⟩ : Fd)]) := fun y hy => by
        rcases List.mem_append.1 hy with q | q
        · exact hfm y q
        · rw [List.mem_singleton.1 q]; exact ⟨by dsimp only; omega, by dsimp only; omega⟩
      go_wp2_with (at_builtin; refine wpl_appI _ Fd.enc_len (by omega) fd_cells rfl _ _ 24 rfl 50 i0 (.agg #[.int .i64 0, .int .i64 0, .int .i64 0, .int .i64 0]) 32 Try.underlying24 HI.out.1 HI.out.2.1 HI.out.2.2.1 HI.out.2.2.2 rfl rfl (HO5.out.alloc _) rfl HN.out (by omega) ?c6 ?c7 ?_)
      case c6 => omega
      case c7 => first | omega | (simp; done) | (simp; omega)
      intro a6 c6 w6 ho6 hb6
      have HO6 := Lib.hid ho6
      have HD6 := Lib.hid (HD5.out.under HC.out ((alloc_same w5 _).mono (by omega) |>.trans hb6) (Nat.le_refl _))
      clear ho6 hb6
      go_wp2
      go_ret
      exact ⟨a6, m + 1, c6, _, rfl, HO6.out, by omega, hfm2, HD6.out⟩
    · omega
  have b2 : (y == 2) = false := by simpa using q2
  by_cases q3 : y = 3
  · have b3 : (y == 3) = true := by simpa using q3
    clear q3
    go_wp2_with fail
    refine (below_any b a n c 3 (by omega) (by omega) w3 HD3.out.1).mono ?_
    rintro e w4 ⟨v, hv0, hv1, rfl, hd4⟩
    have HO4 := HO3.out.only hd4.2 HO3.out.span (Or.inl hb)
    have fz := HO4.2.frozenAt (k * 4 + 0)
    obtain ⟨u, hu⟩ := row_cell HO4.2 (k := k * 4 + 0) (by omega)
    rw [Nat.add_zero] at fz hu
    obtain ⟨l', hp, hg, hfm'⟩ := ownf_put HO4 hkm 0 (by omega) (1 + v)
    rw [Nat.add_zero] at hp hg
    have HP := Lib.hid hp
    have HD4 := HD3.out.trans hd4
    have HD5 := Lib.hid (Curs.far HD4.1 hg hgb HC.out HD4 (by omega))
    clear hp hg HO4 HD4 hd4
    go_wp2
    go_ret
    exact ⟨_, m, c1, l', rfl, HP.out, by omega, hfm' hfm (by unfold I64; omega), HD5.out⟩
  have b3 : (y == 3) = false := by simpa using q3
  by_cases q4 : y = 4
  · have b4 : (y == 4) = true := by simpa using q4
    clear q4
    have HT := Lib.hid (ownf_take HO3.out (k + 1) (by omega) hm1)
    have hrm := HO3.out.room
    go_wp2
    go_ret
    exact ⟨_, k + 1, c1, _, rfl, HT.out, by omega, hfm.take _, HD3.out⟩
  have b4 : (y == 4) = false := by simpa using q4
  clear q0 q1 q2 q3 q4
  go_wp2
  go_ret
  exact ⟨_, m, c1, l, rfl, HO3.out, by omega, hfm, HD3.out⟩
/-- Two lists of fields, as a law draws them. -/
def DrewFF (w : World) (e : Ending) (w' : World) : Prop :=
  ∃ (f : Option Addr) (fn fc : Nat) (l : List Fd) (g : Option Addr) (gn gc : Nat) (l' : List Fd), e = .returned (.tuple #[.slice f fn fc, .slice g gn gc]) ∧ Fds w' f fn l ∧ Fds w' g gn l' ∧ (fn ≤ fc ∧ (fc : Int) ≤ 9223372036854775807) ∧ (gn ≤ gc ∧ (gc : Int) ≤ 9223372036854775807) ∧ fn ≤ 7 ∧ gn ≤ 7 ∧ Below w.heap.size w w'
set_option maxHeartbeats 2000000 in
set_option maxRecDepth 100000 in
theorem drawIsWithin_any (a : Option Addr) (n c : Nat) (w : World) (h : Code w a n) : Calls Try.prog 30 #[.slice a n c] w (DrewFF w) := by
  have H := Lib.hid h
  clear h
  go_enter Try.func30, Try.ntmps30
  go_wp2_with fail
  refine (new_any a n c H.out.2 w H.out.1).mono ?_
  rintro e w1 ⟨rfl, hc1, hb1⟩
  have HC1 := Lib.hid hc1
  have HB1 := Lib.hid hb1
  have hs1 := hb1.size
  have hlt := hc1.lt
  clear hc1 hb1
  go_wp2_with fail
  refine (drawF_any w.heap.size a n c w1 HC1.out).mono ?_
  rintro e w2 ⟨gf, fn, fc, l, rfl, ho2, hm1, hm5, hfm, hd2⟩
  have HF2 := Lib.hid ho2
  have HD2 := Lib.hid hd2
  have hs2 := hd2.2.size
  clear ho2 hd2
  go_wp2_with fail
  refine (next_any w.heap.size a n c w2 HD2.out.1 _ fn fc l (HF2.out.items Fd.enc_len) hm1 hm5 hfm).mono ?_
  rintro e w3 ⟨f5, m5, c5, l5, rfl, ho5, hm7, hfm5, hd3⟩
  have HO5 := Lib.hid ho5
  have HF3 := Lib.hid (HF2.out.only hd3.2 HF2.out.span (Or.inl hlt))
  have HD3 := Lib.hid (HD2.out.trans hd3)
  have hs3 := hd3.2.size
  have hlt2 : w.heap.size < w2.heap.size := by omega
  clear ho5 hd3
  go_wp2_with fail
  refine (below_any w.heap.size a n c 8 (by omega) (by omega) _ HD3.out.1).mono ?_
  rintro e w4 ⟨x, hx0, hx1, rfl, hd4⟩
  have HF4 := Lib.hid (HF3.out.only hd4.2 HF3.out.span (Or.inl hlt))
  have HO6 := Lib.hid (HO5.out.only hd4.2 HO5.out.span (Or.inl hlt2))
  have HD4 := Lib.hid (HD3.out.trans hd4)
  have HB4 := Lib.hid (HB1.out.trans (HD4.out.below (Nat.le_refl _) hs1))
  have hs4 := hd4.2.size
  clear hd4
  by_cases q0 : x = 0
  · have b0 : (x == 0) = true := by simpa using q0
    clear q0
    go_wp2_with fail
    go_ret2
    exact ⟨f5, m5, c5, l5, _, fn, fc, l, rfl, HO6.out.items Fd.enc_len, HF4.out.items Fd.enc_len, HO6.out.room, HF4.out.room, hm7, by omega, HB4.out⟩
  · have b0 : (x == 0) = false := by simpa using q0
    clear q0
    by_cases q1 : x = 1
    · have b1 : (x == 1) = true := by simpa using q1
      clear q1
      go_wp2_with fail
      refine (anyF_any w.heap.size a n c w4 HD4.out.1).mono ?_
      rintro e w5 ⟨f6, m6, c6, l6, rfl, ho6, hm6, hfm6, hd5⟩
      have HO7 := Lib.hid ho6
      have HF5 := Lib.hid (HF4.out.only hd5.2 HF4.out.span (Or.inl hlt))
      have HB5 := Lib.hid (HB1.out.trans ((HD4.out.trans hd5).below (Nat.le_refl _) hs1))
      clear ho6 hd5
      go_wp2_with fail
      go_ret2
      exact ⟨_, fn, fc, l, f6, m6, c6, l6, rfl, HF5.out.items Fd.enc_len, HO7.out.items Fd.enc_len, HF5.out.room, HO7.out.room, by omega, hm6, HB5.out⟩
    · have b1 : (x == 1) = false := by simpa using q1
      clear q1
      go_wp2_with fail
      go_ret2
      exact ⟨_, fn, fc, l, f5, m5, c5, l5, rfl, HF4.out.items Fd.enc_len, HO6.out.items Fd.enc_len, HF4.out.room, HO6.out.room, by omega, hm7, HB4.out⟩
set_option maxRecDepth 100000 in
theorem drawBreakOf_any (a : Option Addr) (n c : Nat) (w : World) (h : Code w a n) : Calls Try.prog 10 #[.slice a n c] w (DrewFF w) := by
  have K := Lib.hid (drawIsWithin_any a n c w h)
  unfold DrewFF at K
  unfold DrewFF
  clear h
  go_enter Try.func10, Try.ntmps10
  go_wp2_with fail
  refine K.out.mono ?_
  rintro e w1 ⟨f, fn, fc, l, g, gn, gc, l', rfl, h1, h2, h3, h4, h5, h6, h7⟩
  have HALL := Lib.hid (And.intro h1 (And.intro h2 (And.intro h3 (And.intro h4 (And.intro h5 (And.intro h6 h7))))))
  clear h1 h2 h3 h4 h5 h6 h7
  go_wp2_with fail
  go_ret2
  exact ⟨f, fn, fc, l, g, gn, gc, l', rfl, HALL.out⟩
end Go.Proofs.Ytjkjnhkamieljaa
namespace Go.Proofs.Ytjkjnhkamieljaa
open Go.ChangeShapes Go.WideShapes Go.ChangeAt Go.RowKit
set_option linter.unusedVariables false

theorem inR_any (n l h : Int) (w : World) :
    Calls Try.prog 33 #[.int .i64 n, .int .i64 l, .int .i64 h] w fun e w' => e = .returned (.bool (decide (l ≤ n ∧ n ≤ h))) ∧ w = w' := by
  by_cases h1 : l ≤ n <;> by_cases h2 : n ≤ h <;> (go_enter Try.func33, Try.ntmps33; go_wp2; go_ret; exact ⟨by simp [h1, h2], rfl⟩)
theorem l1R_any (n l h : Int) (w : World) :
    Calls Try.prog 50 #[.int .i64 n, .int .i64 l, .int .i64 h] w fun e w' => e = .returned (.bool (decide (l ≤ n ∧ n ≤ h))) ∧ w = w' := by
  by_cases h1 : l ≤ n <;> by_cases h2 : n ≤ h <;> (go_enter Try.func50, Try.ntmps50; go_wp2; go_ret; exact ⟨by simp [h1, h2], rfl⟩)

/-- A kind's name. -/
def nameOf (k : Int) : List UInt8 := if k = 1 then [110, 117, 109] else if k = 2 then [116, 101, 120, 116] else if k = 3 then [108, 105, 115, 116] else []
/-- A kind's greatest Max. -/
def mostOf (k : Int) : Int := if k = 1 then 99 else if k = 2 then 5 else if k = 3 then 5 else 0
/-- The value that stands for a kind. -/
def typeVal (k : Int) : Value := if k = 1 then .iface 79 (.agg #[]) else if k = 2 then .iface 80 (.agg #[]) else if k = 3 then .iface 81 (.agg #[]) else .iface 82 (.agg #[])

set_option maxRecDepth 100000 in
theorem typeOf_any (k : Int) (w : World) : Calls Try.prog 34 #[.int .i64 k] w fun e w' => e = .returned (typeVal k) ∧ w = w' := by
  by_cases h1 : k = 1
  · subst h1
    go_enter Try.func34, Try.ntmps34
    go_wp2
    go_ret
    exact ⟨rfl, rfl⟩
  · by_cases h2 : k = 2
    · subst h2
      go_enter Try.func34, Try.ntmps34
      go_wp2
      go_ret
      exact ⟨rfl, rfl⟩
    · by_cases h3 : k = 3
      · subst h3
        go_enter Try.func34, Try.ntmps34
        go_wp2
        go_ret
        exact ⟨rfl, rfl⟩
      · have e1 : (k == 1) = false := by simpa using h1
        have e2 : (k == 2) = false := by simpa using h2
        have e3 : (k == 3) = false := by simpa using h3
        go_enter Try.func34, Try.ntmps34
        go_wp2
        go_ret
        exact ⟨by simp [typeVal, h1, h2, h3], rfl⟩

theorem mostNum_any (w : World) : Calls Try.prog 114 #[.agg #[]] w (Told (.int .i64 99) w) := by
  go_enter Try.func114, Try.ntmps114
  go_wp2
  go_ret
  exact ⟨rfl, (Below.refl _ w).alloc (Nat.le_refl _) _⟩
theorem mostText_any (w : World) : Calls Try.prog 116 #[.agg #[]] w (Told (.int .i64 5) w) := by
  go_enter Try.func116, Try.ntmps116
  go_wp2
  go_ret
  exact ⟨rfl, (Below.refl _ w).alloc (Nat.le_refl _) _⟩
theorem mostList_any (w : World) : Calls Try.prog 118 #[.agg #[]] w (Told (.int .i64 5) w) := by
  go_enter Try.func118, Try.ntmps118
  go_wp2
  go_ret
  exact ⟨rfl, (Below.refl _ w).alloc (Nat.le_refl _) _⟩
theorem mostNo_any (w : World) : Calls Try.prog 120 #[.agg #[]] w (Told (.int .i64 0) w) := by
  go_enter Try.func120, Try.ntmps120
  go_wp2
  go_ret
  exact ⟨rfl, (Below.refl _ w).alloc (Nat.le_refl _) _⟩
end Go.Proofs.Ytjkjnhkamieljaa
namespace Go.Proofs.Ytjkjnhkamieljaa
open Go.ChangeShapes Go.WideShapes Go.ChangeAt Go.RowKit
set_option linter.unusedVariables false

theorem beq_dec (x y : Int) : (x == y) = decide (x = y) := by by_cases h : x = y <;> simp [h]
/-- The condition of a field behind the fields l looks back at a number that is there always, and at a value that it can have. -/
def condOk (l : List Fd) (x : Fd) : Bool :=
  if x.cond = -1 then decide (x.is = 0)
  else decide (0 ≤ x.cond ∧ x.cond ≤ (l.length : Int) - 1) && (match l[x.cond.toNat]? with
    | some g => decide (g.kind = 1) && decide (g.cond = -1) && decide (0 ≤ x.is ∧ x.is ≤ g.max)
    | none => false)
def fieldOk (l : List Fd) (x : Fd) : Bool := decide (1 ≤ x.max ∧ x.max ≤ mostOf x.kind) && condOk l x
/-- The first j fields are as they must be. -/
def okTo (l : List Fd) (j : Nat) : Prop := ∀ i x, i < j → l[i]? = some x → fieldOk (l.take i) x = true
def IsFmt (l : List Fd) : Prop := (1 ≤ l.length ∧ l.length ≤ 6) ∧ okTo l l.length
noncomputable def isFmt (l : List Fd) : Bool := @decide (IsFmt l) (Classical.propDecidable _)

set_option maxRecDepth 100000 in
theorem condAfter_any (a : Option Addr) (n c : Nat) (l : List Fd) (x : Fd) (w : World) (h : Fds w a n l) (hn : n ≤ 1000000000) :
    Calls Try.prog 35 #[.slice a n c, x.val] w (Told (.bool (condOk l x)) w) := by
  have H := Lib.hid h
  have hl := h.len
  clear h
  unfold Fd.val
  by_cases h1 : x.cond = -1
  · have e1 : (x.cond == -1) = true := by simpa using h1
    have e2 : condOk l x = decide (x.is = 0) := by simp [condOk, h1]
    rw [e2, h1]
    clear e2 e1 h1
    go_enter Try.func35, Try.ntmps35
    go_wp2
    go_ret
    exact ⟨by rw [beq_dec]; rfl, (Below.refl _ w).alloc (Nat.le_refl _) _⟩
  · have e1 : (x.cond == -1) = false := by simpa using h1
    by_cases h2 : 0 ≤ x.cond ∧ x.cond ≤ (l.length : Int) - 1
    · have e2 : decide (0 ≤ x.cond ∧ x.cond ≤ (n : Int) - 1) = true := by rw [← hl]; simpa using h2
      obtain ⟨k, hk⟩ : ∃ k : Nat, x.cond = k := ⟨x.cond.toNat, by omega⟩
      have hkn : k < n := by omega
      obtain ⟨b, o, g, rfl, hg, hc0, hc1, hc2, hc3⟩ := fds_at H.out (j := k) hkn
      have e3 : condOk l x = (decide (g.kind = 1) && decide (g.cond = -1) && decide (0 ≤ x.is ∧ x.is ≤ g.max)) := by
        unfold condOk
        rw [if_neg h1, decide_eq_true h2, hk, Int.toNat_natCast, hg]
        rfl
      rw [e3]
      rw [hk] at e1 e2 ⊢
      have ha0 : ∀ ob, (w.alloc ob).cell? ⟨b, o + k * 4, none⟩ = some (.int .i64 g.kind) := fun ob => by rw [(alloc_same w ob).cell (cell_in hc0)]; exact hc0
      have ha1 : ∀ ob, (w.alloc ob).cell? ⟨b, o + k * 4 + 1, none⟩ = some (.int .i64 g.max) := fun ob => by rw [(alloc_same w ob).cell (cell_in hc1)]; exact hc1
      have ha2 : ∀ ob, (w.alloc ob).cell? ⟨b, o + k * 4 + 2, none⟩ = some (.int .i64 g.cond) := fun ob => by rw [(alloc_same w ob).cell (cell_in hc2)]; exact hc2
      have ha3 : ∀ ob, (w.alloc ob).cell? ⟨b, o + k * 4 + 3, none⟩ = some (.int .i64 g.is) := fun ob => by rw [(alloc_same w ob).cell (cell_in hc3)]; exact hc3
      clear e3 h2 hg hc0 hc1 hc2 hc3
      by_cases q1 : g.kind = 1
      · have b1 : (g.kind == 1) = true := by simpa using q1
        by_cases q2 : g.cond = -1
        · have b2 : (g.cond == -1) = true := by simpa using q2
          rw [decide_eq_true q1, decide_eq_true q2]
          clear q1 q2
          go_enter Try.func35, Try.ntmps35
          go_wp2_with (go_at_call 33; refine (inR_any _ _ _ _).mono ?_; first | (rw [e2]; rintro e w' ⟨rfl, rfl⟩) | rintro e w' ⟨rfl, rfl⟩)
          go_ret
          exact ⟨by simp, ((Below.refl _ w).alloc (Nat.le_refl _) _).alloc (by simp) _⟩
        · have b2 : (g.cond == -1) = false := by simpa using q2
          rw [decide_eq_true q1, decide_eq_false q2]
          clear q1 q2
          go_enter Try.func35, Try.ntmps35
          go_wp2_with (go_at_call 33; refine (inR_any _ _ _ _).mono ?_; first | (rw [e2]; rintro e w' ⟨rfl, rfl⟩) | rintro e w' ⟨rfl, rfl⟩)
          go_ret
          exact ⟨by simp, ((Below.refl _ w).alloc (Nat.le_refl _) _).alloc (by simp) _⟩
      · have b1 : (g.kind == 1) = false := by simpa using q1
        rw [decide_eq_false q1]
        clear q1
        go_enter Try.func35, Try.ntmps35
        go_wp2_with (go_at_call 33; refine (inR_any _ _ _ _).mono ?_; first | (rw [e2]; rintro e w' ⟨rfl, rfl⟩) | rintro e w' ⟨rfl, rfl⟩)
        go_ret
        exact ⟨by simp, ((Below.refl _ w).alloc (Nat.le_refl _) _).alloc (by simp) _⟩
    · have e2 : decide (0 ≤ x.cond ∧ x.cond ≤ (n : Int) - 1) = false := by rw [← hl]; simpa using h2
      have e3 : condOk l x = false := by unfold condOk; rw [if_neg h1, decide_eq_false h2]; rfl
      rw [e3]
      clear e3
      go_enter Try.func35, Try.ntmps35
      go_wp2_with (go_at_call 33; refine (inR_any _ _ _ _).mono ?_; rw [e2]; rintro e w' ⟨rfl, rfl⟩)
      go_ret
      exact ⟨rfl, (Below.refl _ w).alloc (Nat.le_refl _) _⟩
end Go.Proofs.Ytjkjnhkamieljaa
namespace Go.Proofs.Ytjkjnhkamieljaa
open Go.ChangeShapes Go.WideShapes Go.ChangeAt Go.RowKit
set_option linter.unusedVariables false
set_option linter.unusedSimpArgs false

theorem cell_kept {w w' : World} {a : Addr} {v : Value} (h : w.cell? a = some v) (hb : Below w.heap.size w w') : w'.cell? a = some v := by
  rw [hb.cell (cell_in h)]; exact h
theorem typeNum (w : World) : Calls Try.prog 34 #[.int .i64 1] w fun e w' => e = .returned (.iface 79 (.agg #[])) ∧ w = w' := typeOf_any 1 w
theorem typeText (w : World) : Calls Try.prog 34 #[.int .i64 2] w fun e w' => e = .returned (.iface 80 (.agg #[])) ∧ w = w' := typeOf_any 2 w
theorem typeList (w : World) : Calls Try.prog 34 #[.int .i64 3] w fun e w' => e = .returned (.iface 81 (.agg #[])) ∧ w = w' := typeOf_any 3 w
theorem typeNo (k : Int) (h : k ≠ 1 ∧ k ≠ 2 ∧ k ≠ 3) (w : World) : Calls Try.prog 34 #[.int .i64 k] w fun e w' => e = .returned (.iface 82 (.agg #[])) ∧ w = w' := by
  have := typeOf_any k w
  rw [show typeVal k = .iface 82 (.agg #[]) by simp [typeVal, h.1, h.2.1, h.2.2]] at this
  exact this
theorem okTo_zero (l : List Fd) : okTo l 0 := fun i x h => absurd h (by omega)
theorem okTo_succ {l : List Fd} {j : Nat} {x : Fd} (h : okTo l j) (hx : l[j]? = some x) (hf : fieldOk (l.take j) x = true) : okTo l (j + 1) := by
  intro i y hi hy
  by_cases e : i = j
  · subst e
    rw [hx] at hy
    cases hy
    exact hf
  · exact h i y (by omega) hy
theorem isFmt_no {l : List Fd} {j : Nat} {x : Fd} (hx : l[j]? = some x) (hf : fieldOk (l.take j) x = false) : isFmt l = false := by
  have hj : j < l.length := by
    rcases Nat.lt_or_ge j l.length with h | h
    · exact h
    · rw [List.getElem?_eq_none h] at hx; cases hx
  unfold isFmt
  refine @decide_eq_false _ (Classical.propDecidable _) fun h => ?_
  have := h.2 j x hj hx
  rw [hf] at this
  cases this
theorem isFmt_yes {l : List Fd} (h : 1 ≤ l.length ∧ l.length ≤ 6) (ho : okTo l l.length) : isFmt l = true := @decide_eq_true _ (Classical.propDecidable _) ⟨h, ho⟩
theorem isFmt_len {l : List Fd} (h : ¬ (1 ≤ l.length ∧ l.length ≤ 6)) : isFmt l = false := @decide_eq_false _ (Classical.propDecidable _) fun h' => h h'.1
theorem isFmt_iff {l : List Fd} : isFmt l = true ↔ IsFmt l := by unfold isFmt; exact @decide_eq_true_iff _ (Classical.propDecidable _)

set_option maxHeartbeats 4000000 in
set_option maxRecDepth 100000 in
theorem isFormat_any (a : Option Addr) (n c : Nat) (l : List Fd) (w : World) (h : Fds w a n l) (hc : n ≤ c ∧ (c : Int) ≤ 9223372036854775807) :
    Calls Try.prog 13 #[.slice a n c] w (Told (.bool (isFmt l)) w) := by
  have H := Lib.hid h
  have hl := Lib.hid h.len
  have hn := h.fits
  clear h
  by_cases hlen : 1 ≤ n ∧ n ≤ 6
  · have e0 : decide ((1 : Int) ≤ (n : Int) ∧ (n : Int) ≤ 6) = true := by simp; omega
    go_enter Try.func13, Try.ntmps13
    go_wp2_with (go_at_call 33; refine (inR_any _ _ _ _).mono ?_; rw [e0]; rintro e w' ⟨rfl, rfl⟩)
    clear e0
    go_loopw [11] (fun i wr => ∃ j : Nat, j ≤ n ∧ i = .int .i64 j ∧ okTo l j ∧ Below w.heap.size w wr) (fun i _ => n - (intOf i).toNat)
    case atStart => exact ⟨0, Nat.zero_le _, rfl, okTo_zero l, Below.refl _ _⟩
    case round =>
      obtain ⟨j, hj, rfl, hok, hb⟩ := hrel
      have HB := Lib.hid hb
      have HO := Lib.hid hok
      clear hb hok
      by_cases hlt : j < n
      · obtain ⟨b, o, ⟨xk, xm, xt, xi⟩, rfl, hx, hc0, hc1, hc2, hc3⟩ := fds_at (H.out.same HB.out) hlt
        have HX := Lib.hid hx
        clear hx
        dsimp only at hc0 hc1 hc2 hc3
        have hcond : Hid (∀ (cb : Bool), condOk (l.take j) ⟨xk, xm, xt, xi⟩ = cb → ∀ (w0 : World), Below w.heap.size w w0 → Calls Try.prog 35 #[.slice (some ⟨b, o, none⟩) j c, .agg #[.int .i64 xk, .int .i64 xm, .int .i64 xt, .int .i64 xi]] w0 (Told (.bool cb) w0)) := Lib.hid (fun cb e w0 hb0 => e ▸ condAfter_any (some ⟨b, o, none⟩) j c (l.take j) ⟨xk, xm, xt, xi⟩ w0 ((H.out.same hb0).take j hj) (by omega))
        go_wp2_with fail
        have HW0 : Hid (Below w.heap.size w (wr.alloc (.cells #[.int .i64 xk, .int .i64 xm, .int .i64 xt, .int .i64 xi] 50))) := Lib.hid (HB.out.alloc HB.out.size _)
        have C0 : Hid ((wr.alloc (.cells #[.int .i64 xk, .int .i64 xm, .int .i64 xt, .int .i64 xi] 50)).cell? ⟨wr.heap.size, 0, none⟩ = some (.int .i64 xk)) := Lib.hid (by simp)
        have C1 : Hid ((wr.alloc (.cells #[.int .i64 xk, .int .i64 xm, .int .i64 xt, .int .i64 xi] 50)).cell? ⟨wr.heap.size, 1, none⟩ = some (.int .i64 xm)) := Lib.hid (by simp)
        have C2 : Hid ((wr.alloc (.cells #[.int .i64 xk, .int .i64 xm, .int .i64 xt, .int .i64 xi] 50)).cell? ⟨wr.heap.size, 2, none⟩ = some (.int .i64 xt)) := Lib.hid (by simp)
        have C3 : Hid ((wr.alloc (.cells #[.int .i64 xk, .int .i64 xm, .int .i64 xt, .int .i64 xi] 50)).cell? ⟨wr.heap.size, 3, none⟩ = some (.int .i64 xi)) := Lib.hid (by simp)
        clear hc0 hc1 hc2 hc3
        generalize wr.alloc (.cells #[.int .i64 xk, .int .i64 xm, .int .i64 xt, .int .i64 xi] 50) = W0 at *
        have hjc : j ≤ c := by omega
        have hjc2 : (j : Int) ≤ (c : Int) := by omega
        have hoc : ¬ c = 0 := by omega
        have hq : xk = 1 ∨ xk = 2 ∨ xk = 3 ∨ (xk ≠ 1 ∧ xk ≠ 2 ∧ xk ≠ 3) := by omega
        rcases hq with rfl | rfl | rfl | hno
        · by_cases hm : 1 ≤ xm ∧ xm ≤ 99
          · have em : decide ((1 : Int) ≤ xm ∧ xm ≤ 99) = true := by simpa using hm
            cases hcd : condOk (l.take j) ⟨1, xm, xt, xi⟩ with
            | true =>
              have hfo : fieldOk (l.take j) ⟨1, xm, xt, xi⟩ = true := by unfold fieldOk; rw [hcd]; simp [mostOf]; omega
              have HOK := Lib.hid (okTo_succ HO.out HX.out hfo)
              clear hfo hm
              go_region_held3 (fun w' => w'.cell? ⟨wr.heap.size, 0, none⟩ = some (.int .i64 1) ∧ w'.cell? ⟨wr.heap.size, 1, none⟩ = some (.int .i64 xm) ∧ w'.cell? ⟨wr.heap.size, 2, none⟩ = some (.int .i64 xt) ∧ w'.cell? ⟨wr.heap.size, 3, none⟩ = some (.int .i64 xi)) (first | exact ⟨cell_kept C0.out (Below.refl _ _).drew, cell_kept C1.out (Below.refl _ _).drew, cell_kept C2.out (Below.refl _ _).drew, cell_kept C3.out (Below.refl _ _).drew⟩ | exact ⟨cell_kept C0.out HB1.out, cell_kept C1.out HB1.out, cell_kept C2.out HB1.out, cell_kept C3.out HB1.out⟩ | exact ⟨cell_kept C0.out HB2.out, cell_kept C1.out HB2.out, cell_kept C2.out HB2.out, cell_kept C3.out HB2.out⟩) ((first | (go_at_call 34; refine (typeNum _).mono ?_; rintro e w' ⟨rfl, rfl⟩) | (go_at_call 114; refine (mostNum_any _).mono ?_; rintro e w1 ⟨rfl, hb1⟩; have HB1 : Hid (Below W0.heap.size W0 w1) := Lib.hid ((Below.refl _ W0).drew.trans (hb1.mono (Nat.le_refl _))); clear hb1) | (go_at_call 33; refine (inR_any _ _ _ _).mono ?_; rw [em]; rintro e w' ⟨rfl, rfl⟩) | (go_at_call 35; refine (hcond.out _ hcd w1 (HW0.out.trans (HB1.out.mono HW0.out.size))).mono ?_; rintro e w2 ⟨rfl, hb2⟩; have HB2 : Hid (Below W0.heap.size W0 w2) := Lib.hid (HB1.out.trans (hb2.mono HB1.out.size)); clear hb2)))
              all_goals
                go_wp2
                go_roundw
                case rel => exact ⟨j + 1, by omega, by go_num, HOK.out, HW0.out.trans (HB2.out.mono HW0.out.size)⟩
                case measure => simp [intOf]; omega
            | false =>
              have hfo : fieldOk (l.take j) ⟨1, xm, xt, xi⟩ = false := by unfold fieldOk; rw [hcd]; simp
              have HNO := Lib.hid (isFmt_no HX.out hfo)
              clear hfo hm
              go_region_held3 (fun w' => w'.cell? ⟨wr.heap.size, 0, none⟩ = some (.int .i64 1) ∧ w'.cell? ⟨wr.heap.size, 1, none⟩ = some (.int .i64 xm) ∧ w'.cell? ⟨wr.heap.size, 2, none⟩ = some (.int .i64 xt) ∧ w'.cell? ⟨wr.heap.size, 3, none⟩ = some (.int .i64 xi)) (first | exact ⟨cell_kept C0.out (Below.refl _ _).drew, cell_kept C1.out (Below.refl _ _).drew, cell_kept C2.out (Below.refl _ _).drew, cell_kept C3.out (Below.refl _ _).drew⟩ | exact ⟨cell_kept C0.out HB1.out, cell_kept C1.out HB1.out, cell_kept C2.out HB1.out, cell_kept C3.out HB1.out⟩ | exact ⟨cell_kept C0.out HB2.out, cell_kept C1.out HB2.out, cell_kept C2.out HB2.out, cell_kept C3.out HB2.out⟩) ((first | (go_at_call 34; refine (typeNum _).mono ?_; rintro e w' ⟨rfl, rfl⟩) | (go_at_call 114; refine (mostNum_any _).mono ?_; rintro e w1 ⟨rfl, hb1⟩; have HB1 : Hid (Below W0.heap.size W0 w1) := Lib.hid ((Below.refl _ W0).drew.trans (hb1.mono (Nat.le_refl _))); clear hb1) | (go_at_call 33; refine (inR_any _ _ _ _).mono ?_; rw [em]; rintro e w' ⟨rfl, rfl⟩) | (go_at_call 35; refine (hcond.out _ hcd w1 (HW0.out.trans (HB1.out.mono HW0.out.size))).mono ?_; rintro e w2 ⟨rfl, hb2⟩; have HB2 : Hid (Below W0.heap.size W0 w2) := Lib.hid (HB1.out.trans (hb2.mono HB1.out.size)); clear hb2)))
              all_goals
                go_wp2
                go_ret
                exact ⟨by rw [HNO.out]; rfl, HW0.out.trans (HB2.out.mono HW0.out.size)⟩
          · have em : decide ((1 : Int) ≤ xm ∧ xm ≤ 99) = false := by simpa using hm
            have hcd : condOk (l.take j) ⟨1, xm, xt, xi⟩ = condOk (l.take j) ⟨1, xm, xt, xi⟩ := rfl
            have hfo : fieldOk (l.take j) ⟨1, xm, xt, xi⟩ = false := by unfold fieldOk; rw [show mostOf (Fd.mk 1 xm xt xi).kind = 99 from by simp [mostOf]]; dsimp only; rw [em]; rfl
            have HNO := Lib.hid (isFmt_no HX.out hfo)
            clear hfo hm
            refine wp_region_held_drew (S := (fun w' => w'.cell? ⟨wr.heap.size, 0, none⟩ = some (.int .i64 1) ∧ w'.cell? ⟨wr.heap.size, 1, none⟩ = some (.int .i64 xm))) (by kernel_rfl) ⟨cell_kept C0.out (Below.refl _ _).drew, cell_kept C1.out (Below.refl _ _).drew⟩ (fun hHeld => ?_)
            refine wpAnyH_take (i := 0) (v := ?v1) (by simp only [List.getElem?_toArray, List.getElem?_cons_succ, List.getElem?_cons_zero]; rfl) (by kernel_rfl) (by kernel_rfl) (by kernel_rfl) (by exact fun _ _ _ h => h) (Or.inl ⟨by rfl, fun w9 hS9 => ?hy1⟩) hHeld ?rest1
            case hy1 =>
              obtain ⟨hs0, hs1⟩ := hS9
              go_simp
              try with_reducible rfl
            try simp only [Act.put, List.setIfInBounds_toArray, List.set_cons_zero, List.set_cons_succ]
            refine wpAnyH_take (i := 1) (v := ?v2) (by simp only [List.getElem?_toArray, List.getElem?_cons_succ, List.getElem?_cons_zero]; rfl) (by kernel_rfl) (by kernel_rfl) (by kernel_rfl) (by exact fun _ _ _ h => h) (Or.inl ⟨by rfl, fun w9 hS9 => ?hy2⟩) hHeld ?rest2
            case hy2 =>
              obtain ⟨hs0, hs1⟩ := hS9
              go_simp
              try with_reducible rfl
            try simp only [Act.put, List.setIfInBounds_toArray, List.set_cons_zero, List.set_cons_succ]
            refine wpAnyH_take (i := 2) (v := ?v3) (by simp only [List.getElem?_toArray, List.getElem?_cons_succ, List.getElem?_cons_zero]; rfl) (by kernel_rfl) (by kernel_rfl) (by kernel_rfl) (by exact fun _ _ _ h => h) (Or.inl ⟨by rfl, fun w9 hS9 => ?hy3⟩) hHeld ?rest3
            case hy3 =>
              obtain ⟨hs0, hs1⟩ := hS9
              go_simp
              try with_reducible rfl
            try simp only [Act.put, List.setIfInBounds_toArray, List.set_cons_zero, List.set_cons_succ]
            refine wpAnyH_take (i := 3) (v := ?v4) (by simp only [List.getElem?_toArray, List.getElem?_cons_succ, List.getElem?_cons_zero]; rfl) (by kernel_rfl) (by kernel_rfl) (by kernel_rfl) (by exact fun _ _ _ h => h) (Or.inl ⟨by rfl, fun w9 hS9 => ?hy4⟩) hHeld ?rest4
            case hy4 =>
              obtain ⟨hs0, hs1⟩ := hS9
              go_simp
              try with_reducible rfl
            try simp only [Act.put, List.setIfInBounds_toArray, List.set_cons_zero, List.set_cons_succ]
            refine wpAnyH_ready (rs := [4]) (by kernel_rfl) (by simp) (AllReadyH.cons (by simp only [List.getElem?_toArray, List.getElem?_cons_succ, List.getElem?_cons_zero]; rfl) (fun K hK => ?_) AllReadyH.nil)
            go_simp
            refine (typeNum _).mono ?_
            rintro e w' ⟨rfl, rfl⟩
            go_wp2_with fail
            refine hK.out _ _ ⟨cell_kept C0.out (Below.refl _ _).drew, cell_kept C1.out (Below.refl _ _).drew⟩ (fun hHeld => ?_)
            clear hK K
            try simp only [Act.put, List.setIfInBounds_toArray, List.set_cons_zero, List.set_cons_succ]
            refine wpAnyH_ready (rs := [5]) (by kernel_rfl) (by simp) (AllReadyH.cons (by simp only [List.getElem?_toArray, List.getElem?_cons_succ, List.getElem?_cons_zero]; rfl) (fun K hK => ?_) AllReadyH.nil)
            go_simp
            go_wp2_with (go_at_call 114; refine (mostNum_any _).mono ?_; rintro e w1 ⟨rfl, hb1⟩; have HB1 : Hid (Below W0.heap.size W0 w1) := Lib.hid ((Below.refl _ W0).drew.trans (hb1.mono (Nat.le_refl _))); clear hb1)
            refine hK.out _ _ ⟨cell_kept C0.out HB1.out, cell_kept C1.out HB1.out⟩ (fun hHeld => ?_)
            clear hK K
            try simp only [Act.put, List.setIfInBounds_toArray, List.set_cons_zero, List.set_cons_succ]
            refine wpAnyH_ready (rs := [6]) (by kernel_rfl) (by simp) (AllReadyH.cons (by simp only [List.getElem?_toArray, List.getElem?_cons_succ, List.getElem?_cons_zero]; rfl) (fun K hK => ?_) AllReadyH.nil)
            go_simp
            refine (inR_any _ _ _ _).mono ?_
            rw [em]
            rintro e w' ⟨rfl, rfl⟩
            go_wp2_with fail
            refine hK.out _ _ ⟨cell_kept C0.out HB1.out, cell_kept C1.out HB1.out⟩ (fun hHeld => ?_)
            clear hK K
            try simp only [Act.put, List.setIfInBounds_toArray, List.set_cons_zero, List.set_cons_succ]
            refine wpAnyH_take (i := 7) (v := ?v5) (by simp only [List.getElem?_toArray, List.getElem?_cons_succ, List.getElem?_cons_zero]; rfl) (by kernel_rfl) (by kernel_rfl) (by kernel_rfl) (by exact fun _ _ _ h => h) (Or.inl ⟨by rfl, fun w9 hS9 => ?hy5⟩) hHeld ?rest5
            case hy5 =>
              obtain ⟨hs0, hs1⟩ := hS9
              go_simp
              try with_reducible rfl
            try simp only [Act.put, List.setIfInBounds_toArray, List.set_cons_zero, List.set_cons_succ]
            refine wpAnyH_take (i := 8) (v := ?v6) (by simp only [List.getElem?_toArray, List.getElem?_cons_succ, List.getElem?_cons_zero]; rfl) (by kernel_rfl) (by kernel_rfl) (by kernel_rfl) (by exact fun _ _ _ h => h) (Or.inl ⟨by rfl, fun w9 hS9 => ?hy6⟩) hHeld ?rest6
            case hy6 =>
              obtain ⟨hs0, hs1⟩ := hS9
              go_simp
              try with_reducible rfl
            try simp only [Act.put, List.setIfInBounds_toArray, List.set_cons_zero, List.set_cons_succ]
            refine wpAnyH_take (i := 9) (v := undef) (by simp only [List.getElem?_toArray, List.getElem?_cons_succ, List.getElem?_cons_zero]; rfl) (by kernel_rfl) (by kernel_rfl) (by kernel_rfl) (by exact fun _ _ _ h => h) (Or.inr ⟨by rfl, rfl⟩) hHeld ?_
            try simp only [Act.put, List.setIfInBounds_toArray, List.set_cons_zero, List.set_cons_succ]
            refine wpAnyH_take (i := 10) (v := undef) (by simp only [List.getElem?_toArray, List.getElem?_cons_succ, List.getElem?_cons_zero]; rfl) (by kernel_rfl) (by kernel_rfl) (by kernel_rfl) (by exact fun _ _ _ h => h) (Or.inr ⟨by rfl, rfl⟩) hHeld ?_
            try simp only [Act.put, List.setIfInBounds_toArray, List.set_cons_zero, List.set_cons_succ]
            refine wpAnyH_take (i := 11) (v := undef) (by simp only [List.getElem?_toArray, List.getElem?_cons_succ, List.getElem?_cons_zero]; rfl) (by kernel_rfl) (by kernel_rfl) (by kernel_rfl) (by exact fun _ _ _ h => h) (Or.inr ⟨by rfl, rfl⟩) hHeld ?_
            try simp only [Act.put, List.setIfInBounds_toArray, List.set_cons_zero, List.set_cons_succ]
            refine wpAnyH_take (i := 12) (v := undef) (by simp only [List.getElem?_toArray, List.getElem?_cons_succ, List.getElem?_cons_zero]; rfl) (by kernel_rfl) (by kernel_rfl) (by kernel_rfl) (by exact fun _ _ _ h => h) (Or.inr ⟨by rfl, rfl⟩) hHeld ?_
            try simp only [Act.put, List.setIfInBounds_toArray, List.set_cons_zero, List.set_cons_succ]
            refine wpAnyH_take (i := 13) (v := undef) (by simp only [List.getElem?_toArray, List.getElem?_cons_succ, List.getElem?_cons_zero]; rfl) (by kernel_rfl) (by kernel_rfl) (by kernel_rfl) (by exact fun _ _ _ h => h) (Or.inr ⟨by rfl, rfl⟩) hHeld ?_
            try simp only [Act.put, List.setIfInBounds_toArray, List.set_cons_zero, List.set_cons_succ]
            refine wpAnyH_take (i := 14) (v := undef) (by simp only [List.getElem?_toArray, List.getElem?_cons_succ, List.getElem?_cons_zero]; rfl) (by kernel_rfl) (by kernel_rfl) (by kernel_rfl) (by exact fun _ _ _ h => h) (Or.inr ⟨by rfl, rfl⟩) hHeld ?_
            try simp only [Act.put, List.setIfInBounds_toArray, List.set_cons_zero, List.set_cons_succ]
            refine wpAnyH_take (i := 15) (v := ?v7) (by simp only [List.getElem?_toArray, List.getElem?_cons_succ, List.getElem?_cons_zero]; rfl) (by kernel_rfl) (by kernel_rfl) (by kernel_rfl) (by exact fun _ _ _ h => h) (Or.inl ⟨by rfl, fun w9 hS9 => ?hy7⟩) hHeld ?rest7
            case hy7 =>
              obtain ⟨hs0, hs1⟩ := hS9
              go_simp
              try with_reducible rfl
            try simp only [Act.put, List.setIfInBounds_toArray, List.set_cons_zero, List.set_cons_succ]
            refine wpAnyH_done (by kernel_rfl) ?_ _
            all_goals
              go_wp2
              go_ret
              exact ⟨by rw [HNO.out]; rfl, HW0.out.trans (HB1.out.mono HW0.out.size)⟩
        · by_cases hm : 1 ≤ xm ∧ xm ≤ 5
          · have em : decide ((1 : Int) ≤ xm ∧ xm ≤ 5) = true := by simpa using hm
            cases hcd : condOk (l.take j) ⟨2, xm, xt, xi⟩ with
            | true =>
              have hfo : fieldOk (l.take j) ⟨2, xm, xt, xi⟩ = true := by unfold fieldOk; rw [hcd]; simp [mostOf]; omega
              have HOK := Lib.hid (okTo_succ HO.out HX.out hfo)
              clear hfo hm
              go_region_held3 (fun w' => w'.cell? ⟨wr.heap.size, 0, none⟩ = some (.int .i64 2) ∧ w'.cell? ⟨wr.heap.size, 1, none⟩ = some (.int .i64 xm) ∧ w'.cell? ⟨wr.heap.size, 2, none⟩ = some (.int .i64 xt) ∧ w'.cell? ⟨wr.heap.size, 3, none⟩ = some (.int .i64 xi)) (first | exact ⟨cell_kept C0.out (Below.refl _ _).drew, cell_kept C1.out (Below.refl _ _).drew, cell_kept C2.out (Below.refl _ _).drew, cell_kept C3.out (Below.refl _ _).drew⟩ | exact ⟨cell_kept C0.out HB1.out, cell_kept C1.out HB1.out, cell_kept C2.out HB1.out, cell_kept C3.out HB1.out⟩ | exact ⟨cell_kept C0.out HB2.out, cell_kept C1.out HB2.out, cell_kept C2.out HB2.out, cell_kept C3.out HB2.out⟩) ((first | (go_at_call 34; refine (typeText _).mono ?_; rintro e w' ⟨rfl, rfl⟩) | (go_at_call 116; refine (mostText_any _).mono ?_; rintro e w1 ⟨rfl, hb1⟩; have HB1 : Hid (Below W0.heap.size W0 w1) := Lib.hid ((Below.refl _ W0).drew.trans (hb1.mono (Nat.le_refl _))); clear hb1) | (go_at_call 33; refine (inR_any _ _ _ _).mono ?_; rw [em]; rintro e w' ⟨rfl, rfl⟩) | (go_at_call 35; refine (hcond.out _ hcd w1 (HW0.out.trans (HB1.out.mono HW0.out.size))).mono ?_; rintro e w2 ⟨rfl, hb2⟩; have HB2 : Hid (Below W0.heap.size W0 w2) := Lib.hid (HB1.out.trans (hb2.mono HB1.out.size)); clear hb2)))
              all_goals
                go_wp2
                go_roundw
                case rel => exact ⟨j + 1, by omega, by go_num, HOK.out, HW0.out.trans (HB2.out.mono HW0.out.size)⟩
                case measure => simp [intOf]; omega
            | false =>
              have hfo : fieldOk (l.take j) ⟨2, xm, xt, xi⟩ = false := by unfold fieldOk; rw [hcd]; simp
              have HNO := Lib.hid (isFmt_no HX.out hfo)
              clear hfo hm
              go_region_held3 (fun w' => w'.cell? ⟨wr.heap.size, 0, none⟩ = some (.int .i64 2) ∧ w'.cell? ⟨wr.heap.size, 1, none⟩ = some (.int .i64 xm) ∧ w'.cell? ⟨wr.heap.size, 2, none⟩ = some (.int .i64 xt) ∧ w'.cell? ⟨wr.heap.size, 3, none⟩ = some (.int .i64 xi)) (first | exact ⟨cell_kept C0.out (Below.refl _ _).drew, cell_kept C1.out (Below.refl _ _).drew, cell_kept C2.out (Below.refl _ _).drew, cell_kept C3.out (Below.refl _ _).drew⟩ | exact ⟨cell_kept C0.out HB1.out, cell_kept C1.out HB1.out, cell_kept C2.out HB1.out, cell_kept C3.out HB1.out⟩ | exact ⟨cell_kept C0.out HB2.out, cell_kept C1.out HB2.out, cell_kept C2.out HB2.out, cell_kept C3.out HB2.out⟩) ((first | (go_at_call 34; refine (typeText _).mono ?_; rintro e w' ⟨rfl, rfl⟩) | (go_at_call 116; refine (mostText_any _).mono ?_; rintro e w1 ⟨rfl, hb1⟩; have HB1 : Hid (Below W0.heap.size W0 w1) := Lib.hid ((Below.refl _ W0).drew.trans (hb1.mono (Nat.le_refl _))); clear hb1) | (go_at_call 33; refine (inR_any _ _ _ _).mono ?_; rw [em]; rintro e w' ⟨rfl, rfl⟩) | (go_at_call 35; refine (hcond.out _ hcd w1 (HW0.out.trans (HB1.out.mono HW0.out.size))).mono ?_; rintro e w2 ⟨rfl, hb2⟩; have HB2 : Hid (Below W0.heap.size W0 w2) := Lib.hid (HB1.out.trans (hb2.mono HB1.out.size)); clear hb2)))
              all_goals
                go_wp2
                go_ret
                exact ⟨by rw [HNO.out]; rfl, HW0.out.trans (HB2.out.mono HW0.out.size)⟩
          · have em : decide ((1 : Int) ≤ xm ∧ xm ≤ 5) = false := by simpa using hm
            have hcd : condOk (l.take j) ⟨2, xm, xt, xi⟩ = condOk (l.take j) ⟨2, xm, xt, xi⟩ := rfl
            have hfo : fieldOk (l.take j) ⟨2, xm, xt, xi⟩ = false := by unfold fieldOk; rw [show mostOf (Fd.mk 2 xm xt xi).kind = 5 from by simp [mostOf]]; dsimp only; rw [em]; rfl
            have HNO := Lib.hid (isFmt_no HX.out hfo)
            clear hfo hm
            refine wp_region_held_drew (S := (fun w' => w'.cell? ⟨wr.heap.size, 0, none⟩ = some (.int .i64 2) ∧ w'.cell? ⟨wr.heap.size, 1, none⟩ = some (.int .i64 xm))) (by kernel_rfl) ⟨cell_kept C0.out (Below.refl _ _).drew, cell_kept C1.out (Below.refl _ _).drew⟩ (fun hHeld => ?_)
            refine wpAnyH_take (i := 0) (v := ?v8) (by simp only [List.getElem?_toArray, List.getElem?_cons_succ, List.getElem?_cons_zero]; rfl) (by kernel_rfl) (by kernel_rfl) (by kernel_rfl) (by exact fun _ _ _ h => h) (Or.inl ⟨by rfl, fun w9 hS9 => ?hy8⟩) hHeld ?rest8
            case hy8 =>
              obtain ⟨hs0, hs1⟩ := hS9
              go_simp
              try with_reducible rfl
            try simp only [Act.put, List.setIfInBounds_toArray, List.set_cons_zero, List.set_cons_succ]
            refine wpAnyH_take (i := 1) (v := ?v9) (by simp only [List.getElem?_toArray, List.getElem?_cons_succ, List.getElem?_cons_zero]; rfl) (by kernel_rfl) (by kernel_rfl) (by kernel_rfl) (by exact fun _ _ _ h => h) (Or.inl ⟨by rfl, fun w9 hS9 => ?hy9⟩) hHeld ?rest9
            case hy9 =>
              obtain ⟨hs0, hs1⟩ := hS9
              go_simp
              try with_reducible rfl
            try simp only [Act.put, List.setIfInBounds_toArray, List.set_cons_zero, List.set_cons_succ]
            refine wpAnyH_take (i := 2) (v := ?v10) (by simp only [List.getElem?_toArray, List.getElem?_cons_succ, List.getElem?_cons_zero]; rfl) (by kernel_rfl) (by kernel_rfl) (by kernel_rfl) (by exact fun _ _ _ h => h) (Or.inl ⟨by rfl, fun w9 hS9 => ?hy10⟩) hHeld ?rest10
            case hy10 =>
              obtain ⟨hs0, hs1⟩ := hS9
              go_simp
              try with_reducible rfl
            try simp only [Act.put, List.setIfInBounds_toArray, List.set_cons_zero, List.set_cons_succ]
            refine wpAnyH_take (i := 3) (v := ?v11) (by simp only [List.getElem?_toArray, List.getElem?_cons_succ, List.getElem?_cons_zero]; rfl) (by kernel_rfl) (by kernel_rfl) (by kernel_rfl) (by exact fun _ _ _ h => h) (Or.inl ⟨by rfl, fun w9 hS9 => ?hy11⟩) hHeld ?rest11
            case hy11 =>
              obtain ⟨hs0, hs1⟩ := hS9
              go_simp
              try with_reducible rfl
            try simp only [Act.put, List.setIfInBounds_toArray, List.set_cons_zero, List.set_cons_succ]
            refine wpAnyH_ready (rs := [4]) (by kernel_rfl) (by simp) (AllReadyH.cons (by simp only [List.getElem?_toArray, List.getElem?_cons_succ, List.getElem?_cons_zero]; rfl) (fun K hK => ?_) AllReadyH.nil)
            go_simp
            refine (typeText _).mono ?_
            rintro e w' ⟨rfl, rfl⟩
            go_wp2_with fail
            refine hK.out _ _ ⟨cell_kept C0.out (Below.refl _ _).drew, cell_kept C1.out (Below.refl _ _).drew⟩ (fun hHeld => ?_)
            clear hK K
            try simp only [Act.put, List.setIfInBounds_toArray, List.set_cons_zero, List.set_cons_succ]
            refine wpAnyH_ready (rs := [5]) (by kernel_rfl) (by simp) (AllReadyH.cons (by simp only [List.getElem?_toArray, List.getElem?_cons_succ, List.getElem?_cons_zero]; rfl) (fun K hK => ?_) AllReadyH.nil)
            go_simp
            go_wp2_with (go_at_call 116; refine (mostText_any _).mono ?_; rintro e w1 ⟨rfl, hb1⟩; have HB1 : Hid (Below W0.heap.size W0 w1) := Lib.hid ((Below.refl _ W0).drew.trans (hb1.mono (Nat.le_refl _))); clear hb1)
            refine hK.out _ _ ⟨cell_kept C0.out HB1.out, cell_kept C1.out HB1.out⟩ (fun hHeld => ?_)
            clear hK K
            try simp only [Act.put, List.setIfInBounds_toArray, List.set_cons_zero, List.set_cons_succ]
            refine wpAnyH_ready (rs := [6]) (by kernel_rfl) (by simp) (AllReadyH.cons (by simp only [List.getElem?_toArray, List.getElem?_cons_succ, List.getElem?_cons_zero]; rfl) (fun K hK => ?_) AllReadyH.nil)
            go_simp
            refine (inR_any _ _ _ _).mono ?_
            rw [em]
            rintro e w' ⟨rfl, rfl⟩
            go_wp2_with fail
            refine hK.out _ _ ⟨cell_kept C0.out HB1.out, cell_kept C1.out HB1.out⟩ (fun hHeld => ?_)
            clear hK K
            try simp only [Act.put, List.setIfInBounds_toArray, List.set_cons_zero, List.set_cons_succ]
            refine wpAnyH_take (i := 7) (v := ?v12) (by simp only [List.getElem?_toArray, List.getElem?_cons_succ, List.getElem?_cons_zero]; rfl) (by kernel_rfl) (by kernel_rfl) (by kernel_rfl) (by exact fun _ _ _ h => h) (Or.inl ⟨by rfl, fun w9 hS9 => ?hy12⟩) hHeld ?rest12
            case hy12 =>
              obtain ⟨hs0, hs1⟩ := hS9
              go_simp
              try with_reducible rfl
            try simp only [Act.put, List.setIfInBounds_toArray, List.set_cons_zero, List.set_cons_succ]
            refine wpAnyH_take (i := 8) (v := ?v13) (by simp only [List.getElem?_toArray, List.getElem?_cons_succ, List.getElem?_cons_zero]; rfl) (by kernel_rfl) (by kernel_rfl) (by kernel_rfl) (by exact fun _ _ _ h => h) (Or.inl ⟨by rfl, fun w9 hS9 => ?hy13⟩) hHeld ?rest13
            case hy13 =>
              obtain ⟨hs0, hs1⟩ := hS9
              go_simp
              try with_reducible rfl
            try simp only [Act.put, List.setIfInBounds_toArray, List.set_cons_zero, List.set_cons_succ]
            refine wpAnyH_take (i := 9) (v := undef) (by simp only [List.getElem?_toArray, List.getElem?_cons_succ, List.getElem?_cons_zero]; rfl) (by kernel_rfl) (by kernel_rfl) (by kernel_rfl) (by exact fun _ _ _ h => h) (Or.inr ⟨by rfl, rfl⟩) hHeld ?_
            try simp only [Act.put, List.setIfInBounds_toArray, List.set_cons_zero, List.set_cons_succ]
            refine wpAnyH_take (i := 10) (v := undef) (by simp only [List.getElem?_toArray, List.getElem?_cons_succ, List.getElem?_cons_zero]; rfl) (by kernel_rfl) (by kernel_rfl) (by kernel_rfl) (by exact fun _ _ _ h => h) (Or.inr ⟨by rfl, rfl⟩) hHeld ?_
            try simp only [Act.put, List.setIfInBounds_toArray, List.set_cons_zero, List.set_cons_succ]
            refine wpAnyH_take (i := 11) (v := undef) (by simp only [List.getElem?_toArray, List.getElem?_cons_succ, List.getElem?_cons_zero]; rfl) (by kernel_rfl) (by kernel_rfl) (by kernel_rfl) (by exact fun _ _ _ h => h) (Or.inr ⟨by rfl, rfl⟩) hHeld ?_
            try simp only [Act.put, List.setIfInBounds_toArray, List.set_cons_zero, List.set_cons_succ]
            refine wpAnyH_take (i := 12) (v := undef) (by simp only [List.getElem?_toArray, List.getElem?_cons_succ, List.getElem?_cons_zero]; rfl) (by kernel_rfl) (by kernel_rfl) (by kernel_rfl) (by exact fun _ _ _ h => h) (Or.inr ⟨by rfl, rfl⟩) hHeld ?_
            try simp only [Act.put, List.setIfInBounds_toArray, List.set_cons_zero, List.set_cons_succ]
            refine wpAnyH_take (i := 13) (v := undef) (by simp only [List.getElem?_toArray, List.getElem?_cons_succ, List.getElem?_cons_zero]; rfl) (by kernel_rfl) (by kernel_rfl) (by kernel_rfl) (by exact fun _ _ _ h => h) (Or.inr ⟨by rfl, rfl⟩) hHeld ?_
            try simp only [Act.put, List.setIfInBounds_toArray, List.set_cons_zero, List.set_cons_succ]
            refine wpAnyH_take (i := 14) (v := undef) (by simp only [List.getElem?_toArray, List.getElem?_cons_succ, List.getElem?_cons_zero]; rfl) (by kernel_rfl) (by kernel_rfl) (by kernel_rfl) (by exact fun _ _ _ h => h) (Or.inr ⟨by rfl, rfl⟩) hHeld ?_
            try simp only [Act.put, List.setIfInBounds_toArray, List.set_cons_zero, List.set_cons_succ]
            refine wpAnyH_take (i := 15) (v := ?v14) (by simp only [List.getElem?_toArray, List.getElem?_cons_succ, List.getElem?_cons_zero]; rfl) (by kernel_rfl) (by kernel_rfl) (by kernel_rfl) (by exact fun _ _ _ h => h) (Or.inl ⟨by rfl, fun w9 hS9 => ?hy14⟩) hHeld ?rest14
            case hy14 =>
              obtain ⟨hs0, hs1⟩ := hS9
              go_simp
              try with_reducible rfl
            try simp only [Act.put, List.setIfInBounds_toArray, List.set_cons_zero, List.set_cons_succ]
            refine wpAnyH_done (by kernel_rfl) ?_ _
            all_goals
              go_wp2
              go_ret
              exact ⟨by rw [HNO.out]; rfl, HW0.out.trans (HB1.out.mono HW0.out.size)⟩
        · by_cases hm : 1 ≤ xm ∧ xm ≤ 5
          · have em : decide ((1 : Int) ≤ xm ∧ xm ≤ 5) = true := by simpa using hm
            cases hcd : condOk (l.take j) ⟨3, xm, xt, xi⟩ with
            | true =>
              have hfo : fieldOk (l.take j) ⟨3, xm, xt, xi⟩ = true := by unfold fieldOk; rw [hcd]; simp [mostOf]; omega
              have HOK := Lib.hid (okTo_succ HO.out HX.out hfo)
              clear hfo hm
              go_region_held3 (fun w' => w'.cell? ⟨wr.heap.size, 0, none⟩ = some (.int .i64 3) ∧ w'.cell? ⟨wr.heap.size, 1, none⟩ = some (.int .i64 xm) ∧ w'.cell? ⟨wr.heap.size, 2, none⟩ = some (.int .i64 xt) ∧ w'.cell? ⟨wr.heap.size, 3, none⟩ = some (.int .i64 xi)) (first | exact ⟨cell_kept C0.out (Below.refl _ _).drew, cell_kept C1.out (Below.refl _ _).drew, cell_kept C2.out (Below.refl _ _).drew, cell_kept C3.out (Below.refl _ _).drew⟩ | exact ⟨cell_kept C0.out HB1.out, cell_kept C1.out HB1.out, cell_kept C2.out HB1.out, cell_kept C3.out HB1.out⟩ | exact ⟨cell_kept C0.out HB2.out, cell_kept C1.out HB2.out, cell_kept C2.out HB2.out, cell_kept C3.out HB2.out⟩) ((first | (go_at_call 34; refine (typeList _).mono ?_; rintro e w' ⟨rfl, rfl⟩) | (go_at_call 118; refine (mostList_any _).mono ?_; rintro e w1 ⟨rfl, hb1⟩; have HB1 : Hid (Below W0.heap.size W0 w1) := Lib.hid ((Below.refl _ W0).drew.trans (hb1.mono (Nat.le_refl _))); clear hb1) | (go_at_call 33; refine (inR_any _ _ _ _).mono ?_; rw [em]; rintro e w' ⟨rfl, rfl⟩) | (go_at_call 35; refine (hcond.out _ hcd w1 (HW0.out.trans (HB1.out.mono HW0.out.size))).mono ?_; rintro e w2 ⟨rfl, hb2⟩; have HB2 : Hid (Below W0.heap.size W0 w2) := Lib.hid (HB1.out.trans (hb2.mono HB1.out.size)); clear hb2)))
              all_goals
                go_wp2
                go_roundw
                case rel => exact ⟨j + 1, by omega, by go_num, HOK.out, HW0.out.trans (HB2.out.mono HW0.out.size)⟩
                case measure => simp [intOf]; omega
            | false =>
              have hfo : fieldOk (l.take j) ⟨3, xm, xt, xi⟩ = false := by unfold fieldOk; rw [hcd]; simp
              have HNO := Lib.hid (isFmt_no HX.out hfo)
              clear hfo hm
              go_region_held3 (fun w' => w'.cell? ⟨wr.heap.size, 0, none⟩ = some (.int .i64 3) ∧ w'.cell? ⟨wr.heap.size, 1, none⟩ = some (.int .i64 xm) ∧ w'.cell? ⟨wr.heap.size, 2, none⟩ = some (.int .i64 xt) ∧ w'.cell? ⟨wr.heap.size, 3, none⟩ = some (.int .i64 xi)) (first | exact ⟨cell_kept C0.out (Below.refl _ _).drew, cell_kept C1.out (Below.refl _ _).drew, cell_kept C2.out (Below.refl _ _).drew, cell_kept C3.out (Below.refl _ _).drew⟩ | exact ⟨cell_kept C0.out HB1.out, cell_kept C1.out HB1.out, cell_kept C2.out HB1.out, cell_kept C3.out HB1.out⟩ | exact ⟨cell_kept C0.out HB2.out, cell_kept C1.out HB2.out, cell_kept C2.out HB2.out, cell_kept C3.out HB2.out⟩) ((first | (go_at_call 34; refine (typeList _).mono ?_; rintro e w' ⟨rfl, rfl⟩) | (go_at_call 118; refine (mostList_any _).mono ?_; rintro e w1 ⟨rfl, hb1⟩; have HB1 : Hid (Below W0.heap.size W0 w1) := Lib.hid ((Below.refl _ W0).drew.trans (hb1.mono (Nat.le_refl _))); clear hb1) | (go_at_call 33; refine (inR_any _ _ _ _).mono ?_; rw [em]; rintro e w' ⟨rfl, rfl⟩) | (go_at_call 35; refine (hcond.out _ hcd w1 (HW0.out.trans (HB1.out.mono HW0.out.size))).mono ?_; rintro e w2 ⟨rfl, hb2⟩; have HB2 : Hid (Below W0.heap.size W0 w2) := Lib.hid (HB1.out.trans (hb2.mono HB1.out.size)); clear hb2)))
              all_goals
                go_wp2
                go_ret
                exact ⟨by rw [HNO.out]; rfl, HW0.out.trans (HB2.out.mono HW0.out.size)⟩
          · have em : decide ((1 : Int) ≤ xm ∧ xm ≤ 5) = false := by simpa using hm
            have hcd : condOk (l.take j) ⟨3, xm, xt, xi⟩ = condOk (l.take j) ⟨3, xm, xt, xi⟩ := rfl
            have hfo : fieldOk (l.take j) ⟨3, xm, xt, xi⟩ = false := by unfold fieldOk; rw [show mostOf (Fd.mk 3 xm xt xi).kind = 5 from by simp [mostOf]]; dsimp only; rw [em]; rfl
            have HNO := Lib.hid (isFmt_no HX.out hfo)
            clear hfo hm
            refine wp_region_held_drew (S := (fun w' => w'.cell? ⟨wr.heap.size, 0, none⟩ = some (.int .i64 3) ∧ w'.cell? ⟨wr.heap.size, 1, none⟩ = some (.int .i64 xm))) (by kernel_rfl) ⟨cell_kept C0.out (Below.refl _ _).drew, cell_kept C1.out (Below.refl _ _).drew⟩ (fun hHeld => ?_)
            refine wpAnyH_take (i := 0) (v := ?v15) (by simp only [List.getElem?_toArray, List.getElem?_cons_succ, List.getElem?_cons_zero]; rfl) (by kernel_rfl) (by kernel_rfl) (by kernel_rfl) (by exact fun _ _ _ h => h) (Or.inl ⟨by rfl, fun w9 hS9 => ?hy15⟩) hHeld ?rest15
            case hy15 =>
              obtain ⟨hs0, hs1⟩ := hS9
              go_simp
              try with_reducible rfl
            try simp only [Act.put, List.setIfInBounds_toArray, List.set_cons_zero, List.set_cons_succ]
            refine wpAnyH_take (i := 1) (v := ?v16) (by simp only [List.getElem?_toArray, List.getElem?_cons_succ, List.getElem?_cons_zero]; rfl) (by kernel_rfl) (by kernel_rfl) (by kernel_rfl) (by exact fun _ _ _ h => h) (Or.inl ⟨by rfl, fun w9 hS9 => ?hy16⟩) hHeld ?rest16
            case hy16 =>
              obtain ⟨hs0, hs1⟩ := hS9
              go_simp
              try with_reducible rfl
            try simp only [Act.put, List.setIfInBounds_toArray, List.set_cons_zero, List.set_cons_succ]
            refine wpAnyH_take (i := 2) (v := ?v17) (by simp only [List.getElem?_toArray, List.getElem?_cons_succ, List.getElem?_cons_zero]; rfl) (by kernel_rfl) (by kernel_rfl) (by kernel_rfl) (by exact fun _ _ _ h => h) (Or.inl ⟨by rfl, fun w9 hS9 => ?hy17⟩) hHeld ?rest17
            case hy17 =>
              obtain ⟨hs0, hs1⟩ := hS9
              go_simp
              try with_reducible rfl
            try simp only [Act.put, List.setIfInBounds_toArray, List.set_cons_zero, List.set_cons_succ]
            refine wpAnyH_take (i := 3) (v := ?v18) (by simp only [List.getElem?_toArray, List.getElem?_cons_succ, List.getElem?_cons_zero]; rfl) (by kernel_rfl) (by kernel_rfl) (by kernel_rfl) (by exact fun _ _ _ h => h) (Or.inl ⟨by rfl, fun w9 hS9 => ?hy18⟩) hHeld ?rest18
            case hy18 =>
              obtain ⟨hs0, hs1⟩ := hS9
              go_simp
              try with_reducible rfl
            try simp only [Act.put, List.setIfInBounds_toArray, List.set_cons_zero, List.set_cons_succ]
            refine wpAnyH_ready (rs := [4]) (by kernel_rfl) (by simp) (AllReadyH.cons (by simp only [List.getElem?_toArray, List.getElem?_cons_succ, List.getElem?_cons_zero]; rfl) (fun K hK => ?_) AllReadyH.nil)
            go_simp
            refine (typeList _).mono ?_
            rintro e w' ⟨rfl, rfl⟩
            go_wp2_with fail
            refine hK.out _ _ ⟨cell_kept C0.out (Below.refl _ _).drew, cell_kept C1.out (Below.refl _ _).drew⟩ (fun hHeld => ?_)
            clear hK K
            try simp only [Act.put, List.setIfInBounds_toArray, List.set_cons_zero, List.set_cons_succ]
            refine wpAnyH_ready (rs := [5]) (by kernel_rfl) (by simp) (AllReadyH.cons (by simp only [List.getElem?_toArray, List.getElem?_cons_succ, List.getElem?_cons_zero]; rfl) (fun K hK => ?_) AllReadyH.nil)
            go_simp
            go_wp2_with (go_at_call 118; refine (mostList_any _).mono ?_; rintro e w1 ⟨rfl, hb1⟩; have HB1 : Hid (Below W0.heap.size W0 w1) := Lib.hid ((Below.refl _ W0).drew.trans (hb1.mono (Nat.le_refl _))); clear hb1)
            refine hK.out _ _ ⟨cell_kept C0.out HB1.out, cell_kept C1.out HB1.out⟩ (fun hHeld => ?_)
            clear hK K
            try simp only [Act.put, List.setIfInBounds_toArray, List.set_cons_zero, List.set_cons_succ]
            refine wpAnyH_ready (rs := [6]) (by kernel_rfl) (by simp) (AllReadyH.cons (by simp only [List.getElem?_toArray, List.getElem?_cons_succ, List.getElem?_cons_zero]; rfl) (fun K hK => ?_) AllReadyH.nil)
            go_simp
            refine (inR_any _ _ _ _).mono ?_
            rw [em]
            rintro e w' ⟨rfl, rfl⟩
            go_wp2_with fail
            refine hK.out _ _ ⟨cell_kept C0.out HB1.out, cell_kept C1.out HB1.out⟩ (fun hHeld => ?_)
            clear hK K
            try simp only [Act.put, List.setIfInBounds_toArray, List.set_cons_zero, List.set_cons_succ]
            refine wpAnyH_take (i := 7) (v := ?v19) (by simp only [List.getElem?_toArray, List.getElem?_cons_succ, List.getElem?_cons_zero]; rfl) (by kernel_rfl) (by kernel_rfl) (by kernel_rfl) (by exact fun _ _ _ h => h) (Or.inl ⟨by rfl, fun w9 hS9 => ?hy19⟩) hHeld ?rest19
            case hy19 =>
              obtain ⟨hs0, hs1⟩ := hS9
              go_simp
              try with_reducible rfl
            try simp only [Act.put, List.setIfInBounds_toArray, List.set_cons_zero, List.set_cons_succ]
            refine wpAnyH_take (i := 8) (v := ?v20) (by simp only [List.getElem?_toArray, List.getElem?_cons_succ, List.getElem?_cons_zero]; rfl) (by kernel_rfl) (by kernel_rfl) (by kernel_rfl) (by exact fun _ _ _ h => h) (Or.inl ⟨by rfl, fun w9 hS9 => ?hy20⟩) hHeld ?rest20
            case hy20 =>
              obtain ⟨hs0, hs1⟩ := hS9
              go_simp
              try with_reducible rfl
            try simp only [Act.put, List.setIfInBounds_toArray, List.set_cons_zero, List.set_cons_succ]
            refine wpAnyH_take (i := 9) (v := undef) (by simp only [List.getElem?_toArray, List.getElem?_cons_succ, List.getElem?_cons_zero]; rfl) (by kernel_rfl) (by kernel_rfl) (by kernel_rfl) (by exact fun _ _ _ h => h) (Or.inr ⟨by rfl, rfl⟩) hHeld ?_
            try simp only [Act.put, List.setIfInBounds_toArray, List.set_cons_zero, List.set_cons_succ]
            refine wpAnyH_take (i := 10) (v := undef) (by simp only [List.getElem?_toArray, List.getElem?_cons_succ, List.getElem?_cons_zero]; rfl) (by kernel_rfl) (by kernel_rfl) (by kernel_rfl) (by exact fun _ _ _ h => h) (Or.inr ⟨by rfl, rfl⟩) hHeld ?_
            try simp only [Act.put, List.setIfInBounds_toArray, List.set_cons_zero, List.set_cons_succ]
            refine wpAnyH_take (i := 11) (v := undef) (by simp only [List.getElem?_toArray, List.getElem?_cons_succ, List.getElem?_cons_zero]; rfl) (by kernel_rfl) (by kernel_rfl) (by kernel_rfl) (by exact fun _ _ _ h => h) (Or.inr ⟨by rfl, rfl⟩) hHeld ?_
            try simp only [Act.put, List.setIfInBounds_toArray, List.set_cons_zero, List.set_cons_succ]
            refine wpAnyH_take (i := 12) (v := undef) (by simp only [List.getElem?_toArray, List.getElem?_cons_succ, List.getElem?_cons_zero]; rfl) (by kernel_rfl) (by kernel_rfl) (by kernel_rfl) (by exact fun _ _ _ h => h) (Or.inr ⟨by rfl, rfl⟩) hHeld ?_
            try simp only [Act.put, List.setIfInBounds_toArray, List.set_cons_zero, List.set_cons_succ]
            refine wpAnyH_take (i := 13) (v := undef) (by simp only [List.getElem?_toArray, List.getElem?_cons_succ, List.getElem?_cons_zero]; rfl) (by kernel_rfl) (by kernel_rfl) (by kernel_rfl) (by exact fun _ _ _ h => h) (Or.inr ⟨by rfl, rfl⟩) hHeld ?_
            try simp only [Act.put, List.setIfInBounds_toArray, List.set_cons_zero, List.set_cons_succ]
            refine wpAnyH_take (i := 14) (v := undef) (by simp only [List.getElem?_toArray, List.getElem?_cons_succ, List.getElem?_cons_zero]; rfl) (by kernel_rfl) (by kernel_rfl) (by kernel_rfl) (by exact fun _ _ _ h => h) (Or.inr ⟨by rfl, rfl⟩) hHeld ?_
            try simp only [Act.put, List.setIfInBounds_toArray, List.set_cons_zero, List.set_cons_succ]
            refine wpAnyH_take (i := 15) (v := ?v21) (by simp only [List.getElem?_toArray, List.getElem?_cons_succ, List.getElem?_cons_zero]; rfl) (by kernel_rfl) (by kernel_rfl) (by kernel_rfl) (by exact fun _ _ _ h => h) (Or.inl ⟨by rfl, fun w9 hS9 => ?hy21⟩) hHeld ?rest21
            case hy21 =>
              obtain ⟨hs0, hs1⟩ := hS9
              go_simp
              try with_reducible rfl
            try simp only [Act.put, List.setIfInBounds_toArray, List.set_cons_zero, List.set_cons_succ]
            refine wpAnyH_done (by kernel_rfl) ?_ _
            all_goals
              go_wp2
              go_ret
              exact ⟨by rw [HNO.out]; rfl, HW0.out.trans (HB1.out.mono HW0.out.size)⟩
        · have em : decide ((1 : Int) ≤ xm ∧ xm ≤ 0) = false := by simp; omega
          have hcd : condOk (l.take j) ⟨xk, xm, xt, xi⟩ = condOk (l.take j) ⟨xk, xm, xt, xi⟩ := rfl
          have hfo : fieldOk (l.take j) ⟨xk, xm, xt, xi⟩ = false := by unfold fieldOk; rw [show mostOf (Fd.mk xk xm xt xi).kind = 0 from by simp [mostOf, hno.1, hno.2.1, hno.2.2]]; dsimp only; rw [em]; rfl
          have HNO := Lib.hid (isFmt_no HX.out hfo)
          clear hfo
          refine wp_region_held_drew (S := (fun w' => w'.cell? ⟨wr.heap.size, 0, none⟩ = some (.int .i64 xk) ∧ w'.cell? ⟨wr.heap.size, 1, none⟩ = some (.int .i64 xm))) (by kernel_rfl) ⟨cell_kept C0.out (Below.refl _ _).drew, cell_kept C1.out (Below.refl _ _).drew⟩ (fun hHeld => ?_)
          refine wpAnyH_take (i := 0) (v := ?v22) (by simp only [List.getElem?_toArray, List.getElem?_cons_succ, List.getElem?_cons_zero]; rfl) (by kernel_rfl) (by kernel_rfl) (by kernel_rfl) (by exact fun _ _ _ h => h) (Or.inl ⟨by rfl, fun w9 hS9 => ?hy22⟩) hHeld ?rest22
          case hy22 =>
            obtain ⟨hs0, hs1⟩ := hS9
            go_simp
            try with_reducible rfl
          try simp only [Act.put, List.setIfInBounds_toArray, List.set_cons_zero, List.set_cons_succ]
          refine wpAnyH_take (i := 1) (v := ?v23) (by simp only [List.getElem?_toArray, List.getElem?_cons_succ, List.getElem?_cons_zero]; rfl) (by kernel_rfl) (by kernel_rfl) (by kernel_rfl) (by exact fun _ _ _ h => h) (Or.inl ⟨by rfl, fun w9 hS9 => ?hy23⟩) hHeld ?rest23
          case hy23 =>
            obtain ⟨hs0, hs1⟩ := hS9
            go_simp
            try with_reducible rfl
          try simp only [Act.put, List.setIfInBounds_toArray, List.set_cons_zero, List.set_cons_succ]
          refine wpAnyH_take (i := 2) (v := ?v24) (by simp only [List.getElem?_toArray, List.getElem?_cons_succ, List.getElem?_cons_zero]; rfl) (by kernel_rfl) (by kernel_rfl) (by kernel_rfl) (by exact fun _ _ _ h => h) (Or.inl ⟨by rfl, fun w9 hS9 => ?hy24⟩) hHeld ?rest24
          case hy24 =>
            obtain ⟨hs0, hs1⟩ := hS9
            go_simp
            try with_reducible rfl
          try simp only [Act.put, List.setIfInBounds_toArray, List.set_cons_zero, List.set_cons_succ]
          refine wpAnyH_take (i := 3) (v := ?v25) (by simp only [List.getElem?_toArray, List.getElem?_cons_succ, List.getElem?_cons_zero]; rfl) (by kernel_rfl) (by kernel_rfl) (by kernel_rfl) (by exact fun _ _ _ h => h) (Or.inl ⟨by rfl, fun w9 hS9 => ?hy25⟩) hHeld ?rest25
          case hy25 =>
            obtain ⟨hs0, hs1⟩ := hS9
            go_simp
            try with_reducible rfl
          try simp only [Act.put, List.setIfInBounds_toArray, List.set_cons_zero, List.set_cons_succ]
          refine wpAnyH_ready (rs := [4]) (by kernel_rfl) (by simp) (AllReadyH.cons (by simp only [List.getElem?_toArray, List.getElem?_cons_succ, List.getElem?_cons_zero]; rfl) (fun K hK => ?_) AllReadyH.nil)
          go_simp
          refine (typeNo xk hno _).mono ?_
          rintro e w' ⟨rfl, rfl⟩
          go_wp2_with fail
          refine hK.out _ _ ⟨cell_kept C0.out (Below.refl _ _).drew, cell_kept C1.out (Below.refl _ _).drew⟩ (fun hHeld => ?_)
          clear hK K
          try simp only [Act.put, List.setIfInBounds_toArray, List.set_cons_zero, List.set_cons_succ]
          refine wpAnyH_ready (rs := [5]) (by kernel_rfl) (by simp) (AllReadyH.cons (by simp only [List.getElem?_toArray, List.getElem?_cons_succ, List.getElem?_cons_zero]; rfl) (fun K hK => ?_) AllReadyH.nil)
          go_simp
          go_wp2_with (go_at_call 120; refine (mostNo_any _).mono ?_; rintro e w1 ⟨rfl, hb1⟩; have HB1 : Hid (Below W0.heap.size W0 w1) := Lib.hid ((Below.refl _ W0).drew.trans (hb1.mono (Nat.le_refl _))); clear hb1)
          refine hK.out _ _ ⟨cell_kept C0.out HB1.out, cell_kept C1.out HB1.out⟩ (fun hHeld => ?_)
          clear hK K
          try simp only [Act.put, List.setIfInBounds_toArray, List.set_cons_zero, List.set_cons_succ]
          refine wpAnyH_ready (rs := [6]) (by kernel_rfl) (by simp) (AllReadyH.cons (by simp only [List.getElem?_toArray, List.getElem?_cons_succ, List.getElem?_cons_zero]; rfl) (fun K hK => ?_) AllReadyH.nil)
          go_simp
          refine (inR_any _ _ _ _).mono ?_
          rw [em]
          rintro e w' ⟨rfl, rfl⟩
          go_wp2_with fail
          refine hK.out _ _ ⟨cell_kept C0.out HB1.out, cell_kept C1.out HB1.out⟩ (fun hHeld => ?_)
          clear hK K
          try simp only [Act.put, List.setIfInBounds_toArray, List.set_cons_zero, List.set_cons_succ]
          refine wpAnyH_take (i := 7) (v := ?v26) (by simp only [List.getElem?_toArray, List.getElem?_cons_succ, List.getElem?_cons_zero]; rfl) (by kernel_rfl) (by kernel_rfl) (by kernel_rfl) (by exact fun _ _ _ h => h) (Or.inl ⟨by rfl, fun w9 hS9 => ?hy26⟩) hHeld ?rest26
          case hy26 =>
            obtain ⟨hs0, hs1⟩ := hS9
            go_simp
            try with_reducible rfl
          try simp only [Act.put, List.setIfInBounds_toArray, List.set_cons_zero, List.set_cons_succ]
          refine wpAnyH_take (i := 8) (v := ?v27) (by simp only [List.getElem?_toArray, List.getElem?_cons_succ, List.getElem?_cons_zero]; rfl) (by kernel_rfl) (by kernel_rfl) (by kernel_rfl) (by exact fun _ _ _ h => h) (Or.inl ⟨by rfl, fun w9 hS9 => ?hy27⟩) hHeld ?rest27
          case hy27 =>
            obtain ⟨hs0, hs1⟩ := hS9
            go_simp
            try with_reducible rfl
          try simp only [Act.put, List.setIfInBounds_toArray, List.set_cons_zero, List.set_cons_succ]
          refine wpAnyH_take (i := 9) (v := undef) (by simp only [List.getElem?_toArray, List.getElem?_cons_succ, List.getElem?_cons_zero]; rfl) (by kernel_rfl) (by kernel_rfl) (by kernel_rfl) (by exact fun _ _ _ h => h) (Or.inr ⟨by rfl, rfl⟩) hHeld ?_
          try simp only [Act.put, List.setIfInBounds_toArray, List.set_cons_zero, List.set_cons_succ]
          refine wpAnyH_take (i := 10) (v := undef) (by simp only [List.getElem?_toArray, List.getElem?_cons_succ, List.getElem?_cons_zero]; rfl) (by kernel_rfl) (by kernel_rfl) (by kernel_rfl) (by exact fun _ _ _ h => h) (Or.inr ⟨by rfl, rfl⟩) hHeld ?_
          try simp only [Act.put, List.setIfInBounds_toArray, List.set_cons_zero, List.set_cons_succ]
          refine wpAnyH_take (i := 11) (v := undef) (by simp only [List.getElem?_toArray, List.getElem?_cons_succ, List.getElem?_cons_zero]; rfl) (by kernel_rfl) (by kernel_rfl) (by kernel_rfl) (by exact fun _ _ _ h => h) (Or.inr ⟨by rfl, rfl⟩) hHeld ?_
          try simp only [Act.put, List.setIfInBounds_toArray, List.set_cons_zero, List.set_cons_succ]
          refine wpAnyH_take (i := 12) (v := undef) (by simp only [List.getElem?_toArray, List.getElem?_cons_succ, List.getElem?_cons_zero]; rfl) (by kernel_rfl) (by kernel_rfl) (by kernel_rfl) (by exact fun _ _ _ h => h) (Or.inr ⟨by rfl, rfl⟩) hHeld ?_
          try simp only [Act.put, List.setIfInBounds_toArray, List.set_cons_zero, List.set_cons_succ]
          refine wpAnyH_take (i := 13) (v := undef) (by simp only [List.getElem?_toArray, List.getElem?_cons_succ, List.getElem?_cons_zero]; rfl) (by kernel_rfl) (by kernel_rfl) (by kernel_rfl) (by exact fun _ _ _ h => h) (Or.inr ⟨by rfl, rfl⟩) hHeld ?_
          try simp only [Act.put, List.setIfInBounds_toArray, List.set_cons_zero, List.set_cons_succ]
          refine wpAnyH_take (i := 14) (v := undef) (by simp only [List.getElem?_toArray, List.getElem?_cons_succ, List.getElem?_cons_zero]; rfl) (by kernel_rfl) (by kernel_rfl) (by kernel_rfl) (by exact fun _ _ _ h => h) (Or.inr ⟨by rfl, rfl⟩) hHeld ?_
          try simp only [Act.put, List.setIfInBounds_toArray, List.set_cons_zero, List.set_cons_succ]
          refine wpAnyH_take (i := 15) (v := ?v28) (by simp only [List.getElem?_toArray, List.getElem?_cons_succ, List.getElem?_cons_zero]; rfl) (by kernel_rfl) (by kernel_rfl) (by kernel_rfl) (by exact fun _ _ _ h => h) (Or.inl ⟨by rfl, fun w9 hS9 => ?hy28⟩) hHeld ?rest28
          case hy28 =>
            obtain ⟨hs0, hs1⟩ := hS9
            go_simp
            try with_reducible rfl
          try simp only [Act.put, List.setIfInBounds_toArray, List.set_cons_zero, List.set_cons_succ]
          refine wpAnyH_done (by kernel_rfl) ?_ _
          all_goals
            go_wp2
            go_ret
            exact ⟨by rw [HNO.out]; rfl, HW0.out.trans (HB1.out.mono HW0.out.size)⟩
      · obtain rfl : j = n := by omega
        have hy := isFmt_yes (l := l) (by rw [hl.out]; exact hlen) (by rw [hl.out]; exact HO.out)
        have HY := Lib.hid hy
        clear hy
        go_wp2
        go_ret
        exact ⟨by rw [HY.out]; rfl, HB.out⟩
  · have e0 : decide ((1 : Int) ≤ (n : Int) ∧ (n : Int) ≤ 6) = false := by simp; omega
    have e1 : isFmt l = false := isFmt_len (by rw [hl.out]; exact hlen)
    rw [e1]
    go_enter Try.func13, Try.ntmps13
    go_wp2_with (go_at_call 33; refine (inR_any _ _ _ _).mono ?_; rw [e0]; rintro e w' ⟨rfl, rfl⟩)
    go_ret
    exact ⟨rfl, Below.refl _ _⟩
end Go.Proofs.Ytjkjnhkamieljaa
