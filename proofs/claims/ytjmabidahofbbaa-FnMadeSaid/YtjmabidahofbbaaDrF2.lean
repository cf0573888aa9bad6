/- A list of fields is drawn, perhaps with a fault. -/
import Derived.Test.YtjmabidahofbbaaDrF1
namespace Go.Proofs.Ytjmabidahofbbaa
open Go.ChangeShapes Go.WideShapes Go.ChangeAt Go.RowKit
set_option linter.unusedVariables false

set_option maxHeartbeats 4000000 in
set_option maxRecDepth 100000 in
theorem anyF_any (b : Nat) (a : Option Addr) (n c : Nat) (w : World) (hc : Curs w b a n c) :
    Calls Try.prog 50 #[.pointer (some ⟨b, 0, none⟩)] w (DrewF b a n c 7 w) := by
  have HC := Lib.hid hc
  have hb := hc.lt
  clear hc
  obtain ⟨i0, hi, hz0, hz1, hz2⟩ := info_parts infoFieldS
  have HI := Lib.hid (And.intro hi (And.intro hz0 (And.intro hz1 hz2)))
  clear hi hz0 hz1 hz2
  go_enter Try.func50, Try.ntmps50
  go_wp2_with fail
  refine (drawF_any b a n c w HC.out).mono ?_
  rintro e w1 ⟨g, m, c', l, rfl, ho1, hm1, hm5, hfm, hd1⟩
  have hgw := ho1.span _ rfl
  dsimp only at hgw
  have hbg : b ≠ g := by omega
  have hgb : g ≠ b := by omega
  go_wp2_with fail
  refine (below_any b a n c (m : Int) (by omega) (by omega) w1 hd1.1).mono ?_
  rintro e w2 ⟨x, hx0, hx1, rfl, hd2⟩
  obtain ⟨k, rfl⟩ : ∃ k : Nat, x = k := ⟨x.toNat, by omega⟩
  have hkm : k < m := by omega
  go_wp2_with fail
  refine (below_any b a n c 12 (by omega) (by omega) w2 hd2.1).mono ?_
  rintro e w3 ⟨y, hy0, hy1, rfl, hd3⟩
  have HD3 := Lib.hid (hd1.trans (hd2.trans hd3))
  have HO3 := Lib.hid (ho1.only (hd2.2.trans hd3.2) ho1.span (Or.inl hb))
  have hs3 := HD3.out.2.size
  clear hd1 hd2 hd3 ho1
  by_cases q0 : y = 0
  · have b0 : (y == 0) = true := by simpa using q0
    clear q0
    go_wp2_with fail
    refine (pickNew b a n c [0, 4, 1] 3 (by omega) (by omega) rfl rfl w3 HD3.out.1).mono ?_
    rintro e w4 ⟨v, hv, rfl, hd4⟩
    have hvi : I64 v := list_i64 (l := [0, 4, 1]) (by decide) hv
    have HO4 := HO3.out.only hd4.2 HO3.out.span (Or.inl hb)
    have fz := HO4.2.frozenAt (k * 4 + 0)
    obtain ⟨u, hu⟩ := row_cell HO4.2 (k := k * 4 + 0) (by omega)
    rw [Nat.add_zero] at fz hu
    obtain ⟨l', hp, hg, hfm'⟩ := ownf_put HO4 hkm 0 (by omega) v
    rw [Nat.add_zero] at hp hg
    have HP := Lib.hid hp
    have HD4 := HD3.out.trans hd4
    have HD5 := Lib.hid (Curs.far HD4.1 hg hgb HC.out HD4 (by omega))
    clear hp hg HO4 HD4 hd4
    go_wp2
    go_ret
    exact ⟨_, m, c', l', rfl, HP.out, by omega, hfm' hfm hvi, HD5.out⟩
  have b0 : (y == 0) = false := by simpa using q0
  by_cases q1 : y = 1
  · have b1 : (y == 1) = true := by simpa using q1
    clear q1
    go_wp2_with fail
    refine (pickNew b a n c [0, 5, 6, 99, 100, 9223372036854775807] 6 (by omega) (by omega) rfl rfl w3 HD3.out.1).mono ?_
    rintro e w4 ⟨v, hv, rfl, hd4⟩
    have hvi : I64 v := list_i64 (l := [0, 5, 6, 99, 100, 9223372036854775807]) (by decide) hv
    have HO4 := HO3.out.only hd4.2 HO3.out.span (Or.inl hb)
    have fz := HO4.2.frozenAt (k * 4 + 1)
    obtain ⟨u, hu⟩ := row_cell HO4.2 (k := k * 4 + 1) (by omega)
    obtain ⟨l', hp, hg, hfm'⟩ := ownf_put HO4 hkm 1 (by omega) v
    have HP := Lib.hid hp
    have HD4 := HD3.out.trans hd4
    have HD5 := Lib.hid (Curs.far HD4.1 hg hgb HC.out HD4 (by omega))
    clear hp hg HO4 HD4 hd4
    go_wp2
    go_ret
    exact ⟨_, m, c', l', rfl, HP.out, by omega, hfm' hfm hvi, HD5.out⟩
  have b1 : (y == 1) = false := by simpa using q1
  by_cases q2 : y = 2
  · have b2 : (y == 2) = true := by simpa using q2
    clear q2
    go_wp2_with fail
    refine (pickNew b a n c [-2, 0, 1, 5, 9223372036854775807] 5 (by omega) (by omega) rfl rfl w3 HD3.out.1).mono ?_
    rintro e w4 ⟨v, hv, rfl, hd4⟩
    have hvi : I64 v := list_i64 (l := [-2, 0, 1, 5, 9223372036854775807]) (by decide) hv
    have HO4 := HO3.out.only hd4.2 HO3.out.span (Or.inl hb)
    have fz := HO4.2.frozenAt (k * 4 + 2)
    obtain ⟨u, hu⟩ := row_cell HO4.2 (k := k * 4 + 2) (by omega)
    obtain ⟨l', hp, hg, hfm'⟩ := ownf_put HO4 hkm 2 (by omega) v
    have HP := Lib.hid hp
    have HD4 := HD3.out.trans hd4
    have HD5 := Lib.hid (Curs.far HD4.1 hg hgb HC.out HD4 (by omega))
    clear hp hg HO4 HD4 hd4
    go_wp2
    go_ret
    exact ⟨_, m, c', l', rfl, HP.out, by omega, hfm' hfm hvi, HD5.out⟩
  have b2 : (y == 2) = false := by simpa using q2
  by_cases q3 : y = 3
  · have b3 : (y == 3) = true := by simpa using q3
    clear q3
    go_wp2_with fail
    refine (pickNew b a n c [-1, 1, 10] 3 (by omega) (by omega) rfl rfl w3 HD3.out.1).mono ?_
    rintro e w4 ⟨v, hv, rfl, hd4⟩
    have hvi : I64 v := list_i64 (l := [-1, 1, 10]) (by decide) hv
    have HO4 := HO3.out.only hd4.2 HO3.out.span (Or.inl hb)
    have fz := HO4.2.frozenAt (k * 4 + 3)
    obtain ⟨u, hu⟩ := row_cell HO4.2 (k := k * 4 + 3) (by omega)
    obtain ⟨l', hp, hg, hfm'⟩ := ownf_put HO4 hkm 3 (by omega) v
    have HP := Lib.hid hp
    have HD4 := HD3.out.trans hd4
    have HD5 := Lib.hid (Curs.far HD4.1 hg hgb HC.out HD4 (by omega))
    clear hp hg HO4 HD4 hd4
    go_wp2
    go_ret
    exact ⟨_, m, c', l', rfl, HP.out, by omega, hfm' hfm hvi, HD5.out⟩
  have b3 : (y == 3) = false := by simpa using q3
  by_cases q4 : y = 4
  · have b4 : (y == 4) = true := by simpa using q4
    clear q4
    go_wp2_with fail
    go_loopw [3] (fun s wr => ∃ (g m c' : Nat) (l : List Fd), 1 ≤ m ∧ m ≤ 7 ∧ s = .slice (some ⟨g, 0, none⟩) m c' ∧ OwnF 70 wr w.heap.size (some ⟨g, 0, none⟩) m c' l ∧ FM l ∧ Drawn b a n c w wr) (fun s _ => 7 - (match s with | .slice _ m _ => m | _ => 0))
    case atStart => exact ⟨g, m, c', l, hm1, by omega, rfl, HO3.out, hfm, HD3.out⟩
    case round =>
      obtain ⟨g2, m2, c2, l2, hm1', hm7, rfl, ho, hfm2, hd⟩ := hrel
      have HO := Lib.hid ho
      have HD := Lib.hid hd
      clear ho hd
      by_cases hlt : m2 < 7
      · have e1 : decide ((m2 : Int) < 7) = true := decide_eq_true (by omega)
        obtain ⟨b', o', z, hbo, hz, h0, h1, h2, h3⟩ := fds_at (HO.out.items Fd.enc_len) (j := 0) (by omega)
        cases hbo
        simp only [Nat.zero_mul, Nat.zero_add, Nat.add_zero] at h0 h1 h2 h3
        have hsw := HD.out.2.size
        have hfm3 : FM (l2 ++ [z]) := fun y hy => by
          rcases List.mem_append.1 hy with q | q
          · exact hfm2 y q
          · rw [List.mem_singleton.1 q]; exact hfm2 z (List.mem_of_getElem? hz)
        have HN := Lib.hid (items_new Fd.enc_len wr z 70)
        go_wp2_with (at_builtin; refine wpl_appI _ Fd.enc_len (by omega) fd_cells rfl (.tmp 54) (.tmp 58) 24 rfl 70 i0 (.agg #[.int .i64 0, .int .i64 0, .int .i64 0, .int .i64 0]) 32 Try.underlying24 HI.out.1 HI.out.2.1 HI.out.2.2.1 HI.out.2.2.2 rfl rfl (HO.out.alloc _) rfl HN.out (by omega) ?c4 ?c5 ?_)
        case c4 => omega
        case c5 => simp; omega
        intro a5 c5 w5 ho5 hb5
        obtain ⟨g5, rfl, hg5, hg6⟩ := ho5.head (by omega)
        have HO5 := Lib.hid ho5
        have HD5 : Hid (Drawn b a n c w w5) := Lib.hid (HD.out.under HC.out ((alloc_same wr _).mono (by omega) |>.trans hb5) (Nat.le_refl _))
        clear ho5 hb5
        go_wp2
        go_roundw
        case rel => exact ⟨g5, m2 + 1, c5, _, by omega, by omega, by simp, HO5.out, hfm3, HD5.out⟩
        case measure => simp; omega
      · have e1 : decide ((m2 : Int) < 7) = false := decide_eq_false (by omega)
        go_wp2
        go_ret
        exact ⟨_, m2, c2, l2, rfl, HO.out, hm7, hfm2, HD.out⟩
  have b4 : (y == 4) = false := by simpa using q4
  by_cases q5 : y = 5
  · have b5 : (y == 5) = true := by simpa using q5
    clear q5
    go_wp2
    go_ret
    exact ⟨none, 0, 0, [], rfl, OwnI.nil, by omega, (fun x hx => by cases hx), HD3.out⟩
  have b5 : (y == 5) = false := by simpa using q5
  clear q0 q1 q2 q3 q4 q5
  go_wp2
  go_ret
  exact ⟨_, m, c', l, rfl, HO3.out, by omega, hfm, HD3.out⟩
end Go.Proofs.Ytjmabidahofbbaa
