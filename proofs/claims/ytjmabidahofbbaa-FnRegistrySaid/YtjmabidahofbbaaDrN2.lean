/- What chapter 10's law draws: lists of entries, spoiled; and tags. -/
import Derived.Test.YtjmabidahofbbaaDrN
import Derived.Test.YtjmabidahofbbaaIntT
import Derived.Deep.LoopGhost
namespace Go.Proofs.Ytjmabidahofbbaa
open Go.ChangeShapes Go.WideShapes Go.ChangeAt Go.RowKit Go.Sort
set_option linter.unusedVariables false

theorem asg_grows {v : List En} {x : Int} (hx : inB x 0 9 = true) (hl : v.length < 12) (h : isReg (asgL v x) = true) : (asgL v x).length = v.length + 1 := by
  cases ho : asgOk v x with
  | true => rw [(asg_yes ho).2, insB_len]
  | false =>
    rw [(asg_no ho).2] at h
    unfold asgOk at ho
    rw [h, hx, decide_eq_true hl] at ho
    cases ho
set_option maxHeartbeats 2000000 in
set_option maxRecDepth 100000 in
theorem l10Any_any (b : Nat) (a : Option Addr) (n c : Nat) (w : World) (hc : Curs w b a n c) :
    Calls Try.prog 66 #[.pointer (some ⟨b, 0, none⟩)] w (DrewN b a n c w) := by
  have HC := Lib.hid hc
  have hblt := hc.lt
  clear hc
  go_enter Try.func66, Try.ntmps66
  go_wp2_with fail
  refine (l10Draw_any b a n c w HC.out).mono ?_
  rintro e w1 ⟨q, m, d, v, rfl, ho, hm, hd⟩
  have HO1 := Lib.hid ho
  have HD1 := Lib.hid hd
  clear ho hd
  by_cases hm0 : m = 0
  · have HM := Lib.hid hm0
    have hz : ((m : Int) == 0) = true := by simp [hm0]
    clear hm0
    go_wp2_with fail
    go_ret
    exact ⟨q, m, d, v, rfl, HO1.out, hm, HD1.out⟩
  · have hz : ((m : Int) == 0) = false := by simp; omega
    have hz2 : ¬ ((m : Int) = 0) := by omega
    go_wp2_with fail
    refine (below_any b a n c m (by omega) (by omega) _ HD1.out.1).mono ?_
    rintro e w2 ⟨x, hx0, hx1, rfl, hd2⟩
    obtain ⟨k, rfl⟩ : ∃ k : Nat, x = k := ⟨x.toNat, by omega⟩
    have HO2 := Lib.hid (HO1.out.only hd2.2 HO1.out.span (Or.inl hblt))
    have HD2 := Lib.hid (HD1.out.trans hd2)
    clear hd2 HO1 HD1
    go_wp2_with fail
    refine (below_any b a n c 9 (by omega) (by omega) _ HD2.out.1).mono ?_
    rintro e w3 ⟨s, hs0, hs1, rfl, hd3⟩
    have HO3 := Lib.hid (HO2.out.only hd3.2 HO2.out.span (Or.inl hblt))
    have HD3 := Lib.hid (HD2.out.trans hd3)
    have hsz3 := HD3.out.2.size
    clear hd3 HO2 HD2
    have hkm : k < m := by omega
    by_cases e0 : s = 0
    · subst e0
      go_wp2_with fail
      refine (pickNew b a n c [-1, 10, 26, 255, 256] 5 (by omega) (by omega) rfl rfl w3 HD3.out.1).mono ?_
      rintro e w4 ⟨z, hz4, rfl, hd4⟩
      have HO4 := Lib.hid (HO3.out.only hd4.2 HO3.out.span (Or.inl hblt))
      have HD4 := Lib.hid (HD3.out.trans hd4)
      clear hd4 hz4
      obtain ⟨g, rfl, hg1, hg2⟩ := HO4.out.head (by omega)
      obtain ⟨b9, o9, y, e9, hy, hc0, hc1, hc2⟩ := ens_at (HO4.out.items En.enc_len) hkm
      cases e9
      rw [Nat.zero_add] at hc0
      have hf := HO4.out.row.frozenAt (k * 3)
      have hp := own_putE (i := 0) (v := .int .i64 z) (y := ⟨z, y.vend, y.old⟩) HO4.out hy (by omega) rfl
      rw [Nat.add_zero] at hp
      have HO5 : Hid (OwnN 51 (w4.setCell ⟨g, k * 3, none⟩ (.int .i64 z)) w.heap.size (some ⟨g, 0, none⟩) m d (v.set k ⟨z, y.vend, y.old⟩)) := Lib.hid hp.1
      have HD5 : Hid (Drawn b a n c w (w4.setCell ⟨g, k * 3, none⟩ (.int .i64 z))) := Lib.hid (HD4.out.under HC.out (grown_to (b := some ⟨g, 0, none⟩) (m := m) (d := d) hp.2 (Below.refl w.heap.size w4) (fun ad e => by cases e; exact ⟨hg1, hg2⟩) (Nat.le_refl _) HD4.out.2.size) (Nat.le_refl _))
      clear hp hy
      go_wp2_with fail
      go_ret
      exact ⟨_, _, _, _, rfl, HO5.out, hm, HD5.out⟩
    · have n0 : (s == 0) = false := by simp [e0]
      by_cases e1 : s = 1
      · subst e1
        go_wp2_with fail
        refine (pickNew b a n c [-1, 9, 10] 3 (by omega) (by omega) rfl rfl w3 HD3.out.1).mono ?_
        rintro e w4 ⟨z, hz4, rfl, hd4⟩
        have HO4 := Lib.hid (HO3.out.only hd4.2 HO3.out.span (Or.inl hblt))
        have HD4 := Lib.hid (HD3.out.trans hd4)
        clear hd4 hz4
        obtain ⟨g, rfl, hg1, hg2⟩ := HO4.out.head (by omega)
        obtain ⟨b9, o9, y, e9, hy, hc0, hc1, hc2⟩ := ens_at (HO4.out.items En.enc_len) hkm
        cases e9
        rw [Nat.zero_add] at hc1
        have hf := HO4.out.row.frozenAt (k * 3 + 1)
        have hp := own_putE (i := 1) (v := .int .i64 z) (y := ⟨y.tag, z, y.old⟩) HO4.out hy (by omega) rfl
        have HO5 : Hid (OwnN 51 (w4.setCell ⟨g, k * 3 + 1, none⟩ (.int .i64 z)) w.heap.size (some ⟨g, 0, none⟩) m d (v.set k ⟨y.tag, z, y.old⟩)) := Lib.hid hp.1
        have HD5 : Hid (Drawn b a n c w (w4.setCell ⟨g, k * 3 + 1, none⟩ (.int .i64 z))) := Lib.hid (HD4.out.under HC.out (grown_to (b := some ⟨g, 0, none⟩) (m := m) (d := d) hp.2 (Below.refl w.heap.size w4) (fun ad e => by cases e; exact ⟨hg1, hg2⟩) (Nat.le_refl _) HD4.out.2.size) (Nat.le_refl _))
        clear hp hy
        go_wp2_with fail
        go_ret
        exact ⟨_, _, _, _, rfl, HO5.out, hm, HD5.out⟩
      · have n1 : (s == 1) = false := by simp [e1]
        by_cases e2 : s = 2
        · subst e2
          go_wp2_with fail
          go_loopg [3] 13 (fun gg s wr => ∃ (q : Option Addr) (m d : Nat) (v : List En), s = .slice q m d ∧ m ≤ 12 ∧ 12 - m ≤ gg ∧ OwnN 51 wr w.heap.size q m d v ∧ Drawn b a n c w wr)
          case atStart => exact ⟨q, m, d, v, rfl, hm, by omega, HO3.out, HD3.out⟩
          case round =>
            clear HO3 HD3 hm hm0 hz hz2 hx0 hx1 hkm
            obtain ⟨q, m, d, v, rfl, hm, hgg, ho, hd⟩ := hrel
            have HO := Lib.hid ho
            have HD := Lib.hid hd
            have hsz := hd.2.size
            have hrm := ho.room
            clear ho hd
            by_cases h12 : m < 12
            · have h12i : (m : Int) < 12 := by omega
              go_wp2_with fail
              refine (specAssignTag_any 1 (HO.out.items En.enc_len) (by omega) hrm).mono ?_
              rintro e w5 ⟨q5, m5, d5, rfl, ho5, hb5⟩
              have hm5 : m5 ≤ 12 := by
                have h1 := ho5.len
                have h2 := asgL_12 (v := 1) (l := v) (by have := HO.out.len; omega)
                omega
              have HG : Hid (isReg (asgL v 1) = true → m5 = m + 1) := Lib.hid (fun hr => by
                have h1 := asg_grows (v := v) (x := 1) (by decide) (by have := HO.out.len; omega) hr
                have h2 := ho5.len
                have h3 := HO.out.len
                omega)
              have HO5 := Lib.hid (ho5.lower hsz)
              have HD5 := Lib.hid (HD.out.same hb5)
              clear ho5 hb5
              have hreg := specIsRegistry_any (c := d5) (HO5.out.items En.enc_len)
              obtain ⟨r, hr⟩ : ∃ r, isReg (asgL v 1) = r := ⟨_, rfl⟩
              rw [hr] at hreg
              have HR := Lib.hid hr
              clear hr
              go_wp2_with fail
              refine hreg.mono ?_
              rintro e w6 ⟨rfl, hb6⟩
              have HO6 := Lib.hid (HO5.out.same hb6)
              have HD6 := Lib.hid (HD5.out.same hb6)
              clear hb6 hreg HO5 HD5
              cases r with
              | true =>
                have hm6 := HG.out HR.out
                have HM6 := Lib.hid hm6
                have hmm : 12 - m5 < gk := by omega
                clear hm6
                go_wp2_with fail
                go_roundg (12 - m5)
                case measure => omega
                case rel => exact ⟨q5, m5, d5, _, rfl, hm5, Nat.le_refl _, HO6.out, HD6.out⟩
              | false =>
                go_wp2_with fail
                go_ret
                exact ⟨_, _, _, _, rfl, HO6.out, hm5, HD6.out⟩
            · have h12i : ¬ (m : Int) < 12 := by omega
              go_wp2_with fail
              go_ret
              exact ⟨_, _, _, _, rfl, HO.out, hm, HD.out⟩
        · have n2 : (s == 2) = false := by simp [e2]
          go_wp2_with fail
          go_ret
          exact ⟨_, _, _, _, rfl, HO3.out, hm, HD3.out⟩
set_option maxRecDepth 100000 in
theorem drawAssignTag_any (a : Option Addr) (n c : Nat) (w : World) (hC : Code w a n) :
    Calls Try.prog 22 #[.slice a n c] w (fun e w' => ∃ (q : Option Addr) (m d : Nat) (v : List En) (x : Int), e = .returned (.tuple #[.slice q m d, .int .i64 x]) ∧ OwnN 51 w' w.heap.size q m d v ∧ m ≤ 12 ∧ Below w.heap.size w w') := by
  have HC := Lib.hid hC
  clear hC
  go_enter Try.func22, Try.ntmps22
  go_wp2_with fail
  refine (new_any a n c HC.out.2 w HC.out.1).mono ?_
  rintro e w1 ⟨rfl, hcu, hb1⟩
  have HCU := Lib.hid hcu
  have HB1 := Lib.hid hb1
  have hs1 := hb1.size
  have hlt := hcu.lt
  clear hcu hb1
  go_wp2_with fail
  refine (l10Any_any w.heap.size a n c w1 HCU.out).mono ?_
  rintro e w2 ⟨q, m, d, v, rfl, ho, hm, hd⟩
  have HO := Lib.hid ho
  have HD2 := Lib.hid hd
  clear ho hd
  go_wp2_with fail
  refine (below_any w.heap.size a n c 12 (by omega) (by omega) _ HD2.out.1).mono ?_
  rintro e w3 ⟨x, hx0, hx1, rfl, hd3⟩
  have HO3 := Lib.hid ((HO.out.only hd3.2 HO.out.span (Or.inl hlt)).lower hs1)
  have HB3 := Lib.hid (HB1.out.trans ((HD2.out.trans hd3).below (Nat.le_refl _) hs1))
  clear hd3
  go_wp2_with fail
  go_ret2
  exact ⟨q, m, d, v, _, rfl, HO3.out, hm, HB3.out⟩
set_option maxHeartbeats 1000000 in
set_option maxRecDepth 100000 in
theorem drawClashOf_any (a : Option Addr) (n c : Nat) (w : World) (hC : Code w a n) :
    Calls Try.prog 30 #[.slice a n c] w (fun e w' => ∃ (q : Option Addr) (m d : Nat) (v : List En) (qt : Option Addr) (mt dt : Nat) (T : List Int) (x : Int), e = .returned (.tuple #[.slice q m d, .slice qt mt dt, .int .i64 x]) ∧ OwnN 51 w' w.heap.size q m d v ∧ m ≤ 12 ∧ Own .i64 3 w' w.heap.size qt mt dt T ∧ mt ≤ 5 ∧ Below w.heap.size w w') := by
  have HC := Lib.hid hC
  clear hC
  obtain ⟨i0, hi, hz0, hz1, hz2⟩ := info_parts infoIntS
  have HI := Lib.hid (And.intro hi (And.intro hz0 (And.intro hz1 hz2)))
  clear hi hz0 hz1 hz2
  go_enter Try.func30, Try.ntmps30
  go_wp2_with fail
  refine (new_any a n c HC.out.2 w HC.out.1).mono ?_
  rintro e w1 ⟨rfl, hcu, hb1⟩
  have HCU := Lib.hid hcu
  have HB1 := Lib.hid hb1
  have hs1 := hb1.size
  have hlt := hcu.lt
  clear hcu hb1
  go_wp2_with fail
  refine (l10Any_any w.heap.size a n c w1 HCU.out).mono ?_
  rintro e w2 ⟨q, m, d, v, rfl, ho, hm, hd⟩
  have HO := Lib.hid ho
  have HD2 := Lib.hid hd
  have hs2 := hd.2.size
  have hlt2 := hd.1.lt
  clear ho hd
  have HT0 : Hid (Own .i64 3 (w2.alloc (.cells #[] 3)) w2.heap.size (some ⟨w2.heap.size, 0, none⟩) 0 0 []) := Lib.hid (Own.empty (Nat.le_refl _))
  have HA0 : Hid (Drawn w.heap.size a n c w2 (w2.alloc (.cells #[] 3))) := Lib.hid ((Drawn.refl HD2.out.1).same (alloc_same _ _))
  go_wp2_with fail
  refine (below_any w.heap.size a n c 5 (by omega) (by omega) _ HA0.out.1).mono ?_
  rintro e w3 ⟨x, hx0, hx1, rfl, hd3⟩
  obtain ⟨r0, rfl⟩ : ∃ r : Nat, x = r := ⟨x.toNat, by omega⟩
  have HT3 := Lib.hid (HT0.out.only hd3.2 HT0.out.span (Or.inl hlt2))
  have HA3 := Lib.hid (HA0.out.trans hd3)
  clear hd3 HT0 HA0
  go_wp2_with fail
  go_loopw [7, 8] (fun s i wr => ∃ (r : Nat) (qt : Option Addr) (mt dt : Nat) (T : List Int), s = .slice qt mt dt ∧ i = .int .i64 r ∧ mt + r ≤ 5 ∧ Own .i64 3 wr w2.heap.size qt mt dt T ∧ Drawn w.heap.size a n c w2 wr) (fun _ i _ => (intOf i).toNat)
  case atStart => exact ⟨r0, _, _, _, [], rfl, rfl, by omega, HT3.out, HA3.out⟩
  case round =>
    clear HT3 HA3
    obtain ⟨r, qt, mt, dt, T, rfl, rfl, hr, ho, hd⟩ := hrel
    have HT := Lib.hid ho
    have HA := Lib.hid hd
    have hszA := hd.2.size
    clear ho hd
    by_cases hr0 : 0 < r
    · have hri : (0 : Int) < (r : Int) := by omega
      go_wp2_with fail
      refine (below_any w.heap.size a n c 14 (by omega) (by omega) _ HA.out.1).mono ?_
      rintro e w5 ⟨x, hx0, hx1, rfl, hd5⟩
      have HT5 := Lib.hid (HT.out.only hd5.2 HT.out.span (Or.inl hlt2))
      have HA5 := Lib.hid (HA.out.trans hd5)
      have hsz5 := HA5.out.2.size
      clear hd5
      go_wp2_with (at_builtin; refine wpl_app _ rfl (.tmp 20) (.tmp 23) 29 rfl .i64 3 i0 (.int .i64 0) 8 Try.underlying29 HI.out.1 HI.out.2.1 HI.out.2.2.1 HI.out.2.2.2 rfl rfl (HT5.out.alloc _) rfl (nums_new _ _ _ _) (by omega) ?c1 ?c2 ?_)
      case c1 => omega
      case c2 => simp; omega
      intro a6 c6 w6 ho6 hb6
      have HT6 := Lib.hid ho6
      have HA6 := Lib.hid (HA5.out.under HD2.out.1 (((alloc_same w5 _).mono hsz5).trans hb6) (Nat.le_refl _))
      clear ho6 hb6
      go_wp2_with fail
      go_roundw
      case rel => exact ⟨r - 1, a6, mt + 1, c6, _, rfl, by first | go_num | (congr 1; omega), by omega, HT6.out, HA6.out⟩
      case measure => simp [intOf]; omega
    · have hri : ¬ (0 : Int) < (r : Int) := by omega
      go_wp2_with fail
      refine (below_any w.heap.size a n c 4 (by omega) (by omega) _ HA.out.1).mono ?_
      rintro e w5 ⟨x, hx0, hx1, rfl, hd5⟩
      have HT5 := Lib.hid ((HT.out.only hd5.2 HT.out.span (Or.inl hlt2)).lower (Nat.le_trans hs1 hs2))
      have HA5 := Lib.hid (HA.out.trans hd5)
      have HO5 := Lib.hid ((HO.out.only HA5.out.2 HO.out.span (Or.inl hlt)).lower hs1)
      have HB5 := Lib.hid (HB1.out.trans ((HD2.out.trans HA5.out).below (Nat.le_refl _) hs1))
      clear hd5
      go_wp2_with fail
      go_ret3
      exact ⟨q, m, d, v, qt, mt, dt, T, _, rfl, HO5.out, hm, HT5.out, by omega, HB5.out⟩
end Go.Proofs.Ytjmabidahofbbaa
