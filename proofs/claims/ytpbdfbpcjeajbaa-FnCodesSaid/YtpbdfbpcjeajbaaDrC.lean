/- The bytes that chapter 6's law draws. -/
import Derived.Test.YtpbdfbpcjeajbaaDrV3
import Derived.Test.YtpbdfbpcjeajbaaEncM
namespace Go.Proofs.Ytpbdfbpcjeajbaa
open Go.ChangeShapes Go.WideShapes Go.ChangeAt Go.RowKit
set_option linter.unusedVariables false
set_option linter.unusedSimpArgs false

/-- The beginning of a slice of the call's own. -/
theorem Own.cut {k : IntKind} {t : TypeId} {w : World} {B n c : Nat} {a : Option Addr} {l : List Int} (h : Own k t w B a n c l) {m : Nat} (hm : m ≤ n) (hn : 0 < n) : Own k t w B a m c (l.take m) := by
  refine ⟨by rw [List.length_take, h.len]; omega, by simp [h.len]; omega, ?_⟩
  rcases h.2.2 with ⟨_, h2⟩ | ⟨g, cap, cur, h1, hB, hg, hle, hcap, hcs, htk⟩
  · omega
  · injection h1 with e1 e2 e3
    subst e1
    subst e3
    refine Or.inr ⟨g, c, cur, rfl, hB, hg, by omega, hcap, hcs, ?_⟩
    rw [List.map_take, ← htk, List.take_take]
    congr 1
    omega
/-- A list of integers that is drawn. -/
def DrewI (b : Nat) (a : Option Addr) (n c most : Nat) (w : World) (e : Ending) (w' : World) : Prop :=
  ∃ (a' : Option Addr) (n' c' : Nat) (y : List Int), e = .returned (.slice a' n' c') ∧ Own .i64 3 w' w.heap.size a' n' c' y ∧ n' ≤ most ∧ Drawn b a n c w w'

set_option maxHeartbeats 2000000 in
set_option maxRecDepth 100000 in
theorem drawInts_any (b : Nat) (a : Option Addr) (n c : Nat) (w : World) (hc : Curs w b a n c) :
    Calls Try.prog 77 #[.pointer (some ⟨b, 0, none⟩)] w (DrewI b a n c 8 w) := by
  have HC := Lib.hid hc
  have hb := hc.lt
  clear hc
  obtain ⟨i0, hi, hz0, hz1, hz2⟩ := info_parts infoIntS
  have HI := Lib.hid (And.intro hi (And.intro hz0 (And.intro hz1 hz2)))
  clear hi hz0 hz1 hz2
  have HD0 : Hid (Drawn b a n c w (w.alloc (.cells #[] 3))) := Lib.hid ((Drawn.refl HC.out).same (alloc_same _ _))
  have HO0 : Hid (Own .i64 3 (w.alloc (.cells #[] 3)) w.heap.size (some ⟨w.heap.size, 0, none⟩) 0 0 []) := Lib.hid (Own.empty (Nat.le_refl _))
  go_enter Try.func77, Try.ntmps77
  go_wp2_with fail
  refine (below_any b a n c 9 (by omega) (by omega) _ HD0.out.1).mono ?_
  rintro e w1 ⟨x, hx0, hx1, rfl, hd1⟩
  obtain ⟨q0, rfl⟩ : ∃ q0 : Nat, x = q0 := ⟨x.toNat, by omega⟩
  have HO1 := Lib.hid (HO0.out.only hd1.2 HO0.out.span (Or.inl hb))
  have HD1 := Lib.hid (HD0.out.trans hd1)
  clear hd1
  go_wp2_with fail
  go_loopw [3, 4] (fun s i wr => ∃ (a' : Option Addr) (n' c' q : Nat) (y : List Int), s = .slice a' n' c' ∧ i = .int .i64 q ∧ n' + q ≤ 8 ∧ Own .i64 3 wr w.heap.size a' n' c' y ∧ Drawn b a n c w wr) (fun _ i _ => (intOf i).toNat)
  case atStart => exact ⟨_, _, _, q0, [], rfl, rfl, by omega, HO1.out, HD1.out⟩
  case round =>
    obtain ⟨a', n', c', q, y, rfl, rfl, hq, ho, hd⟩ := hrel
    have HO := Lib.hid ho
    have HD := Lib.hid hd
    clear ho hd
    by_cases hq0 : 0 < q
    · have hqi : (0 : Int) < (q : Int) := by omega
      go_wp2_with fail
      refine (below_any b a n c 6 (by omega) (by omega) _ HD.out.1).mono ?_
      rintro e w2 ⟨x, hx0, hx1, rfl, hd2⟩
      have HO2 := Lib.hid (HO.out.only hd2.2 HO.out.span (Or.inl hb))
      have HD2 := Lib.hid (HD.out.trans hd2)
      have hs2 := HD2.out.2.size
      clear hd2
      go_wp2_with (at_builtin; refine wpl_app _ rfl (.tmp 12) (.tmp 15) 28 rfl .i64 3 i0 (.int .i64 0) 8 Try.underlying28 HI.out.1 HI.out.2.1 HI.out.2.2.1 HI.out.2.2.2 rfl rfl (HO2.out.alloc _) rfl (nums_new _ _ _ _) (by omega) ?c1 ?c2 ?_)
      case c1 => omega
      case c2 => simp; omega
      intro a3 c3 w3 ho3 hb3
      have HO3 := Lib.hid ho3
      have HD3 := Lib.hid (HD2.out.under HC.out (((alloc_same _ _).mono hs2).trans hb3) (Nat.le_refl _))
      clear ho3 hb3
      go_wp2_with fail
      go_roundw
      case rel => exact ⟨a3, n' + 1, c3, q - 1, _, rfl, by go_num, by omega, HO3.out, HD3.out⟩
      case measure => simp [intOf]; omega
    · obtain rfl : q = 0 := by omega
      go_wp2_with fail
      go_ret
      exact ⟨_, _, _, _, rfl, HO.out, by omega, HD.out⟩

set_option maxHeartbeats 4000000 in
set_option maxRecDepth 100000 in
theorem drawCode_any (b : Nat) (a : Option Addr) (n c : Nat) (f : Option Addr) (fn fc : Nat) (l : List Fd) (w : World) (hc : Curs w b a n c) (hl : Fds w f fn l) (hfm : FM l) (hn : fn ≤ 7) (hne : ∀ ad, f = some ad → ad.block ≠ b) :
    Calls Try.prog 52 #[.pointer (some ⟨b, 0, none⟩), .slice f fn fc] w (DrewI b a n c 601 w) := by
  have HC := Lib.hid hc
  have hb := hc.lt
  have HL := Lib.hid hl
  have HNE := Lib.hid hne
  have KD := Lib.hid (drawV_any b a n c f fn fc l w hc hl hfm hn hne)
  clear hc hl hfm hne
  obtain ⟨i0, hi, hz0, hz1, hz2⟩ := info_parts infoIntS
  have HI := Lib.hid (And.intro hi (And.intro hz0 (And.intro hz1 hz2)))
  clear hi hz0 hz1 hz2
  go_enter Try.func52, Try.ntmps52
  go_wp2_with fail
  refine KD.out.mono ?_
  rintro e w1 ⟨ao, co, v, rfl, hov, _, hd1⟩
  have HV := Lib.hid hov.vals
  have HL1 := Lib.hid (HL.out.only hd1.2 HNE.out)
  have HD1 := Lib.hid hd1
  have hs1 := hd1.2.size
  clear hov hd1
  go_wp2_with fail
  refine (specEncodeMessage_any f fn fc l ao fn co v w1 HL1.out HV.out (by omega) (by omega)).mono ?_
  rintro e w2 ⟨a2, n2, c2, rfl, ho, hb2⟩
  have hn2 : n2 ≤ 600 := by rw [← ho.len]; exact encOf_few l v
  obtain ⟨y, hy⟩ : ∃ y, y = encOf l v := ⟨_, rfl⟩
  rw [← hy] at ho
  obtain ⟨ok, hok⟩ : ∃ ok, ok = fitsFmt l v := ⟨_, rfl⟩
  rw [← hok]
  have HO2 := Lib.hid (ho.lower hs1)
  have HD2 := Lib.hid (HD1.out.same hb2)
  clear ho hb2 hy hok
  go_wp2_with fail
  refine (below_any b a n c 8 (by omega) (by omega) _ HD2.out.1).mono ?_
  rintro e w3 ⟨x, hx0, hx1, rfl, hd3⟩
  have HO3 := Lib.hid (HO2.out.only hd3.2 HO2.out.span (Or.inl hb))
  have HD3 := Lib.hid (HD2.out.trans hd3)
  have hs3 := HD3.out.2.size
  clear hd3
  by_cases q0 : x = 0
  · have b0 : (x == 0) = true := by simpa using q0
    clear q0
    go_wp2_with fail
    refine (below_any b a n c 4 (by omega) (by omega) _ HD3.out.1).mono ?_
    rintro e w4 ⟨z, hz0, hz1, rfl, hd4⟩
    have HO4 := Lib.hid (HO3.out.only hd4.2 HO3.out.span (Or.inl hb))
    have HD4 := Lib.hid (HD3.out.trans hd4)
    have hs4 := HD4.out.2.size
    clear hd4
    go_wp2_with (at_builtin; refine wpl_app _ rfl (.tmp 19) (.tmp 22) 28 rfl .i64 3 i0 (.int .i64 0) 8 Try.underlying28 HI.out.1 HI.out.2.1 HI.out.2.2.1 HI.out.2.2.2 rfl rfl (HO4.out.alloc _) rfl (nums_new _ _ _ _) (by omega) ?c1 ?c2 ?_)
    case c1 => omega
    case c2 => simp; omega
    intro a5 c5 w5 ho5 hb5
    have HO5 := Lib.hid ho5
    have HD5 := Lib.hid (HD4.out.under HC.out (((alloc_same _ _).mono hs4).trans hb5) (Nat.le_refl _))
    clear ho5 hb5
    go_wp2_with fail
    go_ret
    exact ⟨_, _, _, _, rfl, HO5.out, by omega, HD5.out⟩
  have b0 : (x == 0) = false := by simpa using q0
  by_cases q1 : x = 1
  · have b1 : (x == 1) = true := by simpa using q1
    clear q0 q1
    by_cases hn0 : 0 < n2
    · have hni : (0 : Int) < (n2 : Int) := by omega
      obtain ⟨g, rfl, hg0, hg1⟩ := HO3.out.head hn0
      have HO4 := Lib.hid (HO3.out.cut (m := n2 - 1) (by omega) hn0)
      have hr := HO3.out.room
      go_wp2_with fail
      go_ret
      exact ⟨_, n2 - 1, _, _, rfl, HO4.out, by omega, HD3.out⟩
    · obtain rfl : n2 = 0 := by omega
      go_wp2_with fail
      go_ret
      exact ⟨_, _, _, _, rfl, HO3.out, by omega, HD3.out⟩
  have b1 : (x == 1) = false := by simpa using q1
  by_cases q2 : x = 2
  · have b2 : (x == 2) = true := by simpa using q2
    clear q0 q1 q2
    by_cases hn0 : 0 < n2
    · have hni : (0 : Int) < (n2 : Int) := by omega
      obtain ⟨g, rfl, hg0, hg1⟩ := HO3.out.head hn0
      go_wp2_with fail
      refine (below_any b a n c (n2 : Int) (by omega) (by omega) _ HD3.out.1).mono ?_
      rintro e w4 ⟨z, hz0, hz1, rfl, hd4⟩
      obtain ⟨k, rfl⟩ : ∃ k : Nat, z = k := ⟨z.toNat, by omega⟩
      have HO4 := Lib.hid (HO3.out.only hd4.2 HO3.out.span (Or.inl hb))
      have HD4 := Lib.hid (HD3.out.trans hd4)
      clear hd4
      go_wp2_with fail
      refine (pickNew b a n c [0, 1, 5, 6, 99, 255, 256, -1, 9223372036854775807] 9 (by omega) (by omega) rfl rfl w4 HD4.out.1).mono ?_
      rintro e w5 ⟨z, hz, rfl, hd5⟩
      have HO5 := Lib.hid (HO4.out.only hd5.2 HO4.out.span (Or.inl hb))
      have HD5 := Lib.hid (HD4.out.trans hd5)
      have hf := HO5.out.2.frozenAt k
      obtain ⟨u, hu⟩ : ∃ u, w5.cell? ⟨g, k, none⟩ = some u := by
        rw [HO5.out.2.cellAt k (by omega)]
        exact ⟨_, List.getElem?_eq_getElem (by rw [HO5.out.2.1]; omega)⟩
      have hst := HO5.out.2.stored k (.int .i64 z)
      rw [← List.map_set] at hst
      have HO6 : Hid (Own .i64 3 (w5.setCell ⟨g, k, none⟩ (.int .i64 z)) w.heap.size (some ⟨g, 0, none⟩) n2 c2 (y.set k z)) := Lib.hid ⟨by rw [List.length_set]; exact HO5.out.1, hst.1⟩
      have HD6 := Lib.hid (HD5.out.1.far hst.2 (by omega) HC.out HD5.out hg0)
      clear hst hd5 hz
      go_wp2_with fail
      go_ret
      exact ⟨_, _, _, _, rfl, HO6.out, by omega, HD6.out⟩
    · obtain rfl : n2 = 0 := by omega
      go_wp2_with fail
      go_ret
      exact ⟨_, _, _, _, rfl, HO3.out, by omega, HD3.out⟩
  have b2 : (x == 2) = false := by simpa using q2
  by_cases q3 : x = 3
  · have b3 : (x == 3) = true := by simpa using q3
    clear q0 q1 q2 q3
    go_wp2_with fail
    refine (drawInts_any b a n c w3 HD3.out.1).mono ?_
    rintro e w4 ⟨a4, n4, c4, y4, rfl, ho4, hn4, hd4⟩
    have HO4 := Lib.hid (ho4.lower hs3)
    have HD4 := Lib.hid (HD3.out.trans hd4)
    clear ho4 hd4
    go_wp2_with fail
    go_ret
    exact ⟨_, _, _, _, rfl, HO4.out, by omega, HD4.out⟩
  · have b3 : (x == 3) = false := by simpa using q3
    clear q0 q1 q2 q3
    go_wp2_with fail
    go_ret
    exact ⟨_, _, _, _, rfl, HO3.out, by omega, HD3.out⟩

/-- A list of fields and some bytes, as a law draws them. -/
def DrewFB (w : World) (e : Ending) (w' : World) : Prop :=
  ∃ (f : Option Addr) (fn fc : Nat) (l : List Fd) (a : Option Addr) (m c : Nat) (y : List Int), e = .returned (.tuple #[.slice f fn fc, .slice a m c]) ∧ Fds w' f fn l ∧ (fn ≤ fc ∧ (fc : Int) ≤ 9223372036854775807) ∧ fn ≤ 7 ∧ Nums .i64 w' a m y ∧ (m ≤ c ∧ (c : Int) ≤ 9223372036854775807) ∧ m ≤ 601 ∧ Below w.heap.size w w'
set_option maxHeartbeats 2000000 in
set_option maxRecDepth 100000 in
theorem drawDecodeMessage_any (a : Option Addr) (n c : Nat) (w : World) (h : Code w a n) :
    Calls Try.prog 19 #[.slice a n c] w (DrewFB w) := by
  have H := Lib.hid h
  clear h
  go_enter Try.func19, Try.ntmps19
  go_wp2_with fail
  refine (new_any a n c H.out.2 w H.out.1).mono ?_
  rintro e w1 ⟨rfl, hc1, hb1⟩
  have HC1 := Lib.hid hc1
  have HB1 := Lib.hid hb1
  have hs1 := hb1.size
  have hlt := hc1.lt
  clear hc1 hb1
  go_wp2_with fail
  refine (drawF_any w.heap.size a n c w1 HC1.out).mono ?_
  rintro e w2 ⟨gf, fn, fc, l, rfl, ho2, hm1, hm5, hfm, hd2⟩
  have hgf := ho2.span _ rfl
  dsimp only at hgf
  have hfb : ∀ ad : Addr, some (⟨gf, 0, none⟩ : Addr) = some ad → ad.block ≠ w.heap.size := fun ad e => by
    cases e
    dsimp only
    omega
  have HF2 := Lib.hid ho2
  have HFM := Lib.hid hfm
  have HD2 := Lib.hid hd2
  clear ho2 hd2 hfm
  go_wp2_with fail
  refine (drawCode_any w.heap.size a n c (some ⟨gf, 0, none⟩) fn fc l w2 HD2.out.1 (HF2.out.items Fd.enc_len) HFM.out (by omega) hfb).mono ?_
  rintro e w3 ⟨a3, n3, c3, y, rfl, ho3, hn3, hd3⟩
  have HF3 := Lib.hid (HF2.out.only hd3.2 HF2.out.span (Or.inl hlt))
  have HD3 := Lib.hid (HD2.out.trans hd3)
  have HO3 := Lib.hid ho3
  have hs2 := HD2.out.2.size
  clear ho3 hd3
  go_wp2_with fail
  refine (once_any w.heap.size a n c 10 (by omega) (by omega) _ HD3.out.1).mono ?_
  rintro e w4 ⟨tb, rfl, hd4⟩
  have HF4 := Lib.hid (HF3.out.only hd4.2 HF3.out.span (Or.inl hlt))
  have HO4 := Lib.hid (HO3.out.only hd4.2 HO3.out.span (Or.inl (by omega)))
  have HD4 := Lib.hid (HD3.out.trans hd4)
  clear hd4
  cases tb with
  | true =>
    go_wp2_with fail
    refine (anyF_any w.heap.size a n c w4 HD4.out.1).mono ?_
    rintro e w5 ⟨f5, m5, c5, l5, rfl, ho5, hm5, hfm5, hd5⟩
    have HO5 := Lib.hid (HO4.out.only hd5.2 HO4.out.span (Or.inl (by omega)))
    have HD5 := Lib.hid (HD4.out.trans hd5)
    have HF5 := Lib.hid (ho5.items Fd.enc_len)
    have HR5 := Lib.hid ho5.room
    have HB5 := Lib.hid (HB1.out.trans (HD5.out.below (Nat.le_refl _) hs1))
    clear ho5 hd5
    go_wp2_with fail
    go_ret2
    exact ⟨_, _, _, l5, _, _, _, y, rfl, HF5.out, HR5.out, hm5, HO5.out.nums, HO5.out.room, hn3, HB5.out⟩
  | false =>
    have HB4 := Lib.hid (HB1.out.trans (HD4.out.below (Nat.le_refl _) hs1))
    go_wp2_with fail
    go_ret2
    exact ⟨_, _, _, l, _, _, _, y, rfl, HF4.out.items Fd.enc_len, HF4.out.room, by omega, HO4.out.nums, HO4.out.room, hn3, HB4.out⟩
set_option maxRecDepth 100000 in
theorem drawEncodeMessage_any (a : Option Addr) (n c : Nat) (w : World) (h : Code w a n) :
    Calls Try.prog 10 #[.slice a n c] w fun e w' => ∃ (f : Option Addr) (fn fc : Nat) (l : List Fd) (ao : Option Addr) (m co : Nat) (v : List Vl), e = .returned (.tuple #[.slice f fn fc, .slice ao m co]) ∧ Fds w' f fn l ∧ (fn ≤ fc ∧ (fc : Int) ≤ 9223372036854775807) ∧ fn ≤ 7 ∧ Vals w' ao m v ∧ m ≤ 6 ∧ Below w.heap.size w w' := by
  have K := Lib.hid (drawFitsFormat_any a n c w h)
  clear h
  go_enter Try.func10, Try.ntmps10
  go_wp2_with fail
  refine K.out.mono ?_
  rintro e w1 ⟨f, fn, fc, l, ao, m, co, v, rfl, hf, hr, hn, hv, hm, _, hb⟩
  have HF := Lib.hid hf
  have HR := Lib.hid hr
  have HV := Lib.hid hv
  have HB := Lib.hid hb
  clear hf hr hv hb
  go_wp2_with fail
  go_ret2
  exact ⟨f, fn, fc, l, ao, m, co, v, rfl, HF.out, HR.out, hn, HV.out, hm, HB.out⟩
end Go.Proofs.Ytpbdfbpcjeajbaa
