/- How many lists of small numbers are accepted: the count, and how the program counts. -/
import Derived.Test.YtjmabidahofbbaaRpI
import Derived.Test.YtjmabidahofbbaaSeq
import Derived.Test.YtjmabidahofbbaaCodeL
import Derived.ArgAppend
namespace Go.Proofs.Ytjmabidahofbbaa
open Go.ChangeShapes Go.WideShapes Go.ChangeAt Go.RowKit
set_option linter.unusedVariables false

noncomputable def okN (l : List Fd) (y : List Int) : Nat := if dmOk l y = true then 1 else 0
theorem okN_yes {l : List Fd} {y : List Int} (h : dmOk l y = true) : okN l y = 1 := if_pos h
theorem okN_no {l : List Fd} {y : List Int} (h : dmOk l y = false) : okN l y = 0 := if_neg (by rw [h]; decide)
/-- The sum of the first values of a function. -/
def partS (f : Nat → Nat) : Nat → Nat
  | 0 => 0
  | i + 1 => partS f i + f i
theorem partS_le {f : Nat → Nat} {s : Nat} (h : ∀ i, f i ≤ s) : ∀ k, partS f k ≤ k * s
  | 0 => by simp [partS]
  | k + 1 => by have h1 := partS_le h k; have h2 := h k; rw [partS, Nat.add_mul]; omega
/-- How many accepted lists begin with y and have at most r numbers more. -/
noncomputable def cntFrom (l : List Fd) : Nat → List Int → Nat
  | 0, y => okN l y
  | r + 1, y => okN l y + partS (fun x => cntFrom l r (y ++ [(x : Int)])) 3
/-- How many lists there are that are no longer. -/
def szOf : Nat → Nat
  | 0 => 1
  | r + 1 => 1 + 3 * szOf r
theorem okN_le (l : List Fd) (y : List Int) : okN l y ≤ 1 := by unfold okN; split <;> omega
theorem szOf_pos : ∀ r, 1 ≤ szOf r
  | 0 => by simp [szOf]
  | r + 1 => by simp [szOf]
theorem szOf_mono : ∀ {r q : Nat}, r ≤ q → szOf r ≤ szOf q := by
  intro r q h
  induction q with
  | zero => obtain rfl : r = 0 := by omega
            exact Nat.le_refl _
  | succ q ih =>
    by_cases e : r = q + 1
    · rw [e]; exact Nat.le_refl _
    · have := ih (by omega)
      rw [szOf]
      omega
theorem szOf_few {r : Nat} (h : r ≤ 5) : szOf r ≤ 364 := by
  have := szOf_mono h
  have e : szOf 5 = 364 := rfl
  omega
theorem cnt_le (l : List Fd) : ∀ (r : Nat) (y : List Int), cntFrom l r y ≤ szOf r
  | 0, y => okN_le l y
  | r + 1, y => by
    have h1 := okN_le l y
    have h2 := partS_le (fun i => cnt_le l r (y ++ [(i : Int)])) 3
    rw [cntFrom, szOf]
    omega
theorem rdP_notFmt {l : List Fd} {y : List Int} (h : isFmt l = false) : dmOk l y = false := by
  have hr := rp_none (y := y) (rdP_not h)
  unfold dmOk
  exact decide_eq_false (by rw [hr.2]; omega)
theorem cnt_not {l : List Fd} (h : isFmt l = false) : ∀ (r : Nat) (y : List Int), cntFrom l r y = 0
  | 0, y => okN_no (rdP_notFmt h)
  | r + 1, y => by
    rw [cntFrom, okN_no (rdP_notFmt h)]
    have : ∀ k, partS (fun x => cntFrom l r (y ++ [(x : Int)])) k = 0 := by
      intro k
      induction k with
      | zero => rfl
      | succ k ih => rw [partS, ih]; show 0 + cntFrom l r (y ++ [(k : Int)]) = 0; rw [cnt_not h r]
    rw [this]
/-- What CountMessages answers. -/
noncomputable def cntMsg (l : List Fd) (most : Int) : Int := if 0 ≤ most ∧ most ≤ 5 then (cntFrom l most.toNat [] : Nat) else 0

set_option maxHeartbeats 4000000 in
set_option maxRecDepth 100000 in
theorem countFrom_any (a : Option Addr) (n c : Nat) (l : List Fd) (hfc : n ≤ c ∧ (c : Int) ≤ 9223372036854775807) (hn : n ≤ 1000000000) : ∀ (r : Nat), r ≤ 5 → ∀ (g m d : Nat) (y : List Int) (w : World), Fds w a n l → Nums .i64 w (some ⟨g, 0, none⟩) m y → (m ≤ d ∧ (d : Int) ≤ 9223372036854775807) → m + r ≤ 5 →
    Calls Try.prog 65 #[.slice a n c, .slice (some ⟨g, 0, none⟩) m d, .int .i64 r] w (Told (.int .i64 ((cntFrom l r y : Nat) : Int)) w) := by
  intro r
  induction r with
  | zero =>
    intro hr g m d y w h hv hd hm
    have KD := decodeMessage_any a n c l (some ⟨g, 0, none⟩) m d y w h hv hfc hd hn (by omega)
    unfold DmTold at KD
    clear h hv
    cases hok : dmOk l y with
    | true =>
      have HE : Hid (cntFrom l 0 y = 1) := Lib.hid (okN_yes hok)
      rw [hok] at KD
      clear hok
      go_enter Try.func65, Try.ntmps65
      go_wp2_with fail
      refine KD.mono ?_
      rintro e w1 ⟨a1, n1, c1, rfl, ho, hb1⟩
      have HB1 := Lib.hid hb1
      clear ho hb1 KD
      go_wp2_with fail
      go_ret
      exact ⟨by rw [HE.out]; rfl, HB1.out⟩
    | false =>
      have HE : Hid (cntFrom l 0 y = 0) := Lib.hid (okN_no hok)
      rw [hok] at KD
      clear hok
      go_enter Try.func65, Try.ntmps65
      go_wp2_with fail
      refine KD.mono ?_
      rintro e w1 ⟨a1, n1, c1, rfl, ho, hb1⟩
      have HB1 := Lib.hid hb1
      clear ho hb1 KD
      go_wp2_with fail
      go_ret
      exact ⟨by rw [HE.out]; rfl, HB1.out⟩
  | succ r ih =>
    intro hr g m d y w h hv hd hm
    have KD := decodeMessage_any a n c l (some ⟨g, 0, none⟩) m d y w h hv hfc hd hn (by omega)
    unfold DmTold at KD
    have H := Lib.hid h
    have HV := Lib.hid hv
    have hyl := Lib.hid hv.len
    have IH := Lib.hid (ih (by omega))
    obtain ⟨i0, hi, hz0, hz1, hz2⟩ := info_parts infoIntS
    have HI := Lib.hid (And.intro hi (And.intro hz0 (And.intro hz1 hz2)))
    clear h hv ih hi hz0 hz1 hz2
    obtain ⟨f, hf⟩ : ∃ f : Nat → Nat, f = fun x : Nat => cntFrom l r (y ++ [(x : Int)]) := ⟨_, rfl⟩
    have HF := Lib.hid hf
    have hsz : szOf r ≤ 364 := szOf_few (by omega)
    have hfle : ∀ i, f i ≤ 364 := fun i => by rw [hf]; exact Nat.le_trans (cnt_le l r _) hsz
    have HPS := Lib.hid (fun k => partS_le hfle k)
    have HC : Hid (cntFrom l (r + 1) y = okN l y + partS f 3) := Lib.hid (by rw [hf]; rfl)
    obtain ⟨k0, hk0⟩ : ∃ k0, okN l y = k0 := ⟨_, rfl⟩
    have hk1 : k0 ≤ 1 := by rw [← hk0]; exact okN_le l y
    have HFLE := Lib.hid hfle
    rw [hk0] at HC
    clear hf hfle hsz
    rw [show ((r + 1 : Nat) : Int) = (r : Int) + 1 by omega]
    have hr0 : ¬ ((r : Int) + 1 = 0) := by omega
    have hr1 : ((r : Int) + 1 == 0) = false := by simpa using hr0
    cases hok : dmOk l y with
    | true =>
      obtain rfl : k0 = 1 := by rw [← hk0]; exact okN_yes hok
      rw [hok] at KD
      clear hok hk0
      go_enter Try.func65, Try.ntmps65
      go_wp2_with fail
      refine KD.mono ?_
      rintro e w1 ⟨a1, n1, c1, rfl, ho, hb1⟩
      have HB1 := Lib.hid hb1
      clear ho hb1 KD
      go_wp2_with fail
      go_loopw [7, 23] (fun u i wr => ∃ j : Nat, i = .int .i64 j ∧ j ≤ 3 ∧ u = .int .i64 ((1 + partS f j : Nat) : Int) ∧ Below w.heap.size w wr) (fun _ i _ => 3 - (intOf i).toNat)
      case atStart => exact ⟨0, rfl, Nat.zero_le _, rfl, HB1.out⟩
      case round =>
        obtain ⟨j, rfl, hj, rfl, hb⟩ := hrel
        have HB := Lib.hid hb
        clear hb
        have hps : partS f j ≤ j * 364 := HPS.out j
        have hfj := HFLE.out j
        by_cases hlt : j < 3
        · have hltI : (j : Int) < 3 := by omega
          have hsum : Hid (((1 + partS f (j + 1) : Nat) : Int) = ((1 + partS f j : Nat) : Int) + ((f j : Nat) : Int)) := Lib.hid (by rw [partS]; omega)
          have HVr := Lib.hid (HV.out.same HB.out)
          obtain ⟨s0, hs0⟩ : ∃ s0 : Nat, 1 + partS f j = s0 := ⟨_, rfl⟩
          have hs1 : s0 ≤ 2000 := by omega
          rw [hs0] at hsum
          rw [hs0]
          clear hps
          go_wp2_with (at_builtin; refine wpList_append_grows _ rfl (.tmp 33) (.tmp 35) 29 rfl 3 i0 (.int .i64 0) 1 8 Try.underlying29 HI.out.1 HI.out.2.1 HI.out.2.2.1 HI.out.2.2.2 rfl (by decide) (some ⟨g, 0, none⟩) m m (y.map (Value.int .i64)) (by rfl) (fun e => by cases e) ?c0 ?c1 ⟨wr.heap.size, 0, none⟩ 1 1 [.int .i64 j] rfl rfl ?c2 ?c3 (by omega) (by unfold maxLen; omega) (by omega) ?grow)
          case c0 => rw [List.length_map, hyl.out]; omega
          case c1 =>
            intro b0 e q u hq
            cases e
            rw [List.getElem?_map] at hq
            have hqm : q < m := by
              rcases Nat.lt_or_ge q m with h1 | h1
              · exact h1
              · rw [List.getElem?_eq_none (by rw [hyl.out]; exact h1)] at hq
                cases hq
            obtain ⟨ad, x, e, hx, hc⟩ := (HVr.out.same (alloc_same wr (.cells #[.int .i64 j] 3))).at_ hqm
            cases e
            rw [hx] at hq
            cases hq
            exact hc
          case c2 => exact cell_one_new _ _ _
          case c3 => intro u hu; simp at hu; subst hu; rfl
          case grow =>
            intro v' w2 hown hgrow
            have hown' : w2.ownsRow (wr.alloc (.cells #[.int .i64 (j : Int)] 3)).heap.size 3 1 v' (m + 1) ((y ++ [(j : Int)]).map (Value.int .i64)) := by simpa using hown
            obtain ⟨b2, d2, rfl, ho2⟩ := own_of_row hown' (by rw [List.length_append, hyl.out]; rfl)
            obtain ⟨g2, rfl, hg2, hg3⟩ := ho2.head (by omega)
            have hbw : Below wr.heap.size wr w2 := (alloc_same wr (.cells #[.int .i64 (j : Int)] 3)).grown hgrow (by simp) (fun k e => by cases e)
            have HB2 := Lib.hid (HB.out.trans (hbw.mono HB.out.size))
            have HO2 := Lib.hid ho2
            have HIH := Lib.hid (IH.out g2 (m + 1) d2 (y ++ [(j : Int)]) w2 (H.out.same HB2.out) ho2.nums ho2.room (by omega))
            have HFJ : Hid (cntFrom l r (y ++ [(j : Int)]) = f j) := Lib.hid (by rw [HF.out])
            rw [HFJ.out] at HIH
            clear hown hown' hgrow hbw ho2
            go_wp2_with fail
            refine HIH.out.mono ?_
            rintro e w3 ⟨rfl, hb3⟩
            have HB3 := Lib.hid (HB2.out.trans (hb3.mono HB2.out.size))
            clear hb3
            go_wp2_with fail
            go_roundw
            case rel => exact ⟨j + 1, by go_num, by omega, by rw [hsum.out], HB3.out⟩
            case measure => simp [intOf]; omega
        · obtain rfl : j = 3 := by omega
          go_wp2_with fail
          go_ret
          exact ⟨by rw [HC.out]; rfl, HB.out⟩
    | false =>
      obtain rfl : k0 = 0 := by rw [← hk0]; exact okN_no hok
      rw [hok] at KD
      clear hok hk0
      go_enter Try.func65, Try.ntmps65
      go_wp2_with fail
      refine KD.mono ?_
      rintro e w1 ⟨a1, n1, c1, rfl, ho, hb1⟩
      have HB1 := Lib.hid hb1
      clear ho hb1 KD
      go_wp2_with fail
      go_loopw [7, 23] (fun u i wr => ∃ j : Nat, i = .int .i64 j ∧ j ≤ 3 ∧ u = .int .i64 ((0 + partS f j : Nat) : Int) ∧ Below w.heap.size w wr) (fun _ i _ => 3 - (intOf i).toNat)
      case atStart => exact ⟨0, rfl, Nat.zero_le _, rfl, HB1.out⟩
      case round =>
        obtain ⟨j, rfl, hj, rfl, hb⟩ := hrel
        have HB := Lib.hid hb
        clear hb
        have hps : partS f j ≤ j * 364 := HPS.out j
        have hfj := HFLE.out j
        by_cases hlt : j < 3
        · have hltI : (j : Int) < 3 := by omega
          have hsum : Hid (((0 + partS f (j + 1) : Nat) : Int) = ((0 + partS f j : Nat) : Int) + ((f j : Nat) : Int)) := Lib.hid (by rw [partS]; omega)
          have HVr := Lib.hid (HV.out.same HB.out)
          obtain ⟨s0, hs0⟩ : ∃ s0 : Nat, 0 + partS f j = s0 := ⟨_, rfl⟩
          have hs1 : s0 ≤ 2000 := by omega
          rw [hs0] at hsum
          rw [hs0]
          clear hps
          go_wp2_with (at_builtin; refine wpList_append_grows _ rfl (.tmp 33) (.tmp 35) 29 rfl 3 i0 (.int .i64 0) 1 8 Try.underlying29 HI.out.1 HI.out.2.1 HI.out.2.2.1 HI.out.2.2.2 rfl (by decide) (some ⟨g, 0, none⟩) m m (y.map (Value.int .i64)) (by rfl) (fun e => by cases e) ?c0 ?c1 ⟨wr.heap.size, 0, none⟩ 1 1 [.int .i64 j] rfl rfl ?c2 ?c3 (by omega) (by unfold maxLen; omega) (by omega) ?grow)
          case c0 => rw [List.length_map, hyl.out]; omega
          case c1 =>
            intro b0 e q u hq
            cases e
            rw [List.getElem?_map] at hq
            have hqm : q < m := by
              rcases Nat.lt_or_ge q m with h1 | h1
              · exact h1
              · rw [List.getElem?_eq_none (by rw [hyl.out]; exact h1)] at hq
                cases hq
            obtain ⟨ad, x, e, hx, hc⟩ := (HVr.out.same (alloc_same wr (.cells #[.int .i64 j] 3))).at_ hqm
            cases e
            rw [hx] at hq
            cases hq
            exact hc
          case c2 => exact cell_one_new _ _ _
          case c3 => intro u hu; simp at hu; subst hu; rfl
          case grow =>
            intro v' w2 hown hgrow
            have hown' : w2.ownsRow (wr.alloc (.cells #[.int .i64 (j : Int)] 3)).heap.size 3 1 v' (m + 1) ((y ++ [(j : Int)]).map (Value.int .i64)) := by simpa using hown
            obtain ⟨b2, d2, rfl, ho2⟩ := own_of_row hown' (by rw [List.length_append, hyl.out]; rfl)
            obtain ⟨g2, rfl, hg2, hg3⟩ := ho2.head (by omega)
            have hbw : Below wr.heap.size wr w2 := (alloc_same wr (.cells #[.int .i64 (j : Int)] 3)).grown hgrow (by simp) (fun k e => by cases e)
            have HB2 := Lib.hid (HB.out.trans (hbw.mono HB.out.size))
            have HO2 := Lib.hid ho2
            have HIH := Lib.hid (IH.out g2 (m + 1) d2 (y ++ [(j : Int)]) w2 (H.out.same HB2.out) ho2.nums ho2.room (by omega))
            have HFJ : Hid (cntFrom l r (y ++ [(j : Int)]) = f j) := Lib.hid (by rw [HF.out])
            rw [HFJ.out] at HIH
            clear hown hown' hgrow hbw ho2
            go_wp2_with fail
            refine HIH.out.mono ?_
            rintro e w3 ⟨rfl, hb3⟩
            have HB3 := Lib.hid (HB2.out.trans (hb3.mono HB2.out.size))
            clear hb3
            go_wp2_with fail
            go_roundw
            case rel => exact ⟨j + 1, by go_num, by omega, by rw [hsum.out], HB3.out⟩
            case measure => simp [intOf]; omega
        · obtain rfl : j = 3 := by omega
          go_wp2_with fail
          go_ret
          exact ⟨by rw [HC.out]; rfl, HB.out⟩

set_option maxHeartbeats 2000000 in
set_option maxRecDepth 100000 in
theorem countMessages_any (a : Option Addr) (n c : Nat) (l : List Fd) (most : Int) (w : World) (h : Fds w a n l) (hfc : n ≤ c ∧ (c : Int) ≤ 9223372036854775807) (hn : n ≤ 1000000000) (hm : Fit64 most) :
    Calls Try.prog 21 #[.slice a n c, .int .i64 most] w (Told (.int .i64 (cntMsg l most)) w) := by
  have H := Lib.hid h
  clear h hm
  by_cases hmost : 0 ≤ most ∧ most ≤ 5
  · obtain ⟨q, rfl⟩ : ∃ q : Nat, most = q := ⟨most.toNat, by omega⟩
    have HE : Hid (cntMsg l (q : Int) = ((cntFrom l q [] : Nat) : Int)) := Lib.hid (by unfold cntMsg; rw [if_pos hmost, Int.toNat_natCast])
    have hd : decide ((0 : Int) ≤ (q : Int) ∧ (q : Int) ≤ 5) = true := decide_eq_true hmost
    have HW : Hid (Below w.heap.size w (w.alloc (.cells #[] 3))) := Lib.hid (alloc_same _ _)
    have HO := Lib.hid (Own.empty (k := .i64) (t := 3) (w := w) (B := w.heap.size) (Nat.le_refl _))
    go_enter Try.func21, Try.ntmps21
    go_wp2_with fail
    refine (inR_t (n := (q : Int)) hd _).mono ?_
    rintro e w' ⟨rfl, rfl⟩
    go_wp2_with fail
    refine (countFrom_any a n c l hfc hn q (by omega) _ 0 0 [] _ (H.out.same HW.out) HO.out.nums (by omega) (by omega)).mono ?_
    rintro e w2 ⟨rfl, hb2⟩
    have HB2 := Lib.hid (HW.out.trans (hb2.mono HW.out.size))
    clear hb2
    go_wp2_with fail
    go_ret
    exact ⟨by rw [HE.out]; rfl, HB2.out⟩
  · have HE : Hid (cntMsg l most = 0) := Lib.hid (by unfold cntMsg; rw [if_neg hmost])
    have hd : decide ((0 : Int) ≤ most ∧ most ≤ 5) = false := decide_eq_false hmost
    go_enter Try.func21, Try.ntmps21
    go_wp2_with fail
    refine (inR_t (n := most) hd _).mono ?_
    rintro e w' ⟨rfl, rfl⟩
    go_wp2_with fail
    go_ret
    exact ⟨by rw [HE.out]; rfl, Below.refl _ _⟩
end Go.Proofs.Ytjmabidahofbbaa
