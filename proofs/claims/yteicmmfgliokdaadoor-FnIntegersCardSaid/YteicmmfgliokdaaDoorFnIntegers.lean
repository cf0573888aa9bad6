/- At every input: what ParseInt reads is the numeral of what it answers, the numerals of the integers in range are read, and CeilDiv and Mod satisfy their defining inequalities; the tables of the library that are read start as the program lays them (the card ties them to the text). No other condition. -/
import Derived.Test.YteicmmfgliokdaaDoorIntegers0
import Derived.WalkKit
import Derived.ProofKit
import Derived.OpenShut
import Derived.Test.YteicmmfgliokdaaDoorTie
import Derived.Test.YteicmmfgliokdaaDoorCards
import Derived.SevenTiedAt
namespace Go.Proofs.YteicmmfgliokdaaDoor.fnIntegers
open Go.ChangeShapes Go.WideShapes Go.ChangeAt Go.RowKit Go.Lib
open Go.ChangeMaps (open_string shut_string)
set_option linter.unusedVariables false

theorem own : ownKnob Tryd.prog.godebug = none := by kernel_rfl

set_option maxHeartbeats 2000000 in
set_option maxRecDepth 100000 in
theorem walk (a0 : Option Addr) (n0 c0 : Nat) (w : World) (ht : Pow10 w) (k0 : Code w a0 n0) :
    Calls Tryd.prog 3 #[.slice a0 n0 c0] w fun e w' => e = .returned (.bool true) ∧ Below w.heap.size w w' := by
  by_cases hbig : 1048576 < n0
  · have hn := k0.2
    go_enter Tryd.func3, Tryd.ntmps3
    go_wp2
    go_ret
    exact ⟨rfl, Below.refl _ _⟩
  have hn := k0.2
  have HK := Lib.hid k0
  have HT := Lib.hid ht
  clear k0 ht
  go_enter Tryd.func3, Tryd.ntmps3
  go_wp2_with fail
  refine (big_any a0 n0 c0 hn hbig _).mono ?_
  rintro e w1 ⟨rfl, rfl⟩
  go_wp2_with fail
  refine (drawParseInt_any a0 n0 c0 _ HK.out).mono ?_
  rintro e w1 ⟨s, rfl, hs, hb1⟩
  have H1 := Lib.hid hb1
  clear hb1
  rcases parse_or s (by omega) w1 with ⟨x, hx, hxs, hcall⟩ | hcall
  · have hsx : (itoa x == s.toList) = true := by rw [hxs, ByteArray.toList_eq]; simp
    clear hxs
    have HC := Lib.hid hcall
    clear hcall
    go_wp2_with fail
    refine HC.out.mono ?_
    rintro e w2 ⟨rfl, rfl⟩
    go_wp2_with fail
    refine (drawFormatInt_any a0 n0 c0 _ (HK.out.same H1.out)).mono ?_
    rintro e w2 ⟨m, rfl, hm, hb2⟩
    have H2 := Lib.hid (H1.out.trans (hb2.mono H1.out.size))
    have HM := Lib.hid hm
    clear hb2 hm
    go_wp2_with fail
    refine (fmt_any m HM.out.1 HM.out.2 _ (pow_stays HT.out H2.out (Nat.le_refl _))).mono ?_
    rintro e w3 ⟨rfl, hb3⟩
    have H3 := Lib.hid (H2.out.trans (hb3.mono H2.out.size))
    clear hb3
    go_wp2_with fail
    by_cases hin : 0 ≤ m ∧ m ≤ 1000000000000
    · obtain ⟨hin0, hin1⟩ := hin
      refine (parse_itoa_yes m HM.out hin0 hin1 _).mono ?_
      rintro e w4 ⟨rfl, rfl⟩
      go_wp2_with fail
      refine (drawCeilDiv_any a0 n0 c0 _ (HK.out.same H3.out)).mono ?_
      rintro e w5 ⟨a, b, rfl, ha, hb, hb5⟩
      have H5 := Lib.hid (H3.out.trans (hb5.mono H3.out.size))
      have HA := Lib.hid ha
      have HB := Lib.hid hb
      clear hb5 ha hb
      rcases pairs a b with ⟨hb', hq, hr⟩ | ⟨hb1, hb2, ha', hq, hr⟩ | ⟨hb1, hb2, ha1, ha2, hq, hr⟩
      · have HQ := Lib.hid hq
        have HR := Lib.hid hr
        clear hq hr
        go_wp2_with fail
        refine (ceil_val a b 0 HQ.out _).mono ?_
        rintro e w6 ⟨rfl, rfl⟩
        go_wp2_with fail
        refine (mod_val a b 0 HA.out HB.out HR.out _).mono ?_
        rintro e w7 ⟨rfl, rfl⟩
        rcases hb' with hb' | hb'
        all_goals
          go_wp2_with (go_at_call 9; refine (fmt_any x hx.1 hx.2 _ (pow_stays HT.out H5.out (Nat.le_refl _))).mono ?_; rintro e w8 ⟨rfl, hb8⟩)
          go_ret
          exact ⟨rfl, H5.out.trans (hb8.mono H5.out.size)⟩
      · have HQ := Lib.hid hq
        have HR := Lib.hid hr
        clear hq hr
        have hr0 := Int.emod_nonneg a (show b ≠ 0 by omega)
        have hr1 := Int.emod_lt_of_pos a (show 0 < b by omega)
        have hmf := mod_facts a b hb1
        obtain ⟨ht0, ht1⟩ := tmod_bounds a b hb1
        go_wp2_with fail
        refine (ceil_val a b 0 HQ.out _).mono ?_
        rintro e w6 ⟨rfl, rfl⟩
        go_wp2_with fail
        refine (mod_val a b (a % b) HA.out HB.out HR.out _).mono ?_
        rintro e w7 ⟨rfl, rfl⟩
        rcases ha' with ha' | ha'
        all_goals
          go_wp2_with (go_at_call 9; refine (fmt_any x hx.1 hx.2 _ (pow_stays HT.out H5.out (Nat.le_refl _))).mono ?_; rintro e w8 ⟨rfl, hb8⟩)
          go_ret
          exact ⟨rfl, H5.out.trans (hb8.mono H5.out.size)⟩
      · have HQ := Lib.hid hq
        have HR := Lib.hid hr
        clear hq hr
        have hr0 := Int.emod_nonneg a (show b ≠ 0 by omega)
        have hr1 := Int.emod_lt_of_pos a (show 0 < b by omega)
        obtain ⟨hq1, hq2, hq3⟩ := ceil_facts a b ha1 hb1
        obtain ⟨q, hq⟩ : ∃ q, (a + b - 1) / b = q := ⟨_, rfl⟩
        rw [hq] at hq1 hq2 hq3
        have HQ2 : Hid (ceilOf a b = q) := by rw [HQ.out]; exact hq
        clear hq HQ
        go_wp2_with fail
        refine (ceil_val a b q HQ2.out _).mono ?_
        rintro e w6 ⟨rfl, rfl⟩
        go_wp2_with fail
        refine (mod_val a b (a % b) HA.out HB.out HR.out _).mono ?_
        rintro e w7 ⟨rfl, rfl⟩
        go_wp2_with (go_at_call 9; refine (fmt_any x hx.1 hx.2 _ (pow_stays HT.out H5.out (Nat.le_refl _))).mono ?_; rintro e w8 ⟨rfl, hb8⟩)
        go_ret
        exact ⟨rfl, H5.out.trans (hb8.mono H5.out.size)⟩
    · have HI := Lib.hid hin
      refine (parse_itoa_no m HM.out HI.out _).mono ?_
      rintro e w4 ⟨rfl, rfl⟩
      rcases (show m < 0 ∨ 1000000000000 < m by omega) with hin' | hin'
      all_goals
        clear hin
        go_wp2_with fail
        refine (drawCeilDiv_any a0 n0 c0 _ (HK.out.same H3.out)).mono ?_
        rintro e w5 ⟨a, b, rfl, ha, hb, hb5⟩
        have H5 := Lib.hid (H3.out.trans (hb5.mono H3.out.size))
        have HA := Lib.hid ha
        have HB := Lib.hid hb
        clear hb5 ha hb
        rcases pairs a b with ⟨hb', hq, hr⟩ | ⟨hb1, hb2, ha', hq, hr⟩ | ⟨hb1, hb2, ha1, ha2, hq, hr⟩
        · have HQ := Lib.hid hq
          have HR := Lib.hid hr
          clear hq hr
          go_wp2_with fail
          refine (ceil_val a b 0 HQ.out _).mono ?_
          rintro e w6 ⟨rfl, rfl⟩
          go_wp2_with fail
          refine (mod_val a b 0 HA.out HB.out HR.out _).mono ?_
          rintro e w7 ⟨rfl, rfl⟩
          rcases hb' with hb' | hb'
          all_goals
            go_wp2_with (go_at_call 9; refine (fmt_any x hx.1 hx.2 _ (pow_stays HT.out H5.out (Nat.le_refl _))).mono ?_; rintro e w8 ⟨rfl, hb8⟩)
            go_ret
            exact ⟨rfl, H5.out.trans (hb8.mono H5.out.size)⟩
        · have HQ := Lib.hid hq
          have HR := Lib.hid hr
          clear hq hr
          have hr0 := Int.emod_nonneg a (show b ≠ 0 by omega)
          have hr1 := Int.emod_lt_of_pos a (show 0 < b by omega)
          have hmf := mod_facts a b hb1
          obtain ⟨ht0, ht1⟩ := tmod_bounds a b hb1
          go_wp2_with fail
          refine (ceil_val a b 0 HQ.out _).mono ?_
          rintro e w6 ⟨rfl, rfl⟩
          go_wp2_with fail
          refine (mod_val a b (a % b) HA.out HB.out HR.out _).mono ?_
          rintro e w7 ⟨rfl, rfl⟩
          rcases ha' with ha' | ha'
          all_goals
            go_wp2_with (go_at_call 9; refine (fmt_any x hx.1 hx.2 _ (pow_stays HT.out H5.out (Nat.le_refl _))).mono ?_; rintro e w8 ⟨rfl, hb8⟩)
            go_ret
            exact ⟨rfl, H5.out.trans (hb8.mono H5.out.size)⟩
        · have HQ := Lib.hid hq
          have HR := Lib.hid hr
          clear hq hr
          have hr0 := Int.emod_nonneg a (show b ≠ 0 by omega)
          have hr1 := Int.emod_lt_of_pos a (show 0 < b by omega)
          obtain ⟨hq1, hq2, hq3⟩ := ceil_facts a b ha1 hb1
          obtain ⟨q, hq⟩ : ∃ q, (a + b - 1) / b = q := ⟨_, rfl⟩
          rw [hq] at hq1 hq2 hq3
          have HQ2 : Hid (ceilOf a b = q) := by rw [HQ.out]; exact hq
          clear hq HQ
          go_wp2_with fail
          refine (ceil_val a b q HQ2.out _).mono ?_
          rintro e w6 ⟨rfl, rfl⟩
          go_wp2_with fail
          refine (mod_val a b (a % b) HA.out HB.out HR.out _).mono ?_
          rintro e w7 ⟨rfl, rfl⟩
          go_wp2_with (go_at_call 9; refine (fmt_any x hx.1 hx.2 _ (pow_stays HT.out H5.out (Nat.le_refl _))).mono ?_; rintro e w8 ⟨rfl, hb8⟩)
          go_ret
          exact ⟨rfl, H5.out.trans (hb8.mono H5.out.size)⟩
  · have HC := Lib.hid hcall
    clear hcall
    go_wp2_with fail
    refine HC.out.mono ?_
    rintro e w2 ⟨rfl, rfl⟩
    go_wp2_with fail
    refine (drawFormatInt_any a0 n0 c0 _ (HK.out.same H1.out)).mono ?_
    rintro e w2 ⟨m, rfl, hm, hb2⟩
    have H2 := Lib.hid (H1.out.trans (hb2.mono H1.out.size))
    have HM := Lib.hid hm
    clear hb2 hm
    go_wp2_with fail
    refine (fmt_any m HM.out.1 HM.out.2 _ (pow_stays HT.out H2.out (Nat.le_refl _))).mono ?_
    rintro e w3 ⟨rfl, hb3⟩
    have H3 := Lib.hid (H2.out.trans (hb3.mono H2.out.size))
    clear hb3
    go_wp2_with fail
    by_cases hin : 0 ≤ m ∧ m ≤ 1000000000000
    · obtain ⟨hin0, hin1⟩ := hin
      refine (parse_itoa_yes m HM.out hin0 hin1 _).mono ?_
      rintro e w4 ⟨rfl, rfl⟩
      go_wp2_with fail
      refine (drawCeilDiv_any a0 n0 c0 _ (HK.out.same H3.out)).mono ?_
      rintro e w5 ⟨a, b, rfl, ha, hb, hb5⟩
      have H5 := Lib.hid (H3.out.trans (hb5.mono H3.out.size))
      have HA := Lib.hid ha
      have HB := Lib.hid hb
      clear hb5 ha hb
      rcases pairs a b with ⟨hb', hq, hr⟩ | ⟨hb1, hb2, ha', hq, hr⟩ | ⟨hb1, hb2, ha1, ha2, hq, hr⟩
      · have HQ := Lib.hid hq
        have HR := Lib.hid hr
        clear hq hr
        go_wp2_with fail
        refine (ceil_val a b 0 HQ.out _).mono ?_
        rintro e w6 ⟨rfl, rfl⟩
        go_wp2_with fail
        refine (mod_val a b 0 HA.out HB.out HR.out _).mono ?_
        rintro e w7 ⟨rfl, rfl⟩
        rcases hb' with hb' | hb'
        all_goals
          go_wp2
          go_ret
          exact ⟨rfl, H5.out⟩
      · have HQ := Lib.hid hq
        have HR := Lib.hid hr
        clear hq hr
        have hr0 := Int.emod_nonneg a (show b ≠ 0 by omega)
        have hr1 := Int.emod_lt_of_pos a (show 0 < b by omega)
        have hmf := mod_facts a b hb1
        obtain ⟨ht0, ht1⟩ := tmod_bounds a b hb1
        go_wp2_with fail
        refine (ceil_val a b 0 HQ.out _).mono ?_
        rintro e w6 ⟨rfl, rfl⟩
        go_wp2_with fail
        refine (mod_val a b (a % b) HA.out HB.out HR.out _).mono ?_
        rintro e w7 ⟨rfl, rfl⟩
        rcases ha' with ha' | ha'
        all_goals
          go_wp2
          go_ret
          exact ⟨rfl, H5.out⟩
      · have HQ := Lib.hid hq
        have HR := Lib.hid hr
        clear hq hr
        have hr0 := Int.emod_nonneg a (show b ≠ 0 by omega)
        have hr1 := Int.emod_lt_of_pos a (show 0 < b by omega)
        obtain ⟨hq1, hq2, hq3⟩ := ceil_facts a b ha1 hb1
        obtain ⟨q, hq⟩ : ∃ q, (a + b - 1) / b = q := ⟨_, rfl⟩
        rw [hq] at hq1 hq2 hq3
        have HQ2 : Hid (ceilOf a b = q) := by rw [HQ.out]; exact hq
        clear hq HQ
        go_wp2_with fail
        refine (ceil_val a b q HQ2.out _).mono ?_
        rintro e w6 ⟨rfl, rfl⟩
        go_wp2_with fail
        refine (mod_val a b (a % b) HA.out HB.out HR.out _).mono ?_
        rintro e w7 ⟨rfl, rfl⟩
        go_wp2
        go_ret
        exact ⟨rfl, H5.out⟩
    · have HI := Lib.hid hin
      refine (parse_itoa_no m HM.out HI.out _).mono ?_
      rintro e w4 ⟨rfl, rfl⟩
      rcases (show m < 0 ∨ 1000000000000 < m by omega) with hin' | hin'
      all_goals
        clear hin
        go_wp2_with fail
        refine (drawCeilDiv_any a0 n0 c0 _ (HK.out.same H3.out)).mono ?_
        rintro e w5 ⟨a, b, rfl, ha, hb, hb5⟩
        have H5 := Lib.hid (H3.out.trans (hb5.mono H3.out.size))
        have HA := Lib.hid ha
        have HB := Lib.hid hb
        clear hb5 ha hb
        rcases pairs a b with ⟨hb', hq, hr⟩ | ⟨hb1, hb2, ha', hq, hr⟩ | ⟨hb1, hb2, ha1, ha2, hq, hr⟩
        · have HQ := Lib.hid hq
          have HR := Lib.hid hr
          clear hq hr
          go_wp2_with fail
          refine (ceil_val a b 0 HQ.out _).mono ?_
          rintro e w6 ⟨rfl, rfl⟩
          go_wp2_with fail
          refine (mod_val a b 0 HA.out HB.out HR.out _).mono ?_
          rintro e w7 ⟨rfl, rfl⟩
          rcases hb' with hb' | hb'
          all_goals
            go_wp2
            go_ret
            exact ⟨rfl, H5.out⟩
        · have HQ := Lib.hid hq
          have HR := Lib.hid hr
          clear hq hr
          have hr0 := Int.emod_nonneg a (show b ≠ 0 by omega)
          have hr1 := Int.emod_lt_of_pos a (show 0 < b by omega)
          have hmf := mod_facts a b hb1
          obtain ⟨ht0, ht1⟩ := tmod_bounds a b hb1
          go_wp2_with fail
          refine (ceil_val a b 0 HQ.out _).mono ?_
          rintro e w6 ⟨rfl, rfl⟩
          go_wp2_with fail
          refine (mod_val a b (a % b) HA.out HB.out HR.out _).mono ?_
          rintro e w7 ⟨rfl, rfl⟩
          rcases ha' with ha' | ha'
          all_goals
            go_wp2
            go_ret
            exact ⟨rfl, H5.out⟩
        · have HQ := Lib.hid hq
          have HR := Lib.hid hr
          clear hq hr
          have hr0 := Int.emod_nonneg a (show b ≠ 0 by omega)
          have hr1 := Int.emod_lt_of_pos a (show 0 < b by omega)
          obtain ⟨hq1, hq2, hq3⟩ := ceil_facts a b ha1 hb1
          obtain ⟨q, hq⟩ : ∃ q, (a + b - 1) / b = q := ⟨_, rfl⟩
          rw [hq] at hq1 hq2 hq3
          have HQ2 : Hid (ceilOf a b = q) := by rw [HQ.out]; exact hq
          clear hq HQ
          go_wp2_with fail
          refine (ceil_val a b q HQ2.out _).mono ?_
          rintro e w6 ⟨rfl, rfl⟩
          go_wp2_with fail
          refine (mod_val a b (a % b) HA.out HB.out HR.out _).mono ?_
          rintro e w7 ⟨rfl, rfl⟩
          go_wp2
          go_ret
          exact ⟨rfl, H5.out⟩

set_option maxRecDepth 100000 in
theorem lifted (os : Os) (started : os.Started) (H : Type) (enc : TypeId × Value → H) :
    ReturnsInHanded {} Tryd.checked os 3 .any (fun w args => (Rows.fnIntegersSpec.pre enc Tryd.prog Tryd.f3 [] false w args ∧ laidMetH Tryd.prog laid3 w) ∧ sizedMet enc Tryd.prog Tryd.f3 (OpenSpec.ofChange Rows.fnIntegersSpec) false w args)
      (Rows.fnIntegersSpec.post enc Tryd.prog Tryd.f3 false true false false) := by
  refine returnsInHanded_of_change_and (C := Tryd.checked) (X := fun w _ => laidMetH Tryd.prog laid3 w) (fun _ _ _ hh h => h.of_heap hh) own started (by kernel_rfl) Tryd.func3
    (ChangeSpec.witness_shaped (enc := enc) (C := Tryd.checked) (os := os) (X := fun w _ => laidMetH Tryd.prog laid3 w) false (World.doorLaid Tryd.prog 400 os) #[.slice none 0 0] 8 rfl (World.shaped_of_RefB (by kernel_rfl) (by kernel_rfl)) (by kernel_rfl) (by kernel_rfl) (by kernel_rfl) (door_met os _)) ?_
  intro W base args ds gs before hval0 hW _ _ hL _
  have hval : ∀ (j : Nat) t v, Tryd.f3.params[j]? = some t → args[j]? = some v → Value.okWide Tryd.prog W .any base t v := hval0
  have hW' := hW
  obtain ⟨p, q, hA0, hV, rfl, hfz, hnd⟩ := hW
  have hA : DataW.TrodAll enc Tryd.prog W 0 (fun _ => true) true Tryd.f3.params.toList args.toList ds p := hA0
  rw [Tryd.params3] at hA hval
  obtain ⟨v0, vs0, d0, ds0, p0, q0, hargs, rfl, rfl, h0, r0⟩ := trodAll_cons hA
  obtain ⟨rfl, rfl, rfl⟩ := trodAll_nil r0
  obtain rfl : args = #[v0] := by cases args; simp_all
  obtain ⟨rfl, rfl⟩ := trodVars_none hV
  have h0k := h0
  have hlt0 : ∀ x ∈ p0, x.block < W.heap.size := fun x hx => by simpa using hW'.lt x (by simp [hx])
  obtain ⟨a0, n0, c0, rfl, k0⟩ := open_code (hval 0 22 v0 rfl rfl) h0
  clear hA0 hval0
  simp only [List.append_nil] at hW'
  refine (walk a0 n0 c0 W (pow_laid hL) k0).mono fun e W' ⟨he, hb⟩ => ?_
  subst he
  exact ⟨_, rfl, ⟨_, _, _, [], _, [], hW', (trodAll_cons_mk (shut_bool Tryd.underlying4 _) trodAll_mk0), (trodAll_cons_mk (Below.trod laidOut (by kernel_rfl) (of_decide_eq_true (by kernel_rfl)) h0k hb hlt0) trodAll_mk0), rfl, hb.frame _, fun h => by cases h⟩⟩

theorem over : Rows.fnIntegersRow.holds Tryd.pinned (OpenSpec.ofChange Rows.fnIntegersSpec) :=
  OpenClaim.holds_of_wide 3 Tryd.f3 rfl rfl rfl rfl rfl rfl rfl ⟨rfl, rfl, rfl, rfl, rfl⟩ rfl rfl rfl rfl rfl (by kernel_rfl) Tryd.func3 (by kernel_rfl)
    (of_decide_eq_true (by kernel_rfl)) (by unfold Func.isWrapper; first | (rw [if_pos (by decide +kernel)]; kernel_rfl) | (rw [if_neg (by decide +kernel)]; exact ⟨rfl, rfl⟩))
    (fun os started H enc _ => lifted os started H enc)

theorem proved : Rows.FnIntegersCardSaid :=
  Claim7.holds_tied_plain_at .later [] [.data, .data, .data] true Rows.fnIntegersCard.stood.harness false
    over (fun _ h => by cases h) (by kernel_rfl) (fun _ h => by cases h) fnIntegers_row_tie rfl ⟨rfl, rfl⟩ (by kernel_rfl) rfl
    (fun f fn hf hfn => by
      obtain rfl : f = 3 := Option.some.inj ((show Tryd.prog.funcNamed "loop.example/g03000/laws.FnIntegers" = some 3 by kernel_rfl).symm.trans hf) |>.symm
      obtain rfl : fn = Tryd.f3 := (Option.some.inj (Tryd.func3.symm.trans hfn)).symm
      exact ⟨by kernel_rfl, fun j t ht => by
        rw [Tryd.params3] at ht
        have hm : t ∈ [22] := by simpa using Array.mem_of_getElem? ht
        have hall : ([22].all fun u => !Tryd.prog.wantsStandIn u) = true := by kernel_rfl
        exact (show Tryd.prog.wantsStandIn t = false by simpa using List.all_eq_true.1 hall t hm)⟩)
    (by kernel_rfl)
end Go.Proofs.YteicmmfgliokdaaDoor.fnIntegers
