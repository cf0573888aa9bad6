/- For every input of bytes: of the lists of fields that are drawn exactly the formats have a text, a format's conditions look back at numbers that are there always, and comparing does not depend on the order. -/
import Derived.Test.YtdeecjbebkideaaDoorDr
import Derived.Test.YtdeecjbebkideaaDoorDrBig
import Derived.Test.YtdeecjbebkideaaDoorDrF3
import Derived.Test.YtdeecjbebkideaaDoorFm0
import Derived.Test.YtdeecjbebkideaaDoorTxt2
import Derived.Test.YtdeecjbebkideaaDoorEqFi
import Derived.Test.YtdeecjbebkideaaDoorGu2i
import Derived.Test.YtdeecjbebkideaaDoorOpenF
import Derived.WalkKit
import Derived.Deep.RegionHeld3
import Derived.ProofKit
import Derived.OpenShut
import Derived.Test.YtdeecjbebkideaaDoorLaid
import Derived.Test.YtdeecjbebkideaaDoorTie
import Derived.Test.YtdeecjbebkideaaDoorCards
import Derived.SevenTiedAt
namespace Go.Proofs.YtdeecjbebkideaaDoor.fnFormats
open Go.ChangeShapes Go.WideShapes Go.ChangeAt Go.RowKit Go.Lib
open Go.ChangeMaps (open_string shut_string)
set_option linter.unusedVariables false

theorem own : ownKnob Tryd.prog.godebug = none := by kernel_rfl

set_option maxHeartbeats 8000000 in
set_option maxRecDepth 100000 in
theorem walk (a0 : Option Addr) (n0 c0 : Nat) (l0 : List Int) (w : World) (ht : Pow10 w) (K0 : Nums .u8 w a0 n0 l0) (F0 : ∀ x ∈ l0, (Lit.int .u8 x).wf = true) (R0 : n0 ≤ c0 ∧ (c0 : Int) ≤ 9223372036854775807) :
    Calls Tryd.prog 3 #[.slice a0 n0 c0] w fun e w' => e = .returned (.bool true) ∧ Below w.heap.size w w' := by
  have HK := Lib.hid K0
  have HF := Lib.hid (bs_of_wf F0)
  have HT := Lib.hid ht
  have hfit := K0.fits
  clear K0 F0 R0 ht
  by_cases hbig : 1048576 < n0
  · go_enter Tryd.func3, Tryd.ntmps3
    go_wp2_with fail
    refine (big_yes a0 n0 c0 hfit hbig _).mono ?_
    rintro e w1 ⟨rfl, rfl⟩
    go_wp2_with fail
    go_ret
    exact ⟨rfl, Below.refl _ _⟩
  · have HC := Lib.hid (code_of HK.out HF.out)
    go_enter Tryd.func3, Tryd.ntmps3
    go_wp2_with fail
    refine (big_no a0 n0 c0 hfit hbig _).mono ?_
    rintro e w1 ⟨rfl, rfl⟩
    go_wp2_with fail
    refine (drawIsFormat_any a0 n0 c0 _ HC.out).mono ?_
    rintro e w1 ⟨a1, m1, c1, l1, rfl, ho, hm, hb1⟩
    have HR := Lib.hid ho.room
    have HI1 := Lib.hid (ho.items Fd.enc_len)
    have HB1 := Lib.hid hb1
    clear ho hb1
    have hm7 : m1 ≤ 1000000000 := by omega
    cases hf : isFmt l1 with
    | true =>
      have hisf := isFormat_any a1 m1 c1 l1 w1 HI1.out HR.out
      rw [hf] at hisf
      have HIF := Lib.hid hf
      have HIS := Lib.hid hisf
      clear hisf hf
      go_wp2_with fail
      refine HIS.out.mono ?_
      rintro e w2 ⟨rfl, hb2⟩
      have HI2 := Lib.hid (HI1.out.same hb2)
      have HB2 := Lib.hid (HB1.out.trans (hb2.mono HB1.out.size))
      clear hb2
      go_wp2_with fail
      refine (guardsOf_any a1 m1 c1 l1 w2 HI2.out hm7).mono ?_
      rintro e w3 ⟨a2, m2, c2, rfl, ho3, hb3⟩
      have hm2 : m2 ≤ 1000000000 := by have := ho3.len; have := guardsOf_len l1; have := HI2.out.len; omega
      have HO3 := Lib.hid ho3
      have HI3 := Lib.hid (HI2.out.same hb3)
      have HB3 := Lib.hid (HB2.out.trans (hb3.mono HB2.out.size))
      clear ho3 hb3
      go_wp2_with fail
      go_loop [6] (fun i => ∃ j : Nat, j ≤ m2 ∧ i = .int .i64 j) (fun i => m2 - (intOf i).toNat)
      case atStart => exact ⟨0, Nat.zero_le _, rfl⟩
      case round =>
        obtain ⟨j, hj, rfl⟩ := hrel
        by_cases hlt : j < m2
        · obtain ⟨g, rfl, _, _⟩ := HO3.out.head (by omega)
          obtain ⟨ad, y, had, hy, hcell⟩ := HO3.out.nums.at_ hlt
          cases had
          rw [addr_zero] at hcell
          obtain ⟨k, f, rfl, hk, hf, hq1, hq2⟩ := fmt_guard (isFmt_iff.1 HIF.out) (List.mem_of_getElem? hy)
          have hkm : k < m1 := by have := HI3.out.len; omega
          obtain ⟨bb, oo, f', rfl, hf', h0, h1, h2, h3⟩ := fds_at HI3.out hkm
          rw [hf] at hf'
          cases hf'
          rw [hq1] at h0
          rw [hq2] at h2
          clear hy hf hq1 hq2 h1 h3
          have e1 : decide ((k : Int) < 0) = false := decide_eq_false (by omega)
          have e2 : decide ((m1 : Int) ≤ (k : Int)) = false := decide_eq_false (by omega)
          have e3 : decide ((k : Int) ≥ (m1 : Int)) = false := decide_eq_false (by omega)
          go_wp2_with fail
          go_round
          case rel => exact ⟨j + 1, by omega, by go_num⟩
          case measure => simp [intOf]; omega
        · have hjm : ¬ j < m2 := hlt
          go_wp2_with fail
          refine (drawEqualFormats_any a0 n0 c0 _ (HC.out.same HB3.out)).mono ?_
          rintro e w4 ⟨a4, a5, m4, c4, m5, c5, l4, l5, rfl, hf4, hf5, hb4⟩
          have HF4 := Lib.hid hf4
          have HF5 := Lib.hid hf5
          have HB4 := Lib.hid (HB3.out.trans (hb4.mono HB3.out.size))
          have HI4 := Lib.hid (HI3.out.same hb4)
          clear hf4 hf5 hb4
          go_wp2_with fail
          refine (formatText_any a1 m1 c1 l1 _ HI4.out HR.out (pow_stays HT.out HB4.out (Nat.le_refl _))).mono ?_
          rintro e w5 ⟨rfl, hb5⟩
          have HB5 := Lib.hid (HB4.out.trans (hb5.mono HB4.out.size))
          obtain ⟨x6, t6, hx6⟩ := fmt_text HIF.out
          rw [hx6]
          have HG4 := Lib.hid (HF4.out.same hb5)
          have HG5 := Lib.hid (HF5.out.same hb5)
          clear hb5
          go_wp2_with fail
          by_cases hee : l4 = l5
          · have HE := Lib.hid hee
            refine (equalFormats_yes HG4.out (HE.out.symm ▸ HG5.out)).mono ?_
            rintro e w6 ⟨rfl, hb6⟩
            have HH4 := Lib.hid (HG4.out.same hb6)
            have HH5 := Lib.hid (HG5.out.same hb6)
            have HB6 := Lib.hid (HB5.out.trans (hb6.mono HB5.out.size))
            clear hb6 hee
            go_wp2_with fail
            refine (equalFormats_yes HH5.out (HE.out ▸ HH4.out)).mono ?_
            rintro e w7 ⟨rfl, hb7⟩
            have HJ4 := Lib.hid (HH4.out.same hb7)
            have HB7 := Lib.hid (HB6.out.trans (hb7.mono HB6.out.size))
            clear hb7
            go_wp2_with fail
            refine (equalFormats_yes HJ4.out HJ4.out).mono ?_
            rintro e w8 ⟨rfl, hb8⟩
            have HB8 := Lib.hid (HB7.out.trans (hb8.mono HB7.out.size))
            clear hb8
            go_wp2
            go_ret
            exact ⟨rfl, HB8.out⟩
          · have HE := Lib.hid hee
            refine (equalFormats_no HG4.out HG5.out HE.out).mono ?_
            rintro e w6 ⟨rfl, hb6⟩
            have HH4 := Lib.hid (HG4.out.same hb6)
            have HH5 := Lib.hid (HG5.out.same hb6)
            have HB6 := Lib.hid (HB5.out.trans (hb6.mono HB5.out.size))
            clear hb6 hee
            go_wp2_with fail
            refine (equalFormats_no HH5.out HH4.out (fun e => HE.out e.symm)).mono ?_
            rintro e w7 ⟨rfl, hb7⟩
            have HJ4 := Lib.hid (HH4.out.same hb7)
            have HB7 := Lib.hid (HB6.out.trans (hb7.mono HB6.out.size))
            clear hb7
            go_wp2_with fail
            refine (equalFormats_yes HJ4.out HJ4.out).mono ?_
            rintro e w8 ⟨rfl, hb8⟩
            have HB8 := Lib.hid (HB7.out.trans (hb8.mono HB7.out.size))
            clear hb8
            go_wp2
            go_ret
            exact ⟨rfl, HB8.out⟩
    | false =>
      have hisf := isFormat_any a1 m1 c1 l1 w1 HI1.out HR.out
      rw [hf] at hisf
      have HIF := Lib.hid hf
      have HIS := Lib.hid hisf
      clear hisf hf
      go_wp2_with fail
      refine HIS.out.mono ?_
      rintro e w2 ⟨rfl, hb2⟩
      have HI2 := Lib.hid (HI1.out.same hb2)
      have HB2 := Lib.hid (HB1.out.trans (hb2.mono HB1.out.size))
      clear hb2
      go_wp2_with fail
      refine (guardsOf_any a1 m1 c1 l1 w2 HI2.out hm7).mono ?_
      rintro e w3 ⟨a2, m2, c2, rfl, ho3, hb3⟩
      have HI3 := Lib.hid (HI2.out.same hb3)
      have HB3 := Lib.hid (HB2.out.trans (hb3.mono HB2.out.size))
      clear ho3 hb3
      go_wp2_with fail
      go_loop [6] (fun i => i = .int .i64 0) (fun _ => 0)
      case atStart => rfl
      case round =>
        subst hrel
        by_cases hlt : 0 < m2
        · have e1 : decide ((0 : Int) < (m2 : Int)) = true := decide_eq_true (by omega)
          go_wp2_with fail
          refine (drawEqualFormats_any a0 n0 c0 _ (HC.out.same HB3.out)).mono ?_
          rintro e w4 ⟨a4, a5, m4, c4, m5, c5, l4, l5, rfl, hf4, hf5, hb4⟩
          have HF4 := Lib.hid hf4
          have HF5 := Lib.hid hf5
          have HB4 := Lib.hid (HB3.out.trans (hb4.mono HB3.out.size))
          have HI4 := Lib.hid (HI3.out.same hb4)
          clear hf4 hf5 hb4
          go_wp2_with fail
          refine (formatText_any a1 m1 c1 l1 _ HI4.out HR.out (pow_stays HT.out HB4.out (Nat.le_refl _))).mono ?_
          rintro e w5 ⟨rfl, hb5⟩
          have HB5 := Lib.hid (HB4.out.trans (hb5.mono HB4.out.size))
          rw [fmt_notext HIF.out]
          have HG4 := Lib.hid (HF4.out.same hb5)
          have HG5 := Lib.hid (HF5.out.same hb5)
          clear hb5
          go_wp2_with fail
          by_cases hee : l4 = l5
          · have HE := Lib.hid hee
            refine (equalFormats_yes HG4.out (HE.out.symm ▸ HG5.out)).mono ?_
            rintro e w6 ⟨rfl, hb6⟩
            have HH4 := Lib.hid (HG4.out.same hb6)
            have HH5 := Lib.hid (HG5.out.same hb6)
            have HB6 := Lib.hid (HB5.out.trans (hb6.mono HB5.out.size))
            clear hb6 hee
            go_wp2_with fail
            refine (equalFormats_yes HH5.out (HE.out ▸ HH4.out)).mono ?_
            rintro e w7 ⟨rfl, hb7⟩
            have HJ4 := Lib.hid (HH4.out.same hb7)
            have HB7 := Lib.hid (HB6.out.trans (hb7.mono HB6.out.size))
            clear hb7
            go_wp2_with fail
            refine (equalFormats_yes HJ4.out HJ4.out).mono ?_
            rintro e w8 ⟨rfl, hb8⟩
            have HB8 := Lib.hid (HB7.out.trans (hb8.mono HB7.out.size))
            clear hb8
            go_wp2
            go_ret
            exact ⟨rfl, HB8.out⟩
          · have HE := Lib.hid hee
            refine (equalFormats_no HG4.out HG5.out HE.out).mono ?_
            rintro e w6 ⟨rfl, hb6⟩
            have HH4 := Lib.hid (HG4.out.same hb6)
            have HH5 := Lib.hid (HG5.out.same hb6)
            have HB6 := Lib.hid (HB5.out.trans (hb6.mono HB5.out.size))
            clear hb6 hee
            go_wp2_with fail
            refine (equalFormats_no HH5.out HH4.out (fun e => HE.out e.symm)).mono ?_
            rintro e w7 ⟨rfl, hb7⟩
            have HJ4 := Lib.hid (HH4.out.same hb7)
            have HB7 := Lib.hid (HB6.out.trans (hb7.mono HB6.out.size))
            clear hb7
            go_wp2_with fail
            refine (equalFormats_yes HJ4.out HJ4.out).mono ?_
            rintro e w8 ⟨rfl, hb8⟩
            have HB8 := Lib.hid (HB7.out.trans (hb8.mono HB7.out.size))
            clear hb8
            go_wp2
            go_ret
            exact ⟨rfl, HB8.out⟩
        · have e1 : decide ((0 : Int) < (m2 : Int)) = false := decide_eq_false (by omega)
          go_wp2_with fail
          refine (drawEqualFormats_any a0 n0 c0 _ (HC.out.same HB3.out)).mono ?_
          rintro e w4 ⟨a4, a5, m4, c4, m5, c5, l4, l5, rfl, hf4, hf5, hb4⟩
          have HF4 := Lib.hid hf4
          have HF5 := Lib.hid hf5
          have HB4 := Lib.hid (HB3.out.trans (hb4.mono HB3.out.size))
          have HI4 := Lib.hid (HI3.out.same hb4)
          clear hf4 hf5 hb4
          go_wp2_with fail
          refine (formatText_any a1 m1 c1 l1 _ HI4.out HR.out (pow_stays HT.out HB4.out (Nat.le_refl _))).mono ?_
          rintro e w5 ⟨rfl, hb5⟩
          have HB5 := Lib.hid (HB4.out.trans (hb5.mono HB4.out.size))
          rw [fmt_notext HIF.out]
          have HG4 := Lib.hid (HF4.out.same hb5)
          have HG5 := Lib.hid (HF5.out.same hb5)
          clear hb5
          go_wp2_with fail
          by_cases hee : l4 = l5
          · have HE := Lib.hid hee
            refine (equalFormats_yes HG4.out (HE.out.symm ▸ HG5.out)).mono ?_
            rintro e w6 ⟨rfl, hb6⟩
            have HH4 := Lib.hid (HG4.out.same hb6)
            have HH5 := Lib.hid (HG5.out.same hb6)
            have HB6 := Lib.hid (HB5.out.trans (hb6.mono HB5.out.size))
            clear hb6 hee
            go_wp2_with fail
            refine (equalFormats_yes HH5.out (HE.out ▸ HH4.out)).mono ?_
            rintro e w7 ⟨rfl, hb7⟩
            have HJ4 := Lib.hid (HH4.out.same hb7)
            have HB7 := Lib.hid (HB6.out.trans (hb7.mono HB6.out.size))
            clear hb7
            go_wp2_with fail
            refine (equalFormats_yes HJ4.out HJ4.out).mono ?_
            rintro e w8 ⟨rfl, hb8⟩
            have HB8 := Lib.hid (HB7.out.trans (hb8.mono HB7.out.size))
            clear hb8
            go_wp2
            go_ret
            exact ⟨rfl, HB8.out⟩
          · have HE := Lib.hid hee
            refine (equalFormats_no HG4.out HG5.out HE.out).mono ?_
            rintro e w6 ⟨rfl, hb6⟩
            have HH4 := Lib.hid (HG4.out.same hb6)
            have HH5 := Lib.hid (HG5.out.same hb6)
            have HB6 := Lib.hid (HB5.out.trans (hb6.mono HB5.out.size))
            clear hb6 hee
            go_wp2_with fail
            refine (equalFormats_no HH5.out HH4.out (fun e => HE.out e.symm)).mono ?_
            rintro e w7 ⟨rfl, hb7⟩
            have HJ4 := Lib.hid (HH4.out.same hb7)
            have HB7 := Lib.hid (HB6.out.trans (hb7.mono HB6.out.size))
            clear hb7
            go_wp2_with fail
            refine (equalFormats_yes HJ4.out HJ4.out).mono ?_
            rintro e w8 ⟨rfl, hb8⟩
            have HB8 := Lib.hid (HB7.out.trans (hb8.mono HB7.out.size))
            clear hb8
            go_wp2
            go_ret
            exact ⟨rfl, HB8.out⟩

set_option maxRecDepth 100000 in
theorem lifted (os : Os) (started : os.Started) (H : Type) (enc : TypeId × Value → H) :
    ReturnsInHanded {} Tryd.checked os 3 .any (fun w args => (Rows.fnFormatsSpec.pre enc Tryd.prog Tryd.f3 [] false w args ∧ laidMetH Tryd.prog laid3 w) ∧ sizedMet enc Tryd.prog Tryd.f3 (OpenSpec.ofChange Rows.fnFormatsSpec) false w args)
      (Rows.fnFormatsSpec.post enc Tryd.prog Tryd.f3 false true false false) := by
  refine returnsInHanded_of_change_and (C := Tryd.checked) (X := fun w _ => laidMetH Tryd.prog laid3 w) (fun _ _ _ hh h => h.of_heap hh) own started (by kernel_rfl) Tryd.func3
    (ChangeSpec.witness_shaped (enc := enc) (C := Tryd.checked) (os := os) (X := fun w _ => laidMetH Tryd.prog laid3 w) false (World.doorLaid Tryd.prog 400 os) #[.slice none 0 0] 8 rfl (World.shaped_of_RefB (by kernel_rfl) (by kernel_rfl)) (by kernel_rfl) (by kernel_rfl) (by kernel_rfl) (door_met os _)) ?_
  intro W base args ds gs before hval0 hW _ _ hL _
  have hval : ∀ (j : Nat) t v, Tryd.f3.params[j]? = some t → args[j]? = some v → Value.okWide Tryd.prog W .any base t v := hval0
  have hW' := hW
  obtain ⟨p, q, hA0, hV, rfl, hfz, hnd⟩ := hW
  have hA : DataW.TrodAll enc Tryd.prog W 0 (fun _ => true) true Tryd.f3.params.toList args.toList ds p := hA0
  rw [Tryd.params3] at hA hval
  obtain ⟨v0, vs0, d0, ds0, p0, q0, hargs, rfl, rfl, h0, r0⟩ := trodAll_cons hA
  obtain ⟨rfl, rfl, rfl⟩ := trodAll_nil r0
  obtain rfl : args = #[v0] := by cases args; simp_all
  obtain ⟨rfl, rfl⟩ := trodVars_none hV
  have h0k := h0
  have hlt0 : ∀ x ∈ p0, x.block < W.heap.size := fun x hx => by simpa using hW'.lt x (by simp [hx])
  obtain ⟨a0, n0, c0, l0, rfl, K0, F0, R0⟩ := open_nums Tryd.underlying22 Tryd.underlying5 byte_cells (hval 0 22 v0 rfl rfl) h0
  clear hA0 hval0
  simp only [List.append_nil] at hW'
  refine (walk a0 n0 c0 l0 W (pow_laid hL) K0 F0 R0).mono fun e W' ⟨he, hb⟩ => ?_
  subst he
  exact ⟨_, rfl, ⟨_, _, _, [], _, [], hW', (trodAll_cons_mk (shut_bool Tryd.underlying4 _) trodAll_mk0), (trodAll_cons_mk (Below.trod laidOut (by kernel_rfl) (of_decide_eq_true (by kernel_rfl)) h0k hb hlt0) trodAll_mk0), rfl, hb.frame _, fun h => by cases h⟩⟩

theorem over : Rows.fnFormatsRow.holds Tryd.pinned (OpenSpec.ofChange Rows.fnFormatsSpec) :=
  OpenClaim.holds_of_wide 3 Tryd.f3 rfl rfl rfl rfl rfl rfl rfl ⟨rfl, rfl, rfl, rfl, rfl⟩ rfl rfl rfl rfl rfl (by kernel_rfl) Tryd.func3 (by kernel_rfl)
    (of_decide_eq_true (by kernel_rfl)) (by unfold Func.isWrapper; first | (rw [if_pos (by decide +kernel)]; kernel_rfl) | (rw [if_neg (by decide +kernel)]; exact ⟨rfl, rfl⟩))
    (fun os started H enc _ => lifted os started H enc)

theorem proved : Rows.FnFormatsCardSaid :=
  Claim7.holds_tied_plain_at .later [] [.data, .data, .data] true Rows.fnFormatsCard.stood.harness Rows.fnFormatsCard.stood.looks
    over (fun _ h => by cases h) (by kernel_rfl) (fun _ h => by cases h) fnFormats_row_tie rfl ⟨rfl, rfl⟩ (by kernel_rfl) rfl
    (fun f fn hf hfn => by
      obtain rfl : f = 3 := Option.some.inj ((show Tryd.prog.funcNamed "loop.example/g03000/laws.FnFormats" = some 3 by kernel_rfl).symm.trans hf) |>.symm
      obtain rfl : fn = Tryd.f3 := (Option.some.inj (Tryd.func3.symm.trans hfn)).symm
      exact ⟨by kernel_rfl, fun j t ht => by
        rw [Tryd.params3] at ht
        have hm : t ∈ [22] := by simpa using Array.mem_of_getElem? ht
        have hall : ([22].all fun u => !Tryd.prog.wantsStandIn u) = true := by kernel_rfl
        exact (show Tryd.prog.wantsStandIn t = false by simpa using List.all_eq_true.1 hall t hm)⟩)
    (by kernel_rfl)
end Go.Proofs.YtdeecjbebkideaaDoor.fnFormats
