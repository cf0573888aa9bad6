/- For every list of fields: its text, as in the model. -/
import Derived.Test.YtdeecjbebkideaaDoorFieldT
import Derived.Test.YtdeecjbebkideaaDoorTxt2
import Derived.Test.YtdeecjbebkideaaDoorTxt3
import Derived.Test.YtdeecjbebkideaaDoorOpenF
import Derived.WalkKit
import Derived.Deep.RegionHeld3
import Derived.ProofKit
import Derived.OpenShut
import Derived.Test.YtdeecjbebkideaaDoorLaid
import Derived.Test.YtdeecjbebkideaaDoorTie
import Derived.Test.YtdeecjbebkideaaDoorCards
import Derived.SevenTiedAt
namespace Go.Proofs.YtdeecjbebkideaaDoor.fnExactFormatText
open Go.ChangeShapes Go.WideShapes Go.ChangeAt Go.RowKit Go.Lib
open Go.ChangeMaps (open_string shut_string)
set_option linter.unusedVariables false

theorem own : ownKnob Tryd.prog.godebug = none := by kernel_rfl

set_option maxHeartbeats 4000000 in
set_option maxRecDepth 100000 in
theorem walk (a0 : Option Addr) (n0 c0 : Nat) (l0 : List Fd) (w : World) (ht : Pow10 w) (K0 : Fds w a0 n0 l0) (F0 : ∀ x ∈ l0, x.wf) (R0 : n0 ≤ c0 ∧ (c0 : Int) ≤ 9223372036854775807) :
    Calls Tryd.prog 5 #[.slice a0 n0 c0] w fun e w' => e = .returned (.bool true) ∧ Below w.heap.size w w' := by
  have hfit0 := K0.fits
  by_cases hbig0 : 1048576 < n0
  · go_enter Tryd.func5, Tryd.ntmps5
    go_wp2
    go_ret
    exact ⟨rfl, Below.refl _ _⟩
  have HK0 := Lib.hid K0
  have HR0 := Lib.hid R0
  have hn0 : n0 ≤ 1048576 := by omega
  have HF0 := Lib.hid F0
  have HB := Lib.hid (Below.refl w.heap.size w)
  clear K0 F0 R0
  have HT := Lib.hid ht
  clear ht
  go_enter Tryd.func5, Tryd.ntmps5
  go_wp2_with fail
  refine (szFieldS_any a0 n0 c0 (1048576) _ (by omega) (by omega)).mono ?_
  rintro e w' ⟨rfl, rfl⟩
  go_wp2_with fail
  refine (toFieldS_any a0 n0 c0 l0 _ (HK0.out.same HB.out) (by omega)).mono ?_
  rintro e w_1 ⟨b0, m0, d0, rfl, ho, hb⟩
  have hm0 : m0 ≤ 1000000000 := by have hl := ho.len; have := HK0.out.len;  omega
  have hs1 : w.heap.size ≤ w_1.heap.size := hb.size
  have HS0 := Lib.hid ho.span
  have HO0 := Lib.hid ho
  replace HB := Lib.hid (HB.out.trans (hb.mono HB.out.size))
  clear ho hb
  go_wp2_with fail
  refine (specFormatText_any b0 m0 d0 l0 _ (HO0.out.items Fd.enc_len) (by omega)).mono ?_
  rintro e w_2 ⟨rfl, hb⟩
  have hs2 : w_1.heap.size ≤ w_2.heap.size := hb.size
  replace HO0 := Lib.hid (HO0.out.same hb)
  replace HB := Lib.hid (HB.out.trans (hb.mono HB.out.size))
  clear hb
  go_wp2_with fail
  refine (toFieldS_any a0 n0 c0 l0 _ (HK0.out.same HB.out) (by omega)).mono ?_
  rintro e w_3 ⟨b1, m1, d1, rfl, ho, hb⟩
  have hm1 : m1 ≤ 1000000000 := by have hl := ho.len; have := HK0.out.len;  omega
  have hs3 : w_2.heap.size ≤ w_3.heap.size := hb.size
  have HS1 := Lib.hid ho.span
  have HO1 := Lib.hid ho
  replace HO0 := Lib.hid (HO0.out.same hb)
  replace HB := Lib.hid (HB.out.trans (hb.mono HB.out.size))
  clear ho hb
  go_wp2_with fail
  refine (formatText_any b1 m1 d1 l0 _ (HO1.out.items Fd.enc_len) HO1.out.room (pow_stays HT.out HB.out (Nat.le_refl _))).mono ?_
  rintro e w_4 ⟨rfl, hb⟩
  have hs4 : w_3.heap.size ≤ w_4.heap.size := hb.size
  replace HO0 := Lib.hid (HO0.out.same hb)
  replace HO1 := Lib.hid (HO1.out.same hb)
  replace HB := Lib.hid (HB.out.trans (hb.mono HB.out.size))
  clear hb
  go_wp2_with fail
  refine (toFieldS_any a0 n0 c0 l0 _ (HK0.out.same HB.out) (by omega)).mono ?_
  rintro e w_5 ⟨b2, m2, d2, rfl, ho, hb⟩
  have hm2 : m2 ≤ 1000000000 := by have hl := ho.len; have := HK0.out.len;  omega
  have hs5 : w_4.heap.size ≤ w_5.heap.size := hb.size
  have HS2 := Lib.hid ho.span
  have HO2 := Lib.hid ho
  replace HO0 := Lib.hid (HO0.out.same hb)
  replace HO1 := Lib.hid (HO1.out.same hb)
  replace HB := Lib.hid (HB.out.trans (hb.mono HB.out.size))
  clear ho hb
  go_wp2_with fail
  refine (eqFieldS_yes b1 b2 m1 m2 d1 d2 l0 _ (HO1.out.items Fd.enc_len) (HO2.out.items Fd.enc_len)).mono ?_
  rintro e w_6 ⟨rfl, hb⟩
  have hs6 : w_5.heap.size ≤ w_6.heap.size := hb.size
  replace HO0 := Lib.hid (HO0.out.same hb)
  replace HO1 := Lib.hid (HO1.out.same hb)
  replace HO2 := Lib.hid (HO2.out.same hb)
  replace HB := Lib.hid (HB.out.trans (hb.mono HB.out.size))
  clear hb
  go_wp2_with fail
  go_ret
  exact ⟨rfl, HB.out⟩

set_option maxRecDepth 100000 in
theorem lifted (os : Os) (started : os.Started) (H : Type) (enc : TypeId × Value → H) :
    ReturnsInHanded {} Tryd.checked os 5 .any (fun w args => (Rows.fnExactFormatTextSpec.pre enc Tryd.prog Tryd.f5 [] false w args ∧ laidMetH Tryd.prog laid3 w) ∧ sizedMet enc Tryd.prog Tryd.f5 (OpenSpec.ofChange Rows.fnExactFormatTextSpec) false w args)
      (Rows.fnExactFormatTextSpec.post enc Tryd.prog Tryd.f5 false true false false) := by
  refine returnsInHanded_of_change_and (C := Tryd.checked) (X := fun w _ => laidMetH Tryd.prog laid3 w) (fun _ _ _ hh h => h.of_heap hh) own started (by kernel_rfl) Tryd.func5
    (ChangeSpec.witness_shaped (enc := enc) (C := Tryd.checked) (os := os) (X := fun w _ => laidMetH Tryd.prog laid3 w) false (World.doorLaid Tryd.prog 400 os) #[.slice none 0 0] 8 rfl (World.shaped_of_RefB (by kernel_rfl) (by kernel_rfl)) (by kernel_rfl) (by kernel_rfl) (by kernel_rfl) (door_met os _)) ?_
  intro W base args ds gs before hval0 hW _ _ hL _
  have hval : ∀ (j : Nat) t v, Tryd.f5.params[j]? = some t → args[j]? = some v → Value.okWide Tryd.prog W .any base t v := hval0
  have hW' := hW
  obtain ⟨p, q, hA0, hV, rfl, hfz, hnd⟩ := hW
  have hA : DataW.TrodAll enc Tryd.prog W 0 (fun _ => true) true Tryd.f5.params.toList args.toList ds p := hA0
  rw [Tryd.params5] at hA hval
  obtain ⟨v0, vs0, d0, ds0, p0, q0, hargs, rfl, rfl, h0, r0⟩ := trodAll_cons hA
  obtain ⟨rfl, rfl, rfl⟩ := trodAll_nil r0
  obtain rfl : args = #[v0] := by cases args; simp_all
  obtain ⟨rfl, rfl⟩ := trodVars_none hV
  have h0k := h0
  have hlt0 : ∀ x ∈ p0, x.block < W.heap.size := fun x hx => by simpa using hW'.lt x (by simp [hx])
  obtain ⟨a0, n0, c0, l0, rfl, K0, F0, R0⟩ := open_fds Tryd.underlying48 Tryd.underlying83 (by kernel_rfl) (by kernel_rfl) Tryd.underlying3 Tryd.underlying3 Tryd.underlying3 Tryd.underlying3 (hval 0 48 v0 rfl rfl) h0
  clear hA0 hval0
  simp only [List.append_nil] at hW'
  refine (walk a0 n0 c0 l0 W (pow_laid hL) K0 F0 R0).mono fun e W' ⟨he, hb⟩ => ?_
  subst he
  exact ⟨_, rfl, ⟨_, _, _, [], _, [], hW', (trodAll_cons_mk (shut_bool Tryd.underlying4 _) trodAll_mk0), (trodAll_cons_mk (Below.trod laidOut (by kernel_rfl) (of_decide_eq_true (by kernel_rfl)) h0k hb hlt0) trodAll_mk0), rfl, hb.frame _, fun h => by cases h⟩⟩

theorem over : Rows.fnExactFormatTextRow.holds Tryd.pinned (OpenSpec.ofChange Rows.fnExactFormatTextSpec) :=
  OpenClaim.holds_of_wide 5 Tryd.f5 rfl rfl rfl rfl rfl rfl rfl ⟨rfl, rfl, rfl, rfl, rfl⟩ rfl rfl rfl rfl rfl (by kernel_rfl) Tryd.func5 (by kernel_rfl)
    (of_decide_eq_true (by kernel_rfl)) (by unfold Func.isWrapper; first | (rw [if_pos (by decide +kernel)]; kernel_rfl) | (rw [if_neg (by decide +kernel)]; exact ⟨rfl, rfl⟩))
    (fun os started H enc _ => lifted os started H enc)

theorem proved : Rows.FnExactFormatTextCardSaid :=
  Claim7.holds_tied_plain_at .later [] [.data, .data, .data] true Rows.fnExactFormatTextCard.stood.harness Rows.fnExactFormatTextCard.stood.looks
    over (fun _ h => by cases h) (by kernel_rfl) (fun _ h => by cases h) fnExactFormatText_row_tie rfl ⟨rfl, rfl⟩ (by kernel_rfl) rfl
    (fun f fn hf hfn => by
      obtain rfl : f = 5 := Option.some.inj ((show Tryd.prog.funcNamed "loop.example/g03000/laws.FnExactFormatText" = some 5 by kernel_rfl).symm.trans hf) |>.symm
      obtain rfl : fn = Tryd.f5 := (Option.some.inj (Tryd.func5.symm.trans hfn)).symm
      exact ⟨by kernel_rfl, fun j t ht => by
        rw [Tryd.params5] at ht
        have hm : t ∈ [48] := by simpa using Array.mem_of_getElem? ht
        have hall : ([48].all fun u => !Tryd.prog.wantsStandIn u) = true := by kernel_rfl
        exact (show Tryd.prog.wantsStandIn t = false by simpa using List.all_eq_true.1 hall t hm)⟩)
    (by kernel_rfl)
end Go.Proofs.YtdeecjbebkideaaDoor.fnExactFormatText
