/- TranscriptHash: the program answers as its model. -/
import Derived.Test.YtiaknjeeonlbcaaLlT
import Derived.Test.YtiaknjeeonlbcaaFin
import Derived.Test.YtiaknjeeonlbcaaThM
import Derived.WalkKit
import Derived.Deep.RegionHeld3
import Derived.ProofKit
import Derived.OpenShut
namespace Go.Proofs.Ytiaknjeeonlbcaa.fnExactTranscriptHash
open Go.ChangeShapes Go.WideShapes Go.ChangeAt Go.RowKit Go.Lib
open Go.ChangeMaps (open_string shut_string)
set_option linter.unusedVariables false

theorem own : ownKnob Try.prog.godebug = none := by kernel_rfl

set_option maxHeartbeats 4000000 in
set_option maxRecDepth 100000 in
theorem walk (a0 : Option Addr) (n0 c0 : Nat) (l0 : List (List Int)) (w : World) (K0 : Rws w a0 n0 l0) (F0 : ∀ x ∈ l0, ∀ z ∈ x, (Lit.int .i64 z).wf = true) (R0 : n0 ≤ c0 ∧ (c0 : Int) ≤ 9223372036854775807) :
    Calls Try.prog 5 #[.slice a0 n0 c0] w fun e w' => e = .returned (.bool true) ∧ Below w.heap.size w w' := by
  have hfit0 := K0.fits
  have hlen0 := K0.len
  by_cases hbig0 : (1048576 : Int) < ((n0 + numsOf l0 : Nat) : Int)
  · have HB := Lib.hid (Below.refl w.heap.size w)
    go_enter Try.func5, Try.ntmps5
    go_wp2_with fail
    refine (szIntSS_no (c := c0) (1048576) (K0.same HB.out) (by omega) (by omega) (by omega)).mono ?_
    rintro e w1 ⟨rfl, hb1⟩
    have HB1 := Lib.hid (HB.out.trans (hb1.mono HB.out.size))
    clear hb1
    go_wp2_with fail
    go_ret
    exact ⟨rfl, HB1.out⟩
  · skip
    have HK0 := Lib.hid K0
    have hn0 : n0 ≤ 1048576 := by omega
    have HP0 := Lib.hid (fun (x : List Int) (hx : x ∈ l0) => show x.length ≤ 1048576 by have := numsOf_mem hx; omega)
    have HG0 := Lib.hid (fun (x : List Int) (hx : x ∈ l0) => show x.length ≤ 1000000000 by have := numsOf_mem hx; omega)
    have HB := Lib.hid (Below.refl w.heap.size w)
    clear K0 F0 R0
    go_enter Try.func5, Try.ntmps5
    go_wp2_with fail
    refine (szIntSS_yes (c := c0) (1048576) (HK0.out.same HB.out) (by omega) (by omega)).mono ?_
    rintro e w_1 ⟨rfl, hb⟩
    replace HB := Lib.hid (HB.out.trans (hb.mono HB.out.size))
    clear hb
    go_wp2_with fail
    refine (toIntSS_any (c := c0) (HK0.out.same HB.out) HP0.out hn0).mono ?_
    rintro e w_2 ⟨b2, m2, d2, rfl, ho, hb⟩
    have HO2 := Lib.hid ho.rws
    replace HB := Lib.hid (HB.out.trans (hb.mono HB.out.size))
    clear ho hb
    go_wp2_with fail
    refine (spec_trHash_any (c := d2) HO2.out HG0.out).mono ?_
    rintro e w_3 ⟨rfl, hb⟩
    replace HO2 := Lib.hid (HO2.out.same hb)
    replace HB := Lib.hid (HB.out.trans (hb.mono HB.out.size))
    clear hb
    clear HO2
    go_wp2_with fail
    refine (toIntSS_any (c := c0) (HK0.out.same HB.out) HP0.out hn0).mono ?_
    rintro e w_4 ⟨b4, m4, d4, rfl, ho, hb⟩
    have HO4 := Lib.hid ho.rws
    replace HB := Lib.hid (HB.out.trans (hb.mono HB.out.size))
    clear ho hb
    go_wp2_with fail
    refine (trHash_any (c := d4) HO4.out HG0.out).mono ?_
    rintro e w_5 ⟨rfl, hb⟩
    replace HO4 := Lib.hid (HO4.out.same hb)
    replace HB := Lib.hid (HB.out.trans (hb.mono HB.out.size))
    clear hb
    go_wp2_with fail
    refine (toIntSS_any (c := c0) (HK0.out.same HB.out) HP0.out hn0).mono ?_
    rintro e w_6 ⟨b6, m6, d6, rfl, ho, hb⟩
    have HO6 := Lib.hid ho.rws
    replace HO4 := Lib.hid (HO4.out.same hb)
    replace HB := Lib.hid (HB.out.trans (hb.mono HB.out.size))
    clear ho hb
    go_wp2_with fail
    refine (eqIntSSL_yes (c := d4) (d := d6) HO4.out HO6.out).mono ?_
    rintro e w_7 ⟨rfl, hb⟩
    replace HO4 := Lib.hid (HO4.out.same hb)
    replace HO6 := Lib.hid (HO6.out.same hb)
    replace HB := Lib.hid (HB.out.trans (hb.mono HB.out.size))
    clear hb
    go_wp2_with fail
    go_ret
    exact ⟨rfl, HB.out⟩

set_option maxRecDepth 100000 in
theorem lifted (os : Os) (started : os.Started) (H : Type) (enc : TypeId × Value → H) :
    ReturnsInHanded {} Try.checked os 5 .any (Rows.fnExactTranscriptHashSpec.pre6 enc Try.prog Try.f5 Rows.fnExactTranscriptHashRow.domain false) (Rows.fnExactTranscriptHashSpec.post enc Try.prog Try.f5 false true false false) := by
  refine returnsInHanded_of_change (C := Try.checked) own started (by kernel_rfl) Try.func5
    (ChangeSpec.witness6 (enc := enc) (C := Try.checked) false ⟨#[], #[.slice none 0 0], []⟩ 8 (by kernel_rfl) (by kernel_rfl) (by kernel_rfl) (by kernel_rfl)) ?_
  intro W base args ds gs before hval0 hW hcnd _
  have hval : ∀ (j : Nat) t v, Try.f5.params[j]? = some t → args[j]? = some v → Value.okWide Try.prog W .any base t v := hval0
  have hW' := hW
  obtain ⟨p, q, hA0, hV, rfl, hfz, hnd⟩ := hW
  have hA : DataW.TrodAll enc Try.prog W 0 (fun _ => true) true Try.f5.params.toList args.toList ds p := hA0
  rw [Try.params5] at hA hval
  obtain ⟨v0, vs0, d0, ds0, p0, q0, hargs, rfl, rfl, h0, r0⟩ := trodAll_cons hA
  obtain ⟨rfl, rfl, rfl⟩ := trodAll_nil r0
  obtain rfl : args = #[v0] := by cases args; simp_all
  obtain ⟨rfl, rfl⟩ := trodVars_none hV
  have h0k := h0
  have hlt0 : ∀ x ∈ p0, x.block < W.heap.size := fun x hx => by simpa using hW'.lt x (by simp [hx])
  obtain ⟨a0, n0, c0, l0, rfl, K0, F0, R0⟩ := open_rows Try.underlying24 Try.underlying29 Try.underlying3 (by kernel_rfl) int_cells (hval 0 24 v0 rfl rfl) h0
  clear hA0 hval0
  simp only [List.append_nil] at hW'
  refine (walk a0 n0 c0 l0 W K0 F0 R0).mono fun e W' ⟨he, hb⟩ => ?_
  subst he
  exact ⟨_, rfl, ⟨_, _, _, [], _, [], hW', (trodAll_cons_mk (shut_bool Try.underlying4 _) trodAll_mk0), (trodAll_cons_mk (Below.trod laidOut (by kernel_rfl) (of_decide_eq_true (by kernel_rfl)) h0k hb hlt0) trodAll_mk0), rfl, hb.frame _, fun h => by cases h⟩⟩

theorem over : Rows.fnExactTranscriptHashRow.holds Try.pinned (OpenSpec.ofChange Rows.fnExactTranscriptHashSpec) :=
  OpenClaim.holds_of_wide 5 Try.f5 rfl rfl rfl rfl rfl rfl rfl ⟨rfl, rfl, rfl, rfl, rfl⟩ rfl rfl rfl rfl rfl (by kernel_rfl) Try.func5 (by kernel_rfl)
    (of_decide_eq_true (by kernel_rfl)) (by unfold Func.isWrapper; first | (rw [if_pos (by decide +kernel)]; kernel_rfl) | (rw [if_neg (by decide +kernel)]; exact ⟨rfl, rfl⟩))
    (fun os started H enc _ => lifted os started H enc)

theorem proved : Rows.FnExactTranscriptHashSaid :=
  over
end Go.Proofs.Ytiaknjeeonlbcaa.fnExactTranscriptHash
