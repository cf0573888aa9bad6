/- SameTranscripts: the program answers as its model. -/
import Derived.Test.YtiaknjeeonlbcaaLlT
import Derived.Test.YtiaknjeeonlbcaaSmt
import Derived.WalkKit
import Derived.Deep.RegionHeld3
import Derived.ProofKit
import Derived.OpenShut
namespace Go.Proofs.Ytiaknjeeonlbcaa.fnExactSameTranscripts
open Go.ChangeShapes Go.WideShapes Go.ChangeAt Go.RowKit Go.Lib
open Go.ChangeMaps (open_string shut_string)
set_option linter.unusedVariables false

theorem own : ownKnob Try.prog.godebug = none := by kernel_rfl

set_option maxHeartbeats 4000000 in
set_option maxRecDepth 100000 in
theorem walk (a0 : Option Addr) (n0 c0 : Nat) (l0 : List (List Int)) (a1 : Option Addr) (n1 c1 : Nat) (l1 : List (List Int)) (w : World) (K0 : Rws w a0 n0 l0) (F0 : ∀ x ∈ l0, ∀ z ∈ x, (Lit.int .i64 z).wf = true) (R0 : n0 ≤ c0 ∧ (c0 : Int) ≤ 9223372036854775807) (K1 : Rws w a1 n1 l1) (F1 : ∀ x ∈ l1, ∀ z ∈ x, (Lit.int .i64 z).wf = true) (R1 : n1 ≤ c1 ∧ (c1 : Int) ≤ 9223372036854775807) :
    Calls Try.prog 8 #[.slice a0 n0 c0, .slice a1 n1 c1] w fun e w' => e = .returned (.bool true) ∧ Below w.heap.size w w' := by
  have hfit0 := K0.fits
  have hlen0 := K0.len
  have hfit1 := K1.fits
  have hlen1 := K1.len
  by_cases hbig0 : (1048576 : Int) < ((n0 + numsOf l0 : Nat) : Int)
  · have HB := Lib.hid (Below.refl w.heap.size w)
    go_enter Try.func8, Try.ntmps8
    go_wp2_with fail
    refine (szIntSS_no (c := c0) (1048576) (K0.same HB.out) (by omega) (by omega) (by omega)).mono ?_
    rintro e w1 ⟨rfl, hb1⟩
    have HB1 := Lib.hid (HB.out.trans (hb1.mono HB.out.size))
    clear hb1
    go_wp2_with fail
    go_ret
    exact ⟨rfl, HB1.out⟩
  · skip
    by_cases hbig1 : (1048576 - ((n0 + numsOf l0 : Nat) : Int) : Int) < ((n1 + numsOf l1 : Nat) : Int)
    · have HB := Lib.hid (Below.refl w.heap.size w)
      go_enter Try.func8, Try.ntmps8
      go_wp2_with fail
      refine (szIntSS_yes (c := c0) (1048576) (K0.same HB.out) (by omega) (by omega)).mono ?_
      rintro e w00 ⟨rfl, hb0⟩
      replace HB := Lib.hid (HB.out.trans (hb0.mono HB.out.size))
      clear hb0
      go_wp2_with fail
      refine (szIntSS_no (c := c1) (1048576 - ((n0 + numsOf l0 : Nat) : Int)) (K1.same HB.out) (by omega) (by omega) (by omega)).mono ?_
      rintro e w1 ⟨rfl, hb1⟩
      have HB1 := Lib.hid (HB.out.trans (hb1.mono HB.out.size))
      clear hb1
      go_wp2_with fail
      go_ret
      exact ⟨rfl, HB1.out⟩
    · skip
      have HK0 := Lib.hid K0
      have hn0 : n0 ≤ 1048576 := by omega
      have HP0 := Lib.hid (fun (x : List Int) (hx : x ∈ l0) => show x.length ≤ 1048576 by have := numsOf_mem hx; omega)
      have HG0 := Lib.hid (fun (x : List Int) (hx : x ∈ l0) => show x.length ≤ 1000000000 by have := numsOf_mem hx; omega)
      have HK1 := Lib.hid K1
      have hn1 : n1 ≤ 1048576 := by omega
      have HP1 := Lib.hid (fun (x : List Int) (hx : x ∈ l1) => show x.length ≤ 1048576 by have := numsOf_mem hx; omega)
      have HG1 := Lib.hid (fun (x : List Int) (hx : x ∈ l1) => show x.length ≤ 1000000000 by have := numsOf_mem hx; omega)
      have HB := Lib.hid (Below.refl w.heap.size w)
      clear K0 F0 R0 K1 F1 R1
      go_enter Try.func8, Try.ntmps8
      go_wp2_with fail
      refine (szIntSS_yes (c := c0) (1048576) (HK0.out.same HB.out) (by omega) (by omega)).mono ?_
      rintro e w_1 ⟨rfl, hb⟩
      replace HB := Lib.hid (HB.out.trans (hb.mono HB.out.size))
      clear hb
      go_wp2_with fail
      refine (szIntSS_yes (c := c1) (1048576 - ((n0 + numsOf l0 : Nat) : Int)) (HK1.out.same HB.out) (by omega) (by omega)).mono ?_
      rintro e w_2 ⟨rfl, hb⟩
      replace HB := Lib.hid (HB.out.trans (hb.mono HB.out.size))
      clear hb
      go_wp2_with fail
      refine (toIntSS_any (c := c0) (HK0.out.same HB.out) HP0.out hn0).mono ?_
      rintro e w_3 ⟨b3, m3, d3, rfl, ho, hb⟩
      have HO3 := Lib.hid ho.rws
      replace HB := Lib.hid (HB.out.trans (hb.mono HB.out.size))
      clear ho hb
      go_wp2_with fail
      refine (toIntSS_any (c := c1) (HK1.out.same HB.out) HP1.out hn1).mono ?_
      rintro e w_4 ⟨b4, m4, d4, rfl, ho, hb⟩
      have HO4 := Lib.hid ho.rws
      replace HO3 := Lib.hid (HO3.out.same hb)
      replace HB := Lib.hid (HB.out.trans (hb.mono HB.out.size))
      clear ho hb
      go_wp2_with fail
      refine (specSame_any (c := d3) (d := d4) HO3.out HO4.out).mono ?_
      rintro e w_5 ⟨rfl, hb⟩
      replace HO3 := Lib.hid (HO3.out.same hb)
      replace HO4 := Lib.hid (HO4.out.same hb)
      replace HB := Lib.hid (HB.out.trans (hb.mono HB.out.size))
      clear hb
      clear HO3
      clear HO4
      go_wp2_with fail
      refine (toIntSS_any (c := c0) (HK0.out.same HB.out) HP0.out hn0).mono ?_
      rintro e w_6 ⟨b6, m6, d6, rfl, ho, hb⟩
      have HO6 := Lib.hid ho.rws
      replace HB := Lib.hid (HB.out.trans (hb.mono HB.out.size))
      clear ho hb
      go_wp2_with fail
      refine (toIntSS_any (c := c1) (HK1.out.same HB.out) HP1.out hn1).mono ?_
      rintro e w_7 ⟨b7, m7, d7, rfl, ho, hb⟩
      have HO7 := Lib.hid ho.rws
      replace HO6 := Lib.hid (HO6.out.same hb)
      replace HB := Lib.hid (HB.out.trans (hb.mono HB.out.size))
      clear ho hb
      go_wp2_with fail
      refine (sameTranscripts_any (c := d6) (d := d7) HO6.out HO7.out).mono ?_
      rintro e w_8 ⟨rfl, hb⟩
      replace HO6 := Lib.hid (HO6.out.same hb)
      replace HO7 := Lib.hid (HO7.out.same hb)
      replace HB := Lib.hid (HB.out.trans (hb.mono HB.out.size))
      clear hb
      go_wp2_with fail
      refine (toIntSS_any (c := c0) (HK0.out.same HB.out) HP0.out hn0).mono ?_
      rintro e w_9 ⟨b9, m9, d9, rfl, ho, hb⟩
      have HO9 := Lib.hid ho.rws
      replace HO6 := Lib.hid (HO6.out.same hb)
      replace HO7 := Lib.hid (HO7.out.same hb)
      replace HB := Lib.hid (HB.out.trans (hb.mono HB.out.size))
      clear ho hb
      go_wp2_with fail
      refine (eqIntSSL_yes (c := d6) (d := d9) HO6.out HO9.out).mono ?_
      rintro e w_10 ⟨rfl, hb⟩
      replace HO6 := Lib.hid (HO6.out.same hb)
      replace HO7 := Lib.hid (HO7.out.same hb)
      replace HO9 := Lib.hid (HO9.out.same hb)
      replace HB := Lib.hid (HB.out.trans (hb.mono HB.out.size))
      clear hb
      go_wp2_with fail
      refine (toIntSS_any (c := c1) (HK1.out.same HB.out) HP1.out hn1).mono ?_
      rintro e w_11 ⟨b11, m11, d11, rfl, ho, hb⟩
      have HO11 := Lib.hid ho.rws
      replace HO6 := Lib.hid (HO6.out.same hb)
      replace HO7 := Lib.hid (HO7.out.same hb)
      replace HO9 := Lib.hid (HO9.out.same hb)
      replace HB := Lib.hid (HB.out.trans (hb.mono HB.out.size))
      clear ho hb
      go_wp2_with fail
      refine (eqIntSSL_yes (c := d7) (d := d11) HO7.out HO11.out).mono ?_
      rintro e w_12 ⟨rfl, hb⟩
      replace HO6 := Lib.hid (HO6.out.same hb)
      replace HO7 := Lib.hid (HO7.out.same hb)
      replace HO9 := Lib.hid (HO9.out.same hb)
      replace HO11 := Lib.hid (HO11.out.same hb)
      replace HB := Lib.hid (HB.out.trans (hb.mono HB.out.size))
      clear hb
      go_wp2_with fail
      go_ret
      exact ⟨rfl, HB.out⟩

set_option maxRecDepth 100000 in
theorem lifted (os : Os) (started : os.Started) (H : Type) (enc : TypeId × Value → H) :
    ReturnsInHanded {} Try.checked os 8 .any (Rows.fnExactSameTranscriptsSpec.pre6 enc Try.prog Try.f8 Rows.fnExactSameTranscriptsRow.domain false) (Rows.fnExactSameTranscriptsSpec.post enc Try.prog Try.f8 false true false false) := by
  refine returnsInHanded_of_change (C := Try.checked) own started (by kernel_rfl) Try.func8
    (ChangeSpec.witness6 (enc := enc) (C := Try.checked) false ⟨#[], #[.slice none 0 0, .slice none 0 0], []⟩ 8 (by kernel_rfl) (by kernel_rfl) (by kernel_rfl) (by kernel_rfl)) ?_
  intro W base args ds gs before hval0 hW hcnd _
  have hval : ∀ (j : Nat) t v, Try.f8.params[j]? = some t → args[j]? = some v → Value.okWide Try.prog W .any base t v := hval0
  have hW' := hW
  obtain ⟨p, q, hA0, hV, rfl, hfz, hnd⟩ := hW
  have hA : DataW.TrodAll enc Try.prog W 0 (fun _ => true) true Try.f8.params.toList args.toList ds p := hA0
  rw [Try.params8] at hA hval
  obtain ⟨v0, vs0, d0, ds0, p0, q0, hargs, rfl, rfl, h0, r0⟩ := trodAll_cons hA
  obtain ⟨v1, vs1, d1, ds1, p1, q1, rfl, rfl, rfl, h1, r1⟩ := trodAll_cons r0
  obtain ⟨rfl, rfl, rfl⟩ := trodAll_nil r1
  obtain rfl : args = #[v0, v1] := by cases args; simp_all
  obtain ⟨rfl, rfl⟩ := trodVars_none hV
  have h0k := h0
  have hlt0 : ∀ x ∈ p0, x.block < W.heap.size := fun x hx => by simpa using hW'.lt x (by simp [hx])
  obtain ⟨a0, n0, c0, l0, rfl, K0, F0, R0⟩ := open_rows Try.underlying24 Try.underlying29 Try.underlying3 (by kernel_rfl) int_cells (hval 0 24 v0 rfl rfl) h0
  have h1k := h1
  have hlt1 : ∀ x ∈ p1, x.block < W.heap.size := fun x hx => by simpa using hW'.lt x (by simp [hx])
  obtain ⟨a1, n1, c1, l1, rfl, K1, F1, R1⟩ := open_rows Try.underlying24 Try.underlying29 Try.underlying3 (by kernel_rfl) int_cells (hval 1 24 v1 rfl rfl) h1
  clear hA0 hval0
  simp only [List.append_nil] at hW'
  refine (walk a0 n0 c0 l0 a1 n1 c1 l1 W K0 F0 R0 K1 F1 R1).mono fun e W' ⟨he, hb⟩ => ?_
  subst he
  exact ⟨_, rfl, ⟨_, _, _, [], _, [], hW', (trodAll_cons_mk (shut_bool Try.underlying4 _) trodAll_mk0), (trodAll_cons_mk (Below.trod laidOut (by kernel_rfl) (of_decide_eq_true (by kernel_rfl)) h0k hb hlt0) (trodAll_cons_mk (Below.trod laidOut (by kernel_rfl) (of_decide_eq_true (by kernel_rfl)) h1k hb hlt1) trodAll_mk0)), rfl, hb.frame _, fun h => by cases h⟩⟩

theorem over : Rows.fnExactSameTranscriptsRow.holds Try.pinned (OpenSpec.ofChange Rows.fnExactSameTranscriptsSpec) :=
  OpenClaim.holds_of_wide 8 Try.f8 rfl rfl rfl rfl rfl rfl rfl ⟨rfl, rfl, rfl, rfl, rfl⟩ rfl rfl rfl rfl rfl (by kernel_rfl) Try.func8 (by kernel_rfl)
    (of_decide_eq_true (by kernel_rfl)) (by unfold Func.isWrapper; first | (rw [if_pos (by decide +kernel)]; kernel_rfl) | (rw [if_neg (by decide +kernel)]; exact ⟨rfl, rfl⟩))
    (fun os started H enc _ => lifted os started H enc)

theorem proved : Rows.FnExactSameTranscriptsSaid :=
  over
end Go.Proofs.Ytiaknjeeonlbcaa.fnExactSameTranscripts
