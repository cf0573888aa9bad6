/- ChecksOut: the program answers as its model. -/
import Derived.Test.YtiaknjeeonlbcaaLlT
import Derived.Test.YtiaknjeeonlbcaaFin
import Derived.Test.YtiaknjeeonlbcaaFinM
import Derived.WalkKit
import Derived.Deep.RegionHeld3
import Derived.ProofKit
import Derived.OpenShut
namespace Go.Proofs.Ytiaknjeeonlbcaa.fnExactChecksOut
open Go.ChangeShapes Go.WideShapes Go.ChangeAt Go.RowKit Go.Lib
open Go.ChangeMaps (open_string shut_string)
set_option linter.unusedVariables false

theorem own : ownKnob Try.prog.godebug = none := by kernel_rfl

set_option maxHeartbeats 4000000 in
set_option maxRecDepth 100000 in
theorem walk (a0 : Int) (w0 : (Lit.int .i64 a0).wf = true) (a1 : Option Addr) (n1 c1 : Nat) (l1 : List (List Int)) (a2 : Int) (w2 : (Lit.int .i64 a2).wf = true) (a3 : Int) (w3 : (Lit.int .i64 a3).wf = true) (w : World) (K1 : Rws w a1 n1 l1) (F1 : ∀ x ∈ l1, ∀ z ∈ x, (Lit.int .i64 z).wf = true) (R1 : n1 ≤ c1 ∧ (c1 : Int) ≤ 9223372036854775807) :
    Calls Try.prog 7 #[.int .i64 a0, .slice a1 n1 c1, .int .i64 a2, .int .i64 a3] w fun e w' => e = .returned (.bool true) ∧ Below w.heap.size w w' := by
  have hfit1 := K1.fits
  have hlen1 := K1.len
  by_cases hbig1 : (1048576 : Int) < ((n1 + numsOf l1 : Nat) : Int)
  · have HB := Lib.hid (Below.refl w.heap.size w)
    go_enter Try.func7, Try.ntmps7
    go_wp2_with fail
    refine (szIntSS_no (c := c1) (1048576) (K1.same HB.out) (by omega) (by omega) (by omega)).mono ?_
    rintro e w1 ⟨rfl, hb1⟩
    have HB1 := Lib.hid (HB.out.trans (hb1.mono HB.out.size))
    clear hb1
    go_wp2_with fail
    go_ret
    exact ⟨rfl, HB1.out⟩
  · skip
    have HK1 := Lib.hid K1
    have hn1 : n1 ≤ 1048576 := by omega
    have HP1 := Lib.hid (fun (x : List Int) (hx : x ∈ l1) => show x.length ≤ 1048576 by have := numsOf_mem hx; omega)
    have HG1 := Lib.hid (fun (x : List Int) (hx : x ∈ l1) => show x.length ≤ 1000000000 by have := numsOf_mem hx; omega)
    have HB := Lib.hid (Below.refl w.heap.size w)
    clear K1 F1 R1
    go_enter Try.func7, Try.ntmps7
    go_wp2_with fail
    refine (szIntSS_yes (c := c1) (1048576) (HK1.out.same HB.out) (by omega) (by omega)).mono ?_
    rintro e w_1 ⟨rfl, hb⟩
    replace HB := Lib.hid (HB.out.trans (hb.mono HB.out.size))
    clear hb
    go_wp2_with fail
    refine (toIntSS_any (c := c1) (HK1.out.same HB.out) HP1.out hn1).mono ?_
    rintro e w_2 ⟨b2, m2, d2, rfl, ho, hb⟩
    have HO2 := Lib.hid ho.rws
    replace HB := Lib.hid (HB.out.trans (hb.mono HB.out.size))
    clear ho hb
    go_wp2_with fail
    refine (spec_checksOut_any a0 a2 a3 (c := d2) HO2.out HG1.out).mono ?_
    rintro e w_3 ⟨rfl, hb⟩
    replace HO2 := Lib.hid (HO2.out.same hb)
    replace HB := Lib.hid (HB.out.trans (hb.mono HB.out.size))
    clear hb
    clear HO2
    go_wp2_with fail
    refine (toIntSS_any (c := c1) (HK1.out.same HB.out) HP1.out hn1).mono ?_
    rintro e w_4 ⟨b4, m4, d4, rfl, ho, hb⟩
    have HO4 := Lib.hid ho.rws
    replace HB := Lib.hid (HB.out.trans (hb.mono HB.out.size))
    clear ho hb
    go_wp2_with fail
    refine (checksOut_any a0 a2 a3 (c := d4) HO4.out HG1.out).mono ?_
    rintro e w_5 ⟨rfl, hb⟩
    replace HO4 := Lib.hid (HO4.out.same hb)
    replace HB := Lib.hid (HB.out.trans (hb.mono HB.out.size))
    clear hb
    go_wp2_with fail
    refine (toIntSS_any (c := c1) (HK1.out.same HB.out) HP1.out hn1).mono ?_
    rintro e w_6 ⟨b6, m6, d6, rfl, ho, hb⟩
    have HO6 := Lib.hid ho.rws
    replace HO4 := Lib.hid (HO4.out.same hb)
    replace HB := Lib.hid (HB.out.trans (hb.mono HB.out.size))
    clear ho hb
    go_wp2_with fail
    refine (eqIntSSL_yes (c := d4) (d := d6) HO4.out HO6.out).mono ?_
    rintro e w_7 ⟨rfl, hb⟩
    replace HO4 := Lib.hid (HO4.out.same hb)
    replace HO6 := Lib.hid (HO6.out.same hb)
    replace HB := Lib.hid (HB.out.trans (hb.mono HB.out.size))
    clear hb
    go_wp2_with fail
    go_ret
    exact ⟨rfl, HB.out⟩

set_option maxRecDepth 100000 in
theorem lifted (os : Os) (started : os.Started) (H : Type) (enc : TypeId × Value → H) :
    ReturnsInHanded {} Try.checked os 7 .any (Rows.fnExactChecksOutSpec.pre6 enc Try.prog Try.f7 Rows.fnExactChecksOutRow.domain false) (Rows.fnExactChecksOutSpec.post enc Try.prog Try.f7 false true false false) := by
  refine returnsInHanded_of_change (C := Try.checked) own started (by kernel_rfl) Try.func7
    (ChangeSpec.witness6 (enc := enc) (C := Try.checked) false ⟨#[], #[.int .i64 0, .slice none 0 0, .int .i64 0, .int .i64 0], []⟩ 8 (by kernel_rfl) (by kernel_rfl) (by kernel_rfl) (by kernel_rfl)) ?_
  intro W base args ds gs before hval0 hW hcnd _
  have hval : ∀ (j : Nat) t v, Try.f7.params[j]? = some t → args[j]? = some v → Value.okWide Try.prog W .any base t v := hval0
  have hW' := hW
  obtain ⟨p, q, hA0, hV, rfl, hfz, hnd⟩ := hW
  have hA : DataW.TrodAll enc Try.prog W 0 (fun _ => true) true Try.f7.params.toList args.toList ds p := hA0
  rw [Try.params7] at hA hval
  obtain ⟨v0, vs0, d0, ds0, p0, q0, hargs, rfl, rfl, h0, r0⟩ := trodAll_cons hA
  obtain ⟨v1, vs1, d1, ds1, p1, q1, rfl, rfl, rfl, h1, r1⟩ := trodAll_cons r0
  obtain ⟨v2, vs2, d2, ds2, p2, q2, rfl, rfl, rfl, h2, r2⟩ := trodAll_cons r1
  obtain ⟨v3, vs3, d3, ds3, p3, q3, rfl, rfl, rfl, h3, r3⟩ := trodAll_cons r2
  obtain ⟨rfl, rfl, rfl⟩ := trodAll_nil r3
  obtain rfl : args = #[v0, v1, v2, v3] := by cases args; simp_all
  obtain ⟨rfl, rfl⟩ := trodVars_none hV
  obtain ⟨a0, rfl, rfl, rfl, w0⟩ := open_int Try.underlying3 (hval 0 3 v0 rfl rfl) h0
  have h1k := h1
  have hlt1 : ∀ x ∈ p1, x.block < W.heap.size := fun x hx => by simpa using hW'.lt x (by simp [hx])
  obtain ⟨a1, n1, c1, l1, rfl, K1, F1, R1⟩ := open_rows Try.underlying24 Try.underlying29 Try.underlying3 (by kernel_rfl) int_cells (hval 1 24 v1 rfl rfl) h1
  obtain ⟨a2, rfl, rfl, rfl, w2⟩ := open_int Try.underlying3 (hval 2 3 v2 rfl rfl) h2
  obtain ⟨a3, rfl, rfl, rfl, w3⟩ := open_int Try.underlying3 (hval 3 3 v3 rfl rfl) h3
  clear hA0 hval0
  simp only [List.append_nil] at hW'
  refine (walk a0 w0 a1 n1 c1 l1 a2 w2 a3 w3 W K1 F1 R1).mono fun e W' ⟨he, hb⟩ => ?_
  subst he
  exact ⟨_, rfl, ⟨_, _, _, [], _, [], hW', (trodAll_cons_mk (shut_bool Try.underlying4 _) trodAll_mk0), (trodAll_cons_mk (shut_int Try.underlying3 w0) (trodAll_cons_mk (Below.trod laidOut (by kernel_rfl) (of_decide_eq_true (by kernel_rfl)) h1k hb hlt1) (trodAll_cons_mk (shut_int Try.underlying3 w2) (trodAll_cons_mk (shut_int Try.underlying3 w3) trodAll_mk0)))), rfl, hb.frame _, fun h => by cases h⟩⟩

theorem over : Rows.fnExactChecksOutRow.holds Try.pinned (OpenSpec.ofChange Rows.fnExactChecksOutSpec) :=
  OpenClaim.holds_of_wide 7 Try.f7 rfl rfl rfl rfl rfl rfl rfl ⟨rfl, rfl, rfl, rfl, rfl⟩ rfl rfl rfl rfl rfl (by kernel_rfl) Try.func7 (by kernel_rfl)
    (of_decide_eq_true (by kernel_rfl)) (by unfold Func.isWrapper; first | (rw [if_pos (by decide +kernel)]; kernel_rfl) | (rw [if_neg (by decide +kernel)]; exact ⟨rfl, rfl⟩))
    (fun os started H enc _ => lifted os started H enc)

theorem proved : Rows.FnExactChecksOutSaid :=
  over
end Go.Proofs.Ytiaknjeeonlbcaa.fnExactChecksOut
