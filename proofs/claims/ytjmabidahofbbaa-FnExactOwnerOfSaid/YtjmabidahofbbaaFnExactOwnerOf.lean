/- For every list of entries and tag: its owner, as in the model. -/
import Derived.Test.YtjmabidahofbbaaEntT
import Derived.Test.YtjmabidahofbbaaOwr
import Derived.Test.YtjmabidahofbbaaOpenN
import Derived.WalkKit
import Derived.Deep.RegionHeld3
import Derived.ProofKit
import Derived.OpenShut
namespace Go.Proofs.Ytjmabidahofbbaa.fnExactOwnerOf
open Go.ChangeShapes Go.WideShapes Go.ChangeAt Go.RowKit Go.Lib
open Go.ChangeMaps (open_string shut_string)
set_option linter.unusedVariables false

theorem own : ownKnob Try.prog.godebug = none := by kernel_rfl

set_option maxHeartbeats 4000000 in
set_option maxRecDepth 100000 in
theorem walk (a0 : Option Addr) (n0 c0 : Nat) (l0 : List En) (a1 : Int) (w1 : (Lit.int .i64 a1).wf = true) (w : World) (K0 : Ens w a0 n0 l0) (F0 : ∀ x ∈ l0, x.wf) (R0 : n0 ≤ c0 ∧ (c0 : Int) ≤ 9223372036854775807) :
    Calls Try.prog 6 #[.slice a0 n0 c0, .int .i64 a1] w fun e w' => e = .returned (.bool true) ∧ Below w.heap.size w w' := by
  have hfit0 := K0.fits
  by_cases hbig0 : 1048576 < n0
  · go_enter Try.func6, Try.ntmps6
    go_wp2
    go_ret
    exact ⟨rfl, Below.refl _ _⟩
  have HK0 := Lib.hid K0
  have HR0 := Lib.hid R0
  have hn0 : n0 ≤ 1048576 := by omega
  have HF0 := Lib.hid F0
  have HB := Lib.hid (Below.refl w.heap.size w)
  clear K0 F0 R0
  go_enter Try.func6, Try.ntmps6
  go_wp2_with fail
  refine (szEntryS_any a0 n0 c0 (1048576) _ (by omega) (by omega)).mono ?_
  rintro e w' ⟨rfl, rfl⟩
  go_wp2_with fail
  refine (toEntryS_any a0 n0 c0 l0 _ (HK0.out.same HB.out) (by omega)).mono ?_
  rintro e w_1 ⟨b0, m0, d0, rfl, ho, hb⟩
  have hm0 : m0 ≤ 1000000000 := by have hl := ho.len; have := HK0.out.len;  omega
  have hs1 : w.heap.size ≤ w_1.heap.size := hb.size
  have HS0 := Lib.hid ho.span
  have HO0 := Lib.hid ho
  replace HB := Lib.hid (HB.out.trans (hb.mono HB.out.size))
  clear ho hb
  go_wp2_with fail
  refine (told_eq (specOwnerOf_any a1 (HO0.out.items En.enc_len))).mono ?_
  rintro e w_2 ⟨rfl, hb⟩
  have hs2 : w_1.heap.size ≤ w_2.heap.size := hb.size
  replace HO0 := Lib.hid (HO0.out.same hb)
  replace HB := Lib.hid (HB.out.trans (hb.mono HB.out.size))
  clear hb
  go_wp2_with fail
  refine (toEntryS_any a0 n0 c0 l0 _ (HK0.out.same HB.out) (by omega)).mono ?_
  rintro e w_3 ⟨b1, m1, d1, rfl, ho, hb⟩
  have hm1 : m1 ≤ 1000000000 := by have hl := ho.len; have := HK0.out.len;  omega
  have hs3 : w_2.heap.size ≤ w_3.heap.size := hb.size
  have HS1 := Lib.hid ho.span
  have HO1 := Lib.hid ho
  replace HO0 := Lib.hid (HO0.out.same hb)
  replace HB := Lib.hid (HB.out.trans (hb.mono HB.out.size))
  clear ho hb
  go_wp2_with fail
  refine (ownerOf_any a1 (HO1.out.items En.enc_len) (by omega)).mono ?_
  rintro e w_4 ⟨rfl, hb⟩
  have hs4 : w_3.heap.size ≤ w_4.heap.size := hb.size
  replace HO0 := Lib.hid (HO0.out.same hb)
  replace HO1 := Lib.hid (HO1.out.same hb)
  replace HB := Lib.hid (HB.out.trans (hb.mono HB.out.size))
  clear hb
  go_wp2_with fail
  refine (toEntryS_any a0 n0 c0 l0 _ (HK0.out.same HB.out) (by omega)).mono ?_
  rintro e w_5 ⟨b2, m2, d2, rfl, ho, hb⟩
  have hm2 : m2 ≤ 1000000000 := by have hl := ho.len; have := HK0.out.len;  omega
  have hs5 : w_4.heap.size ≤ w_5.heap.size := hb.size
  have HS2 := Lib.hid ho.span
  have HO2 := Lib.hid ho
  replace HO0 := Lib.hid (HO0.out.same hb)
  replace HO1 := Lib.hid (HO1.out.same hb)
  replace HB := Lib.hid (HB.out.trans (hb.mono HB.out.size))
  clear ho hb
  go_wp2_with fail
  refine (eqEntryS_yes b1 b2 m1 m2 d1 d2 l0 _ (HO1.out.items En.enc_len) (HO2.out.items En.enc_len)).mono ?_
  rintro e w_6 ⟨rfl, hb⟩
  have hs6 : w_5.heap.size ≤ w_6.heap.size := hb.size
  replace HO0 := Lib.hid (HO0.out.same hb)
  replace HO1 := Lib.hid (HO1.out.same hb)
  replace HO2 := Lib.hid (HO2.out.same hb)
  replace HB := Lib.hid (HB.out.trans (hb.mono HB.out.size))
  clear hb
  go_wp2_with fail
  go_ret
  exact ⟨rfl, HB.out⟩

set_option maxRecDepth 100000 in
theorem lifted (os : Os) (started : os.Started) (H : Type) (enc : TypeId × Value → H) :
    ReturnsInHanded {} Try.checked os 6 .any (Rows.fnExactOwnerOfSpec.pre6 enc Try.prog Try.f6 Rows.fnExactOwnerOfRow.domain false) (Rows.fnExactOwnerOfSpec.post enc Try.prog Try.f6 false true false false) := by
  refine returnsInHanded_of_change (C := Try.checked) own started (by kernel_rfl) Try.func6
    (ChangeSpec.witness6 (enc := enc) (C := Try.checked) false ⟨#[], #[.slice none 0 0, .int .i64 0], []⟩ 8 (by kernel_rfl) (by kernel_rfl) (by kernel_rfl) (by kernel_rfl)) ?_
  intro W base args ds gs before hval0 hW hcnd _
  have hval : ∀ (j : Nat) t v, Try.f6.params[j]? = some t → args[j]? = some v → Value.okWide Try.prog W .any base t v := hval0
  have hW' := hW
  obtain ⟨p, q, hA0, hV, rfl, hfz, hnd⟩ := hW
  have hA : DataW.TrodAll enc Try.prog W 0 (fun _ => true) true Try.f6.params.toList args.toList ds p := hA0
  rw [Try.params6] at hA hval
  obtain ⟨v0, vs0, d0, ds0, p0, q0, hargs, rfl, rfl, h0, r0⟩ := trodAll_cons hA
  obtain ⟨v1, vs1, d1, ds1, p1, q1, rfl, rfl, rfl, h1, r1⟩ := trodAll_cons r0
  obtain ⟨rfl, rfl, rfl⟩ := trodAll_nil r1
  obtain rfl : args = #[v0, v1] := by cases args; simp_all
  obtain ⟨rfl, rfl⟩ := trodVars_none hV
  have h0k := h0
  have hlt0 : ∀ x ∈ p0, x.block < W.heap.size := fun x hx => by simpa using hW'.lt x (by simp [hx])
  obtain ⟨a0, n0, c0, l0, rfl, K0, F0, R0⟩ := open_ens Try.underlying58 Try.underlying100 (by kernel_rfl) (by kernel_rfl) Try.underlying3 Try.underlying3 Try.underlying4 (hval 0 58 v0 rfl rfl) h0
  obtain ⟨a1, rfl, rfl, rfl, w1⟩ := open_int Try.underlying3 (hval 1 3 v1 rfl rfl) h1
  clear hA0 hval0
  simp only [List.append_nil] at hW'
  refine (walk a0 n0 c0 l0 a1 w1 W K0 F0 R0).mono fun e W' ⟨he, hb⟩ => ?_
  subst he
  exact ⟨_, rfl, ⟨_, _, _, [], _, [], hW', (trodAll_cons_mk (shut_bool Try.underlying4 _) trodAll_mk0), (trodAll_cons_mk (Below.trod laidOut (by kernel_rfl) (of_decide_eq_true (by kernel_rfl)) h0k hb hlt0) (trodAll_cons_mk (shut_int Try.underlying3 w1) trodAll_mk0)), rfl, hb.frame _, fun h => by cases h⟩⟩

theorem over : Rows.fnExactOwnerOfRow.holds Try.pinned (OpenSpec.ofChange Rows.fnExactOwnerOfSpec) :=
  OpenClaim.holds_of_wide 6 Try.f6 rfl rfl rfl rfl rfl rfl rfl ⟨rfl, rfl, rfl, rfl, rfl⟩ rfl rfl rfl rfl rfl (by kernel_rfl) Try.func6 (by kernel_rfl)
    (of_decide_eq_true (by kernel_rfl)) (by unfold Func.isWrapper; first | (rw [if_pos (by decide +kernel)]; kernel_rfl) | (rw [if_neg (by decide +kernel)]; exact ⟨rfl, rfl⟩))
    (fun os started H enc _ => lifted os started H enc)

theorem proved : Rows.FnExactOwnerOfSaid :=
  over
end Go.Proofs.Ytjmabidahofbbaa.fnExactOwnerOf
