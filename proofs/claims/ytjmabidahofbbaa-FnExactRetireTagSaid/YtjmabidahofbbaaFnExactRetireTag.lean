/- For every list of entries and tag: what is retired, as in the model. -/
import Derived.Test.YtjmabidahofbbaaEntS
import Derived.Test.YtjmabidahofbbaaRt
import Derived.Test.YtjmabidahofbbaaRtM
import Derived.Test.YtjmabidahofbbaaOpenN
import Derived.WalkKit
import Derived.Deep.RegionHeld3
import Derived.ProofKit
import Derived.OpenShut
namespace Go.Proofs.Ytjmabidahofbbaa.fnExactRetireTag
open Go.ChangeShapes Go.WideShapes Go.ChangeAt Go.RowKit Go.Lib
open Go.ChangeMaps (open_string shut_string)
set_option linter.unusedVariables false

theorem own : ownKnob Try.prog.godebug = none := by kernel_rfl

set_option maxHeartbeats 4000000 in
set_option maxRecDepth 100000 in
theorem walk (a0 : Option Addr) (n0 c0 : Nat) (l0 : List En) (a1 : Int) (w1 : (Lit.int .i64 a1).wf = true) (w : World) (K0 : Ens w a0 n0 l0) (F0 : ∀ x ∈ l0, x.wf) (R0 : n0 ≤ c0 ∧ (c0 : Int) ≤ 9223372036854775807) :
    Calls Try.prog 8 #[.slice a0 n0 c0, .int .i64 a1] w fun e w' => e = .returned (.bool true) ∧ Below w.heap.size w w' := by
  have hfit0 := K0.fits
  by_cases hbig0 : 1048576 < n0
  · go_enter Try.func8, Try.ntmps8
    go_wp2
    go_ret
    exact ⟨rfl, Below.refl _ _⟩
  have HK0 := Lib.hid K0
  have HR0 := Lib.hid R0
  have hn0 : n0 ≤ 1048576 := by omega
  have HF0 := Lib.hid F0
  have HB := Lib.hid (Below.refl w.heap.size w)
  clear K0 F0 R0
  go_enter Try.func8, Try.ntmps8
  go_wp2_with fail
  refine (szEntryS_any a0 n0 c0 (1048576) _ (by omega) (by omega)).mono ?_
  rintro e w' ⟨rfl, rfl⟩
  go_wp2_with fail
  refine (toEntryS_any a0 n0 c0 l0 _ (HK0.out.same HB.out) (by omega)).mono ?_
  rintro e w_1 ⟨b0, m0, d0, rfl, ho, hb⟩
  have hm0 : m0 ≤ 1000000000 := by have hl := ho.len; have := HK0.out.len;  omega
  have hs1 : w.heap.size ≤ w_1.heap.size := hb.size
  have HS0 := Lib.hid ho.span
  have HO0 := Lib.hid ho
  replace HB := Lib.hid (HB.out.trans (hb.mono HB.out.size))
  clear ho hb
  go_wp2_with fail
  refine (specRetireTag_any a1 (HO0.out.items En.enc_len) (by omega)).mono ?_
  rintro e w_2 ⟨b1, m1, d1, rfl, ho, hb⟩
  have hm1 : m1 ≤ 1000000000 := by have hl := ho.len; have := HK0.out.len; have := HO0.out.len; have := retL_len l0 a1; omega
  have hs2 : w_1.heap.size ≤ w_2.heap.size := hb.size
  have HS1 := Lib.hid ho.span
  have HO1 := Lib.hid ho
  replace HO0 := Lib.hid (HO0.out.same hb)
  replace HB := Lib.hid (HB.out.trans (hb.mono HB.out.size))
  clear ho hb
  go_wp2_with fail
  refine (toEntryS_any a0 n0 c0 l0 _ (HK0.out.same HB.out) (by omega)).mono ?_
  rintro e w_3 ⟨b2, m2, d2, rfl, ho, hb⟩
  have hm2 : m2 ≤ 1000000000 := by have hl := ho.len; have := HK0.out.len;  omega
  have hs3 : w_2.heap.size ≤ w_3.heap.size := hb.size
  have HS2 := Lib.hid ho.span
  have HO2 := Lib.hid ho
  replace HO0 := Lib.hid (HO0.out.same hb)
  replace HO1 := Lib.hid (HO1.out.same hb)
  replace HB := Lib.hid (HB.out.trans (hb.mono HB.out.size))
  clear ho hb
  go_wp2_with fail
  refine (retireTag_any a1 (HO2.out.items En.enc_len) (by omega)).mono ?_
  rintro e w_4 ⟨b3, m3, d3, rfl, ho, hb⟩
  have hm3 : m3 ≤ 1000000000 := by have hl := ho.len; have := HK0.out.len; have := HO2.out.len; have := retL_len l0 a1; omega
  have hs4 : w_3.heap.size ≤ w_4.heap.size := hb.size
  have HS3 := Lib.hid ho.span
  have HO3 := Lib.hid ho
  replace HO0 := Lib.hid (HO0.out.same hb)
  replace HO1 := Lib.hid (HO1.out.same hb)
  replace HO2 := Lib.hid (HO2.out.same hb)
  replace HB := Lib.hid (HB.out.trans (hb.mono HB.out.size))
  clear ho hb
  go_wp2_with fail
  refine (eqEntryS_yes b3 b1 m3 m1 d3 d1 (retL l0 a1) _ (HO3.out.items En.enc_len) (HO1.out.items En.enc_len)).mono ?_
  rintro e w_5 ⟨rfl, hb⟩
  have hs5 : w_4.heap.size ≤ w_5.heap.size := hb.size
  replace HO0 := Lib.hid (HO0.out.same hb)
  replace HO1 := Lib.hid (HO1.out.same hb)
  replace HO2 := Lib.hid (HO2.out.same hb)
  replace HO3 := Lib.hid (HO3.out.same hb)
  replace HB := Lib.hid (HB.out.trans (hb.mono HB.out.size))
  clear hb
  go_wp2_with fail
  refine (toEntryS_any a0 n0 c0 l0 _ (HK0.out.same HB.out) (by omega)).mono ?_
  rintro e w_6 ⟨b4, m4, d4, rfl, ho, hb⟩
  have hm4 : m4 ≤ 1000000000 := by have hl := ho.len; have := HK0.out.len;  omega
  have hs6 : w_5.heap.size ≤ w_6.heap.size := hb.size
  have HS4 := Lib.hid ho.span
  have HO4 := Lib.hid ho
  replace HO0 := Lib.hid (HO0.out.same hb)
  replace HO1 := Lib.hid (HO1.out.same hb)
  replace HO2 := Lib.hid (HO2.out.same hb)
  replace HO3 := Lib.hid (HO3.out.same hb)
  replace HB := Lib.hid (HB.out.trans (hb.mono HB.out.size))
  clear ho hb
  go_wp2_with fail
  refine (eqEntryS_yes b2 b4 m2 m4 d2 d4 l0 _ (HO2.out.items En.enc_len) (HO4.out.items En.enc_len)).mono ?_
  rintro e w_7 ⟨rfl, hb⟩
  have hs7 : w_6.heap.size ≤ w_7.heap.size := hb.size
  replace HO0 := Lib.hid (HO0.out.same hb)
  replace HO1 := Lib.hid (HO1.out.same hb)
  replace HO2 := Lib.hid (HO2.out.same hb)
  replace HO3 := Lib.hid (HO3.out.same hb)
  replace HO4 := Lib.hid (HO4.out.same hb)
  replace HB := Lib.hid (HB.out.trans (hb.mono HB.out.size))
  clear hb
  go_wp2_with fail
  refine (markEntryS_any _ b2 m2 d2 (1) l0 _ HO2.out (by omega) (by omega)).mono ?_
  rintro e w_8 ⟨rfl, ho, hg⟩
  have hs8 : w_7.heap.size ≤ w_8.heap.size := hg.size
  replace HO0 := Lib.hid (HO0.out.apart hg HS0.out HS2.out (by omega))
  replace HO1 := Lib.hid (HO1.out.apart hg HS1.out HS2.out (by omega))
  replace HO3 := Lib.hid (HO3.out.apart hg HS3.out HS2.out (by omega))
  replace HO4 := Lib.hid (HO4.out.apart hg HS4.out HS2.out (by omega))
  replace HO2 := Lib.hid ho
  replace HB := Lib.hid (grown_to hg HB.out HS2.out (by omega) HB.out.size)
  clear ho hg
  go_wp2_with fail
  refine (eqEntryS_yes b3 b1 m3 m1 d3 d1 (retL l0 a1) _ (HO3.out.items En.enc_len) (HO1.out.items En.enc_len)).mono ?_
  rintro e w_9 ⟨rfl, hb⟩
  have hs9 : w_8.heap.size ≤ w_9.heap.size := hb.size
  replace HO0 := Lib.hid (HO0.out.same hb)
  replace HO1 := Lib.hid (HO1.out.same hb)
  replace HO2 := Lib.hid (HO2.out.same hb)
  replace HO3 := Lib.hid (HO3.out.same hb)
  replace HO4 := Lib.hid (HO4.out.same hb)
  replace HB := Lib.hid (HB.out.trans (hb.mono HB.out.size))
  clear hb
  go_wp2_with fail
  refine (markEntryS_any _ b3 m3 d3 (1) (retL l0 a1) _ HO3.out (by omega) (by omega)).mono ?_
  rintro e w_10 ⟨rfl, ho, hg⟩
  have hs10 : w_9.heap.size ≤ w_10.heap.size := hg.size
  replace HO0 := Lib.hid (HO0.out.apart hg HS0.out HS3.out (by omega))
  replace HO1 := Lib.hid (HO1.out.apart hg HS1.out HS3.out (by omega))
  replace HO2 := Lib.hid (HO2.out.apart hg HS2.out HS3.out (by omega))
  replace HO4 := Lib.hid (HO4.out.apart hg HS4.out HS3.out (by omega))
  replace HO3 := Lib.hid ho
  replace HB := Lib.hid (grown_to hg HB.out HS3.out (by omega) HB.out.size)
  clear ho hg
  go_wp2_with fail
  refine (heldEntryS_any b3 m3 d3 (1) _ (HO3.out.items En.enc_len) (by omega) (by omega)).mono ?_
  rintro e w_11 ⟨rfl, hb⟩
  have hs11 : w_10.heap.size ≤ w_11.heap.size := hb.size
  replace HO0 := Lib.hid (HO0.out.same hb)
  replace HO1 := Lib.hid (HO1.out.same hb)
  replace HO2 := Lib.hid (HO2.out.same hb)
  replace HO3 := Lib.hid (HO3.out.same hb)
  replace HO4 := Lib.hid (HO4.out.same hb)
  replace HB := Lib.hid (HB.out.trans (hb.mono HB.out.size))
  clear hb
  go_wp2_with fail
  refine (toEntryS_any a0 n0 c0 l0 _ (HK0.out.same HB.out) (by omega)).mono ?_
  rintro e w_12 ⟨b5, m5, d5, rfl, ho, hb⟩
  have hm5 : m5 ≤ 1000000000 := by have hl := ho.len; have := HK0.out.len;  omega
  have hs12 : w_11.heap.size ≤ w_12.heap.size := hb.size
  have HS5 := Lib.hid ho.span
  have HO5 := Lib.hid ho
  replace HO0 := Lib.hid (HO0.out.same hb)
  replace HO1 := Lib.hid (HO1.out.same hb)
  replace HO2 := Lib.hid (HO2.out.same hb)
  replace HO3 := Lib.hid (HO3.out.same hb)
  replace HO4 := Lib.hid (HO4.out.same hb)
  replace HB := Lib.hid (HB.out.trans (hb.mono HB.out.size))
  clear ho hb
  go_wp2_with fail
  refine (retireTag_any a1 (HO5.out.items En.enc_len) (by omega)).mono ?_
  rintro e w_13 ⟨b6, m6, d6, rfl, ho, hb⟩
  have hm6 : m6 ≤ 1000000000 := by have hl := ho.len; have := HK0.out.len; have := HO5.out.len; have := retL_len l0 a1; omega
  have hs13 : w_12.heap.size ≤ w_13.heap.size := hb.size
  have HS6 := Lib.hid ho.span
  have HO6 := Lib.hid ho
  replace HO0 := Lib.hid (HO0.out.same hb)
  replace HO1 := Lib.hid (HO1.out.same hb)
  replace HO2 := Lib.hid (HO2.out.same hb)
  replace HO3 := Lib.hid (HO3.out.same hb)
  replace HO4 := Lib.hid (HO4.out.same hb)
  replace HO5 := Lib.hid (HO5.out.same hb)
  replace HB := Lib.hid (HB.out.trans (hb.mono HB.out.size))
  clear ho hb
  go_wp2_with fail
  refine (eqEntryS_yes b6 b1 m6 m1 d6 d1 (retL l0 a1) _ (HO6.out.items En.enc_len) (HO1.out.items En.enc_len)).mono ?_
  rintro e w_14 ⟨rfl, hb⟩
  have hs14 : w_13.heap.size ≤ w_14.heap.size := hb.size
  replace HO0 := Lib.hid (HO0.out.same hb)
  replace HO1 := Lib.hid (HO1.out.same hb)
  replace HO2 := Lib.hid (HO2.out.same hb)
  replace HO3 := Lib.hid (HO3.out.same hb)
  replace HO4 := Lib.hid (HO4.out.same hb)
  replace HO5 := Lib.hid (HO5.out.same hb)
  replace HO6 := Lib.hid (HO6.out.same hb)
  replace HB := Lib.hid (HB.out.trans (hb.mono HB.out.size))
  clear hb
  go_wp2_with fail
  refine (heldEntryS_any b3 m3 d3 (1) _ (HO3.out.items En.enc_len) (by omega) (by omega)).mono ?_
  rintro e w_15 ⟨rfl, hb⟩
  have hs15 : w_14.heap.size ≤ w_15.heap.size := hb.size
  replace HO0 := Lib.hid (HO0.out.same hb)
  replace HO1 := Lib.hid (HO1.out.same hb)
  replace HO2 := Lib.hid (HO2.out.same hb)
  replace HO3 := Lib.hid (HO3.out.same hb)
  replace HO4 := Lib.hid (HO4.out.same hb)
  replace HO5 := Lib.hid (HO5.out.same hb)
  replace HO6 := Lib.hid (HO6.out.same hb)
  replace HB := Lib.hid (HB.out.trans (hb.mono HB.out.size))
  clear hb
  go_wp2_with fail
  go_ret
  exact ⟨rfl, HB.out⟩

set_option maxRecDepth 100000 in
theorem lifted (os : Os) (started : os.Started) (H : Type) (enc : TypeId × Value → H) :
    ReturnsInHanded {} Try.checked os 8 .any (Rows.fnExactRetireTagSpec.pre6 enc Try.prog Try.f8 Rows.fnExactRetireTagRow.domain false) (Rows.fnExactRetireTagSpec.post enc Try.prog Try.f8 false true false false) := by
  refine returnsInHanded_of_change (C := Try.checked) own started (by kernel_rfl) Try.func8
    (ChangeSpec.witness6 (enc := enc) (C := Try.checked) false ⟨#[], #[.slice none 0 0, .int .i64 0], []⟩ 8 (by kernel_rfl) (by kernel_rfl) (by kernel_rfl) (by kernel_rfl)) ?_
  intro W base args ds gs before hval0 hW hcnd _
  have hval : ∀ (j : Nat) t v, Try.f8.params[j]? = some t → args[j]? = some v → Value.okWide Try.prog W .any base t v := hval0
  have hW' := hW
  obtain ⟨p, q, hA0, hV, rfl, hfz, hnd⟩ := hW
  have hA : DataW.TrodAll enc Try.prog W 0 (fun _ => true) true Try.f8.params.toList args.toList ds p := hA0
  rw [Try.params8] at hA hval
  obtain ⟨v0, vs0, d0, ds0, p0, q0, hargs, rfl, rfl, h0, r0⟩ := trodAll_cons hA
  obtain ⟨v1, vs1, d1, ds1, p1, q1, rfl, rfl, rfl, h1, r1⟩ := trodAll_cons r0
  obtain ⟨rfl, rfl, rfl⟩ := trodAll_nil r1
  obtain rfl : args = #[v0, v1] := by cases args; simp_all
  obtain ⟨rfl, rfl⟩ := trodVars_none hV
  have h0k := h0
  have hlt0 : ∀ x ∈ p0, x.block < W.heap.size := fun x hx => by simpa using hW'.lt x (by simp [hx])
  obtain ⟨a0, n0, c0, l0, rfl, K0, F0, R0⟩ := open_ens Try.underlying58 Try.underlying100 (by kernel_rfl) (by kernel_rfl) Try.underlying3 Try.underlying3 Try.underlying4 (hval 0 58 v0 rfl rfl) h0
  obtain ⟨a1, rfl, rfl, rfl, w1⟩ := open_int Try.underlying3 (hval 1 3 v1 rfl rfl) h1
  clear hA0 hval0
  simp only [List.append_nil] at hW'
  refine (walk a0 n0 c0 l0 a1 w1 W K0 F0 R0).mono fun e W' ⟨he, hb⟩ => ?_
  subst he
  exact ⟨_, rfl, ⟨_, _, _, [], _, [], hW', (trodAll_cons_mk (shut_bool Try.underlying4 _) trodAll_mk0), (trodAll_cons_mk (Below.trod laidOut (by kernel_rfl) (of_decide_eq_true (by kernel_rfl)) h0k hb hlt0) (trodAll_cons_mk (shut_int Try.underlying3 w1) trodAll_mk0)), rfl, hb.frame _, fun h => by cases h⟩⟩

theorem over : Rows.fnExactRetireTagRow.holds Try.pinned (OpenSpec.ofChange Rows.fnExactRetireTagSpec) :=
  OpenClaim.holds_of_wide 8 Try.f8 rfl rfl rfl rfl rfl rfl rfl ⟨rfl, rfl, rfl, rfl, rfl⟩ rfl rfl rfl rfl rfl (by kernel_rfl) Try.func8 (by kernel_rfl)
    (of_decide_eq_true (by kernel_rfl)) (by unfold Func.isWrapper; first | (rw [if_pos (by decide +kernel)]; kernel_rfl) | (rw [if_neg (by decide +kernel)]; exact ⟨rfl, rfl⟩))
    (fun os started H enc _ => lifted os started H enc)

theorem proved : Rows.FnExactRetireTagSaid :=
  over
end Go.Proofs.Ytjmabidahofbbaa.fnExactRetireTag
