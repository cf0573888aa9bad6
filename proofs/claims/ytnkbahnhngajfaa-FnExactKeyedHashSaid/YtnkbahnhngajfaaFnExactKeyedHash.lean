/- For every key and list of integers: the keyed hash is the model's. -/
import Derived.Test.YtnkbahnhngajfaaIntS
import Derived.Test.YtnkbahnhngajfaaHash2
import Derived.Test.YtnkbahnhngajfaaOpen
import Derived.WalkKit
import Derived.Deep.RegionHeld3
import Derived.ProofKit
import Derived.OpenShut
namespace Go.Proofs.Ytnkbahnhngajfaa.fnExactKeyedHash
open Go.ChangeShapes Go.WideShapes Go.ChangeAt Go.RowKit Go.Lib
open Go.ChangeMaps (open_string shut_string)
set_option linter.unusedVariables false

theorem own : ownKnob Try.prog.godebug = none := by kernel_rfl

set_option maxHeartbeats 4000000 in
set_option maxRecDepth 100000 in
theorem walk (a0 : Int) (w0 : (Lit.int .i64 a0).wf = true) (a1 : Option Addr) (n1 c1 : Nat) (l1 : List Int) (w : World) (K1 : Nums .i64 w a1 n1 l1) (F1 : ∀ x ∈ l1, (Lit.int .i64 x).wf = true) (R1 : n1 ≤ c1 ∧ (c1 : Int) ≤ 9223372036854775807) :
    Calls Try.prog 6 #[.int .i64 a0, .slice a1 n1 c1] w fun e w' => e = .returned (.bool true) ∧ Below w.heap.size w w' := by
  have hfit1 := K1.fits
  by_cases hbig1 : 1048576 < n1
  · go_enter Try.func6, Try.ntmps6
    go_wp2
    go_ret
    exact ⟨rfl, Below.refl _ _⟩
  have HK1 := Lib.hid K1
  have HR1 := Lib.hid R1
  have hn1 : n1 ≤ 1048576 := by omega
  have HF1 := Lib.hid F1
  have HB := Lib.hid (Below.refl w.heap.size w)
  clear K1 F1 R1
  go_enter Try.func6, Try.ntmps6
  go_wp2_with fail
  refine (toIntS_any a1 n1 c1 l1 _ (HK1.out.same HB.out) (by omega)).mono ?_
  rintro e w_1 ⟨b0, m0, d0, rfl, ho, hb⟩
  have hm0 : m0 ≤ 1000000000 := by have hl := ho.len; have := HK1.out.len;  omega
  have hs1 : w.heap.size ≤ w_1.heap.size := hb.size
  have HS0 := Lib.hid ho.span
  have HO0 := Lib.hid ho
  replace HB := Lib.hid (HB.out.trans (hb.mono HB.out.size))
  clear ho hb
  go_wp2_with fail
  refine (specKeyedHash_any a0 b0 m0 d0 l1 _ w0 HO0.out.nums (by omega) HF1.out).mono ?_
  rintro e w_2 ⟨rfl, hb⟩
  have hs2 : w_1.heap.size ≤ w_2.heap.size := hb.size
  replace HO0 := Lib.hid (HO0.out.same hb)
  replace HB := Lib.hid (HB.out.trans (hb.mono HB.out.size))
  clear hb
  go_wp2_with fail
  refine (toIntS_any a1 n1 c1 l1 _ (HK1.out.same HB.out) (by omega)).mono ?_
  rintro e w_3 ⟨b1, m1, d1, rfl, ho, hb⟩
  have hm1 : m1 ≤ 1000000000 := by have hl := ho.len; have := HK1.out.len;  omega
  have hs3 : w_2.heap.size ≤ w_3.heap.size := hb.size
  have HS1 := Lib.hid ho.span
  have HO1 := Lib.hid ho
  replace HO0 := Lib.hid (HO0.out.same hb)
  replace HB := Lib.hid (HB.out.trans (hb.mono HB.out.size))
  clear ho hb
  go_wp2_with fail
  refine (keyedHash_any a0 b1 m1 d1 l1 _ w0 HO1.out.nums HF1.out).mono ?_
  rintro e w_4 ⟨rfl, hb⟩
  have hs4 : w_3.heap.size ≤ w_4.heap.size := hb.size
  replace HO0 := Lib.hid (HO0.out.same hb)
  replace HO1 := Lib.hid (HO1.out.same hb)
  replace HB := Lib.hid (HB.out.trans (hb.mono HB.out.size))
  clear hb
  go_wp2_with fail
  refine (toIntS_any a1 n1 c1 l1 _ (HK1.out.same HB.out) (by omega)).mono ?_
  rintro e w_5 ⟨b2, m2, d2, rfl, ho, hb⟩
  have hm2 : m2 ≤ 1000000000 := by have hl := ho.len; have := HK1.out.len;  omega
  have hs5 : w_4.heap.size ≤ w_5.heap.size := hb.size
  have HS2 := Lib.hid ho.span
  have HO2 := Lib.hid ho
  replace HO0 := Lib.hid (HO0.out.same hb)
  replace HO1 := Lib.hid (HO1.out.same hb)
  replace HB := Lib.hid (HB.out.trans (hb.mono HB.out.size))
  clear ho hb
  go_wp2_with fail
  refine (eqIntS_yes b1 b2 m1 m2 d1 d2 l1 _ HO1.out.nums HO2.out.nums).mono ?_
  rintro e w_6 ⟨rfl, hb⟩
  have hs6 : w_5.heap.size ≤ w_6.heap.size := hb.size
  replace HO0 := Lib.hid (HO0.out.same hb)
  replace HO1 := Lib.hid (HO1.out.same hb)
  replace HO2 := Lib.hid (HO2.out.same hb)
  replace HB := Lib.hid (HB.out.trans (hb.mono HB.out.size))
  clear hb
  go_wp2_with fail
  go_ret
  exact ⟨rfl, HB.out⟩

set_option maxRecDepth 100000 in
theorem lifted (os : Os) (started : os.Started) (H : Type) (enc : TypeId × Value → H) :
    ReturnsInHanded {} Try.checked os 6 .any (Rows.fnExactKeyedHashSpec.pre6 enc Try.prog Try.f6 Rows.fnExactKeyedHashRow.domain false) (Rows.fnExactKeyedHashSpec.post enc Try.prog Try.f6 false true false false) := by
  refine returnsInHanded_of_change (C := Try.checked) own started (by kernel_rfl) Try.func6
    (ChangeSpec.witness6 (enc := enc) (C := Try.checked) false ⟨#[], #[.int .i64 0, .slice none 0 0], []⟩ 8 (by kernel_rfl) (by kernel_rfl) (by kernel_rfl) (by kernel_rfl)) ?_
  intro W base args ds gs before hval0 hW hcnd _
  have hval : ∀ (j : Nat) t v, Try.f6.params[j]? = some t → args[j]? = some v → Value.okWide Try.prog W .any base t v := hval0
  have hW' := hW
  obtain ⟨p, q, hA0, hV, rfl, hfz, hnd⟩ := hW
  have hA : DataW.TrodAll enc Try.prog W 0 (fun _ => true) true Try.f6.params.toList args.toList ds p := hA0
  rw [Try.params6] at hA hval
  obtain ⟨v0, vs0, d0, ds0, p0, q0, hargs, rfl, rfl, h0, r0⟩ := trodAll_cons hA
  obtain ⟨v1, vs1, d1, ds1, p1, q1, rfl, rfl, rfl, h1, r1⟩ := trodAll_cons r0
  obtain ⟨rfl, rfl, rfl⟩ := trodAll_nil r1
  obtain rfl : args = #[v0, v1] := by cases args; simp_all
  obtain ⟨rfl, rfl⟩ := trodVars_none hV
  obtain ⟨a0, rfl, rfl, rfl, w0⟩ := open_int Try.underlying3 (hval 0 3 v0 rfl rfl) h0
  have h1k := h1
  have hlt1 : ∀ x ∈ p1, x.block < W.heap.size := fun x hx => by simpa using hW'.lt x (by simp [hx])
  obtain ⟨a1, n1, c1, l1, rfl, K1, F1, R1⟩ := open_nums Try.underlying28 Try.underlying3 int_cells (hval 1 28 v1 rfl rfl) h1
  clear hA0 hval0
  simp only [List.append_nil] at hW'
  refine (walk a0 w0 a1 n1 c1 l1 W K1 F1 R1).mono fun e W' ⟨he, hb⟩ => ?_
  subst he
  exact ⟨_, rfl, ⟨_, _, _, [], _, [], hW', (trodAll_cons_mk (shut_bool Try.underlying4 _) trodAll_mk0), (trodAll_cons_mk (shut_int Try.underlying3 w0) (trodAll_cons_mk (Below.trod laidOut (by kernel_rfl) (of_decide_eq_true (by kernel_rfl)) h1k hb hlt1) trodAll_mk0)), rfl, hb.frame _, fun h => by cases h⟩⟩

theorem over : Rows.fnExactKeyedHashRow.holds Try.pinned (OpenSpec.ofChange Rows.fnExactKeyedHashSpec) :=
  OpenClaim.holds_of_wide 6 Try.f6 rfl rfl rfl rfl rfl rfl rfl ⟨rfl, rfl, rfl, rfl, rfl⟩ rfl rfl rfl rfl rfl (by kernel_rfl) Try.func6 (by kernel_rfl)
    (of_decide_eq_true (by kernel_rfl)) (by unfold Func.isWrapper; first | (rw [if_pos (by decide +kernel)]; kernel_rfl) | (rw [if_neg (by decide +kernel)]; exact ⟨rfl, rfl⟩))
    (fun os started H enc _ => lifted os started H enc)

theorem proved : Rows.FnExactKeyedHashSaid :=
  over
end Go.Proofs.Ytnkbahnhngajfaa.fnExactKeyedHash
