/- For every list of machines: whether each follows the one before it, as in the model. -/
import Derived.Test.YtckmgbobkffabaaG35
import Derived.Test.YtckmgbobkffabaaG33
import Derived.Test.YtckmgbobkffabaaG10
import Derived.WalkKit
import Derived.Deep.RegionHeld3
import Derived.ProofKit
import Derived.OpenShut
namespace Go.Proofs.Ytckmgbobkffabaa.fnExactChainFollows
open Go.ChangeShapes Go.WideShapes Go.ChangeAt Go.RowKit Go.Lib
open Go.ChangeMaps (open_string shut_string)
set_option linter.unusedVariables false

theorem own : ownKnob Try.prog.godebug = none := by kernel_rfl
set_option linter.unusedSimpArgs false

set_option maxHeartbeats 4000000 in
set_option maxRecDepth 100000 in
theorem walk (a0 : Option Addr) (n0 c0 : Nat) (l0 : List Mac) (w : World) (K0 : Macs w a0 n0 l0) (F0 : ∀ x ∈ l0, x.wf) (R0 : n0 ≤ c0 ∧ (c0 : Int) ≤ 9223372036854775807) :
  Calls Try.prog 12 #[.slice a0 n0 c0] w fun e w' => e = .returned (.bool true) ∧ Below w.heap.size w w' := by
 have hfit := K0.fits
 have hlen := K0.len
 by_cases hbig : 1048576 < n0 + partsOf l0
 ·have HS := Lib.hid (szMachineS_no (c := c0) 1048576 K0 (by omega) (by omega) (by omega))
  go_enter Try.func12, Try.ntmps12
  go_wp2_with fail
  refine HS.out.mono ?_
  rintro e w1 ⟨rfl, hb1⟩
  have HB1 := Lib.hid hb1
  clear hb1
  go_wp2_with fail
  go_ret
  exact ⟨rfl, HB1.out⟩
 ·have HK := Lib.hid K0
  have hn : n0 ≤ 1048576 := by omega
  have HP := Lib.hid (fun (x : Mac) (hx : x ∈ l0) => show x.parts ≤ 1048576 by have := partsOf_mem hx; omega)
  have HZ := Lib.hid (fun (x : Mac) (hx : x ∈ l0) (z : Mv) (hz : z ∈ x.moves) => (show Wmv z from ((F0 x hx).2 z hz).2))
  have HP7 := Lib.hid (fun (x : Mac) (hx : x ∈ l0) => show x.parts ≤ 10000000 by have := partsOf_mem hx; omega)
  have HS := Lib.hid (szMachineS_yes (c := c0) 1048576 K0 (by omega) (by omega))
  clear K0 F0 R0
  go_enter Try.func12, Try.ntmps12
  go_wp2_with fail
  refine HS.out.mono ?_
  rintro e w1 ⟨rfl, hb1⟩
  have HB1 := Lib.hid hb1
  clear hb1 HS
  go_wp2_with fail
  refine (toMachineS_any (HK.out.same HB1.out) HP.out hn).mono ?_
  rintro e w2 ⟨a2, n2, c2, rfl, ho2, r2, r2', hb2⟩
  have HO2 := Lib.hid ho2
  have hl2 := ho2.len
  have HB2 : Hid (Below w.heap.size w w2) := Lib.hid (HB1.out.trans (hb2.mono HB1.out.size))
  clear ho2 hb2
  go_wp2_with fail
  refine (specChainFollows_any HO2.out HP7.out (by omega) r2 r2').mono ?_
  rintro e w3 ⟨rfl, hb3⟩
  have HB3 : Hid (Below w.heap.size w w3) := Lib.hid (HB2.out.trans (hb3.mono HB2.out.size))
  clear hb3
  go_wp2_with fail
  refine (toMachineS_any (HK.out.same HB3.out) HP.out hn).mono ?_
  rintro e w4 ⟨a4, n4, c4, rfl, ho4, r4, r4', hb4⟩
  have HO4 := Lib.hid ho4
  have hl4 := ho4.len
  have HB4 : Hid (Below w.heap.size w w4) := Lib.hid (HB3.out.trans (hb4.mono HB3.out.size))
  clear ho4 hb4
  go_wp2_with fail
  refine (chainFollows_any HO4.out HZ.out HP7.out (by omega) r4 r4').mono ?_
  rintro e w5 ⟨rfl, hb5⟩
  have HO5 := Lib.hid (HO4.out.same hb5)
  have HB5 : Hid (Below w.heap.size w w5) := Lib.hid (HB4.out.trans (hb5.mono HB4.out.size))
  clear hb5
  go_wp2_with fail
  refine (toMachineS_any (HK.out.same HB5.out) HP.out hn).mono ?_
  rintro e w6 ⟨a6, n6, c6, rfl, ho6, r6, r6', hb6⟩
  have HO6 := Lib.hid ho6
  have HO56 := Lib.hid (HO5.out.same hb6)
  have HB6 : Hid (Below w.heap.size w w6) := Lib.hid (HB5.out.trans (hb6.mono HB5.out.size))
  clear ho6 hb6
  go_wp2_with fail
  refine (eqMachineS_yes HO56.out HO6.out).mono ?_
  rintro e w7 ⟨rfl, hb7⟩
  have HB7 : Hid (Below w.heap.size w w7) := Lib.hid (HB6.out.trans (hb7.mono HB6.out.size))
  clear hb7
  go_wp2_with fail
  go_ret
  exact ⟨rfl, HB7.out⟩

set_option maxRecDepth 100000 in
theorem lifted (os : Os) (started : os.Started) (H : Type) (enc : TypeId × Value → H) :
  ReturnsInHanded {} Try.checked os 12 .any (Rows.fnExactChainFollowsSpec.pre6 enc Try.prog Try.f12 Rows.fnExactChainFollowsRow.domain false) (Rows.fnExactChainFollowsSpec.post enc Try.prog Try.f12 false true false false) := by
 refine returnsInHanded_of_change (C := Try.checked) own started (by kernel_rfl) Try.func12
  (ChangeSpec.witness6 (enc := enc) (C := Try.checked) false ⟨#[], #[.slice none 0 0], []⟩ 8 (by kernel_rfl) (by kernel_rfl) (by kernel_rfl) (by kernel_rfl)) ?_
 intro W base args ds gs before hval0 hW hcnd _
 have hval : ∀ (j : Nat) t v, Try.f12.params[j]? = some t → args[j]? = some v → Value.okWide Try.prog W .any base t v := hval0
 have hW' := hW
 obtain ⟨p, q, hA0, hV, rfl, hfz, hnd⟩ := hW
 have hA : DataW.TrodAll enc Try.prog W 0 (fun _ => true) true Try.f12.params.toList args.toList ds p := hA0
 rw [Try.params12] at hA hval
 obtain ⟨v0, vs0, d0, ds0, p0, q0, hargs, rfl, rfl, h0, r0⟩ := trodAll_cons hA
 obtain ⟨rfl, rfl, rfl⟩ := trodAll_nil r0
 obtain rfl : args = #[v0] := by cases args; simp_all
 obtain ⟨rfl, rfl⟩ := trodVars_none hV
 have h0k := h0
 have hlt0 : ∀ x ∈ p0, x.block < W.heap.size := fun x hx => by simpa using hW'.lt x (by simp [hx])
 obtain ⟨a0, n0, c0, l0, rfl, K0, F0, R0⟩ := open_macs Try.underlying54 Try.underlying44 (by kernel_rfl) (by kernel_rfl) Try.underlying3 Try.underlying24 Try.underlying4 (by kernel_rfl) Try.underlying42 Try.underlying119 (by kernel_rfl) (by kernel_rfl) Try.underlying3 Try.underlying4 Try.underlying3 Try.underlying3 (hval 0 54 v0 rfl rfl) h0
 clear hA0 hval0
 simp only [List.append_nil] at hW'
 refine (walk a0 n0 c0 l0 W K0 F0 R0).mono fun e W' ⟨he, hb⟩ => ?_
 subst he
 exact ⟨_, rfl, ⟨_, _, _, [], _, [], hW', (trodAll_cons_mk (shut_bool Try.underlying4 _) trodAll_mk0), (trodAll_cons_mk (Below.trod laidOut (by kernel_rfl) (of_decide_eq_true (by kernel_rfl)) h0k hb hlt0) trodAll_mk0), rfl, hb.frame _, fun h => by cases h⟩⟩

theorem over : Rows.fnExactChainFollowsRow.holds Try.pinned (OpenSpec.ofChange Rows.fnExactChainFollowsSpec) :=
 OpenClaim.holds_of_wide 12 Try.f12 rfl rfl rfl rfl rfl rfl rfl ⟨rfl, rfl, rfl, rfl, rfl⟩ rfl rfl rfl rfl rfl (by kernel_rfl) Try.func12 (by kernel_rfl)
  (of_decide_eq_true (by kernel_rfl)) (by unfold Func.isWrapper; first | (rw [if_pos (by decide +kernel)]; kernel_rfl) | (rw [if_neg (by decide +kernel)]; exact ⟨rfl, rfl⟩))
  (fun os started H enc _ => lifted os started H enc)

theorem proved : Rows.FnExactChainFollowsSaid :=
 over
end Go.Proofs.Ytckmgbobkffabaa.fnExactChainFollows
