/- IsAnswer: the program answers as its model. -/
import Derived.Test.YtcpnchjgklemgaaG20
import Derived.Test.YtcpnchjgklemgaaG25
import Derived.Test.YtcpnchjgklemgaaG1
import Derived.WalkKit
import Derived.Deep.RegionHeld3
import Derived.ProofKit
import Derived.OpenShut
namespace Go.Proofs.Ytcpnchjgklemgaa.fnExactIsAnswer
open Go.ChangeShapes Go.WideShapes Go.ChangeAt Go.RowKit Go.Lib
open Go.ChangeMaps (open_string shut_string)
set_option linter.unusedVariables false

theorem own : ownKnob Try.prog.godebug = none := by kernel_rfl
set_option linter.unusedSimpArgs false

set_option maxHeartbeats 4000000 in
set_option maxRecDepth 100000 in
theorem walk (v0 : Value) (x0 : Ans) (w : World) (K0 : AnsW w v0 x0) (F0 : x0.wf) :
    Calls Try.prog 5 #[v0] w fun e w' => e = .returned (.bool true) ∧ Below w.heap.size w w' := by
  obtain ⟨b90, m90, d90, rfl⟩ := K0.shape
  by_cases hbig0 : 1048576 < x0.parts
  · have HB := Lib.hid (alloc_same w (.cells #[.int .i64 x0.ver, .slice b90 m90 d90] 53))
    have HXp0 := Lib.hid (heap_alloc_new w (.cells #[.int .i64 x0.ver, .slice b90 m90 d90] 53 (0, 0)))
    change Hid ((World.alloc w (.cells #[.int .i64 x0.ver, .slice b90 m90 d90] 53)).heap[w.heap.size]? = _) at HXp0
    have hs1 : w.heap.size + 1 ≤ (World.alloc w (.cells #[.int .i64 x0.ver, .slice b90 m90 d90] 53)).heap.size := by simp
    go_enter Try.func5, Try.ntmps5
    obtain ⟨eap0, ebp0, -⟩ := two_cells HXp0.out
    go_wp2_with fail
    clear eap0 ebp0
    generalize hgen : (World.alloc w (.cells #[.int .i64 x0.ver, .slice b90 m90 d90] 53)) = w_1 at *
    clear hgen
    refine (szAnswer_no (1048576) (K0.same HB.out) (by omega) (by omega) (by omega)).mono ?_
    rintro e w' ⟨rfl, hb⟩
    have HB2 := Lib.hid (HB.out.trans (hb.mono HB.out.size))
    go_wp2_with fail
    go_ret
    exact ⟨rfl, HB2.out⟩
  have HK0 := Lib.hid K0
  have hn0 : x0.parts ≤ 1048576 := by omega
  skip
  clear K0 F0
  have HB := Lib.hid (alloc_same w (.cells #[.int .i64 x0.ver, .slice b90 m90 d90] 53))
  have HXp0 := Lib.hid (heap_alloc_new w (.cells #[.int .i64 x0.ver, .slice b90 m90 d90] 53 (0, 0)))
  change Hid ((World.alloc w (.cells #[.int .i64 x0.ver, .slice b90 m90 d90] 53)).heap[w.heap.size]? = _) at HXp0
  have hs1 : w.heap.size + 1 ≤ (World.alloc w (.cells #[.int .i64 x0.ver, .slice b90 m90 d90] 53)).heap.size := by simp
  go_enter Try.func5, Try.ntmps5
  obtain ⟨eap0, ebp0, -⟩ := two_cells HXp0.out
  go_wp2_with fail
  clear eap0 ebp0
  generalize hgen : (World.alloc w (.cells #[.int .i64 x0.ver, .slice b90 m90 d90] 53)) = w_1 at *
  clear hgen
  refine (szAnswer_yes (1048576) (HK0.out.same HB.out) (by omega) (by omega)).mono ?_
  rintro e w_2 ⟨rfl, hb⟩
  have hs2 : w_1.heap.size ≤ w_2.heap.size := hb.size
  replace HXp0 := Lib.hid (((hb).block _ (by omega)).trans HXp0.out)
  replace HB := Lib.hid (HB.out.trans (hb.mono HB.out.size))
  clear hb
  obtain ⟨eap0, ebp0, -⟩ := two_cells HXp0.out
  go_wp2_with fail
  clear eap0 ebp0
  refine (toAnswer_any (HK0.out.same HB.out) (by omega)).mono ?_
  rintro e w_3 ⟨v21, rfl, ho, hb⟩
  have HN21 := Lib.hid ho
  have hs3 : w_2.heap.size ≤ w_3.heap.size := hb.size
  replace HXp0 := Lib.hid (((hb).block _ (by omega)).trans HXp0.out)
  replace HB := Lib.hid (HB.out.trans (hb.mono HB.out.size))
  clear ho
  clear hb
  have HO21 := HN21
  clear HN21
  obtain ⟨b21, m21, d21, rfl⟩ := HO21.out.shape
  obtain ⟨eap0, ebp0, -⟩ := two_cells HXp0.out
  go_wp2_with fail
  clear eap0 ebp0
  refine (specIsAnswer_any HO21.out.ans).mono ?_
  rintro e w_4 ⟨rfl, hb⟩
  have hs4 : w_3.heap.size ≤ w_4.heap.size := hb.size
  replace HO21 := Lib.hid (HO21.out.same hb)
  replace HXp0 := Lib.hid (((hb).block _ (by omega)).trans HXp0.out)
  replace HB := Lib.hid (HB.out.trans (hb.mono HB.out.size))
  clear hb
  clear HO21
  obtain ⟨eap0, ebp0, -⟩ := two_cells HXp0.out
  go_wp2_with fail
  clear eap0 ebp0
  refine (toAnswer_any (HK0.out.same HB.out) (by omega)).mono ?_
  rintro e w_5 ⟨v22, rfl, ho, hb⟩
  have HN22 := Lib.hid ho
  have hs5 : w_4.heap.size ≤ w_5.heap.size := hb.size
  replace HXp0 := Lib.hid (((hb).block _ (by omega)).trans HXp0.out)
  replace HB := Lib.hid (HB.out.trans (hb.mono HB.out.size))
  clear ho
  clear hb
  have HO22 := HN22
  clear HN22
  obtain ⟨b22, m22, d22, rfl⟩ := HO22.out.shape
  have HAL := Lib.hid (alloc_same w_5 (.cells #[.int .i64 x0.ver, .slice b22 m22 d22] 39))
  have HX22 := Lib.hid (heap_alloc_new w_5 (.cells #[.int .i64 x0.ver, .slice b22 m22 d22] 39 (0, 0)))
  change Hid ((World.alloc w_5 (.cells #[.int .i64 x0.ver, .slice b22 m22 d22] 39)).heap[w_5.heap.size]? = _) at HX22
  replace HO22 := Lib.hid (HO22.out.same HAL.out)
  replace HXp0 := Lib.hid (((HAL.out).block _ (by omega)).trans HXp0.out)
  replace HB := Lib.hid (HB.out.trans (HAL.out.mono HB.out.size))
  have hs6 : w_5.heap.size < (World.alloc w_5 (.cells #[.int .i64 x0.ver, .slice b22 m22 d22] 39)).heap.size := by simp
  obtain ⟨eap0, ebp0, -⟩ := two_cells HXp0.out
  obtain ⟨ea22, eb22, -⟩ := two_cells HX22.out
  clear HAL
  go_wp2_with fail
  clear eap0 ebp0 ea22 eb22
  generalize hgen : World.alloc w_5 (.cells #[.int .i64 x0.ver, .slice b22 m22 d22] 39) = w_6 at *
  clear hgen
  refine (isAnswer_any HO22.out.ans).mono ?_
  rintro e w_7 ⟨rfl, hb⟩
  have hs7 : w_6.heap.size ≤ w_7.heap.size := hb.size
  replace HO22 := Lib.hid (HO22.out.same hb)
  replace HXp0 := Lib.hid (((hb).block _ (by omega)).trans HXp0.out)
  replace HX22 := Lib.hid (((hb).block _ (by omega)).trans HX22.out)
  replace HB := Lib.hid (HB.out.trans (hb.mono HB.out.size))
  clear hb
  obtain ⟨eap0, ebp0, -⟩ := two_cells HXp0.out
  obtain ⟨ea22, eb22, -⟩ := two_cells HX22.out
  go_wp2_with fail
  clear eap0 ebp0 ea22 eb22
  have CX22 := Lib.hid (two_cells HX22.out)
  have CXp0 := Lib.hid (two_cells HXp0.out)
  have HBd : Hid (Below w_7.heap.size w_7 w_7.drew) := Lib.hid (Below.refl _ _).drew
  refine wp_region_held_drew (S := fun w9 => w9.cell? ⟨w_5.heap.size, 0, none⟩ = some (.int .i64 x0.ver) ∧ w9.cell? ⟨w_5.heap.size, 1, none⟩ = some (.slice b22 m22 d22) ∧ w9.cell? ⟨w.heap.size, 0, none⟩ = some (.int .i64 x0.ver) ∧ w9.cell? ⟨w.heap.size, 1, none⟩ = some (.slice b90 m90 d90)) (by kernel_rfl) ⟨cell_stay CX22.out.1 HBd.out, cell_stay CX22.out.2.1 HBd.out, cell_stay CXp0.out.1 HBd.out, cell_stay CXp0.out.2.1 HBd.out⟩ (fun hHeld => ?_)
  refine wpAnyH_take (i := 0) (v := ?v4) (by simp only [List.getElem?_toArray, List.getElem?_cons_succ, List.getElem?_cons_zero]; rfl) (by kernel_rfl) (by kernel_rfl) (by kernel_rfl) (by exact fun _ _ _ h => h) (Or.inl ⟨by rfl, fun w9 hS9 => ?hy4⟩) hHeld ?rest4
  case hy4 =>
    dsimp only at hS9
    obtain ⟨z0, z1, z2, z3⟩ := hS9
    go_simp
    try with_reducible rfl
  try simp only [Act.put, List.setIfInBounds_toArray, List.set_cons_zero, List.set_cons_succ]
  refine wpAnyH_take (i := 1) (v := ?v5) (by simp only [List.getElem?_toArray, List.getElem?_cons_succ, List.getElem?_cons_zero]; rfl) (by kernel_rfl) (by kernel_rfl) (by kernel_rfl) (by exact fun _ _ _ h => h) (Or.inl ⟨by rfl, fun w9 hS9 => ?hy5⟩) hHeld ?rest5
  case hy5 =>
    dsimp only at hS9
    obtain ⟨z0, z1, z2, z3⟩ := hS9
    go_simp
    try with_reducible rfl
  try simp only [Act.put, List.setIfInBounds_toArray, List.set_cons_zero, List.set_cons_succ]
  refine wpAnyH_ready (rs := [2]) (by kernel_rfl) (by simp) (AllReadyH.cons (by simp only [List.getElem?_toArray, List.getElem?_cons_succ, List.getElem?_cons_zero]; rfl) (fun K hK => ?_) AllReadyH.nil)
  go_simp
  refine (toAnswer_any (HK0.out.same (HB.out.trans (HBd.out.mono HB.out.size))) (by omega)).mono ?_
  rintro e w1 ⟨b9, rfl, ho1, hb1⟩
  have HB1 : Hid (Below w_7.heap.size w_7 w1) := Lib.hid (HBd.out.trans (hb1.mono HBd.out.size))
  have HO9 := Lib.hid ho1.ans
  clear ho1
  clear hb1
  go_wp2_with fail
  refine hK.out _ _ ⟨cell_stay CX22.out.1 HB1.out, cell_stay CX22.out.2.1 HB1.out, cell_stay CXp0.out.1 HB1.out, cell_stay CXp0.out.2.1 HB1.out⟩ (fun hHeld => ?_)
  clear hK K
  try simp only [Act.put, List.setIfInBounds_toArray, List.set_cons_zero, List.set_cons_succ]
  refine wpAnyH_ready (rs := [3]) (by kernel_rfl) (by simp) (AllReadyH.cons (by simp only [List.getElem?_toArray, List.getElem?_cons_succ, List.getElem?_cons_zero]; rfl) (fun K hK => ?_) AllReadyH.nil)
  go_simp
  refine (eqAnswer_yes (HO22.out.ans.same HB1.out) HO9.out).mono ?_
  rintro e w2 ⟨rfl, hb2⟩
  have HB2 : Hid (Below w_7.heap.size w_7 w2) := Lib.hid (HB1.out.trans (hb2.mono HB1.out.size))
  clear hb2
  go_wp2_with fail
  refine hK.out _ _ ⟨cell_stay CX22.out.1 HB2.out, cell_stay CX22.out.2.1 HB2.out, cell_stay CXp0.out.1 HB2.out, cell_stay CXp0.out.2.1 HB2.out⟩ (fun hHeld => ?_)
  clear hK K
  try simp only [Act.put, List.setIfInBounds_toArray, List.set_cons_zero, List.set_cons_succ]
  refine wpAnyH_take (i := 4) (v := ?v6) (by simp only [List.getElem?_toArray, List.getElem?_cons_succ, List.getElem?_cons_zero]; rfl) (by kernel_rfl) (by kernel_rfl) (by kernel_rfl) (by exact fun _ _ _ h => h) (Or.inl ⟨by rfl, fun w9 hS9 => ?hy6⟩) hHeld ?rest6
  case hy6 =>
    dsimp only at hS9
    obtain ⟨z0, z1, z2, z3⟩ := hS9
    go_simp
    try with_reducible rfl
  try simp only [Act.put, List.setIfInBounds_toArray, List.set_cons_zero, List.set_cons_succ]
  refine wpAnyH_done (by kernel_rfl) ?_ _
  obtain ⟨w_8, hwv⟩ : ∃ u, u = w2 := ⟨w2, rfl⟩
  subst hwv
  have hs8 : w_7.heap.size ≤ w_8.heap.size := HB2.out.size
  replace HO22 := Lib.hid (HO22.out.same HB2.out)
  replace HXp0 := Lib.hid (((HB2.out).block _ (by omega)).trans HXp0.out)
  replace HX22 := Lib.hid (((HB2.out).block _ (by omega)).trans HX22.out)
  replace HB := Lib.hid (HB.out.trans (HB2.out.mono HB.out.size))
  clear CX22 CXp0
  obtain ⟨eap0, ebp0, -⟩ := two_cells HXp0.out
  obtain ⟨ea22, eb22, -⟩ := two_cells HX22.out
  go_wp2_with fail
  clear eap0 ebp0 ea22 eb22
  go_ret
  exact ⟨rfl, HB.out⟩

set_option maxRecDepth 100000 in
theorem lifted (os : Os) (started : os.Started) (H : Type) (enc : TypeId × Value → H) :
    ReturnsInHanded {} Try.checked os 5 .any (Rows.fnExactIsAnswerSpec.pre6 enc Try.prog Try.f5 Rows.fnExactIsAnswerRow.domain false) (Rows.fnExactIsAnswerSpec.post enc Try.prog Try.f5 false true false false) := by
  refine returnsInHanded_of_change (C := Try.checked) own started (by kernel_rfl) Try.func5
    (ChangeSpec.witness6 (enc := enc) (C := Try.checked) false ⟨#[], #[.agg #[.int .i64 0, .slice none 0 0]], []⟩ 8 (by kernel_rfl) (by kernel_rfl) (by kernel_rfl) (by kernel_rfl)) ?_
  intro W base args ds gs before hval0 hW hcnd _
  have hval : ∀ (j : Nat) t v, Try.f5.params[j]? = some t → args[j]? = some v → Value.okWide Try.prog W .any base t v := hval0
  have hW' := hW
  obtain ⟨p, q, hA0, hV, rfl, hfz, hnd⟩ := hW
  have hA : DataW.TrodAll enc Try.prog W 0 (fun _ => true) true Try.f5.params.toList args.toList ds p := hA0
  rw [Try.params5] at hA hval
  obtain ⟨v0, vs0, d0, ds0, p0, q0, hargs, rfl, rfl, h0, r0⟩ := trodAll_cons hA
  obtain ⟨rfl, rfl, rfl⟩ := trodAll_nil r0
  obtain rfl : args = #[v0] := by cases args; simp_all
  obtain ⟨rfl, rfl⟩ := trodVars_none hV
  have h0k := h0
  have hlt0 : ∀ x ∈ p0, x.block < W.heap.size := fun x hx => by simpa using hW'.lt x (by simp [hx])
  obtain ⟨x0, K0, F0⟩ := open_ans Try.underlying53 (by kernel_rfl) (by kernel_rfl) Try.underlying3 Try.underlying3 int_cells Try.underlying46 Try.underlying126 (by kernel_rfl) (by kernel_rfl) Try.underlying3 Try.underlying24 (hval 0 53 v0 rfl rfl) h0
  clear hA0 hval0
  simp only [List.append_nil] at hW'
  refine (walk v0 x0 W K0 F0).mono fun e W' ⟨he, hb⟩ => ?_
  subst he
  exact ⟨_, rfl, ⟨_, _, _, [], _, [], hW', (trodAll_cons_mk (shut_bool Try.underlying4 _) trodAll_mk0), (trodAll_cons_mk (Below.trod laidOut (by kernel_rfl) (of_decide_eq_true (by kernel_rfl)) h0k hb hlt0) trodAll_mk0), rfl, hb.frame _, fun h => by cases h⟩⟩

theorem over : Rows.fnExactIsAnswerRow.holds Try.pinned (OpenSpec.ofChange Rows.fnExactIsAnswerSpec) :=
  OpenClaim.holds_of_wide 5 Try.f5 rfl rfl rfl rfl rfl rfl rfl ⟨rfl, rfl, rfl, rfl, rfl⟩ rfl rfl rfl rfl rfl (by kernel_rfl) Try.func5 (by kernel_rfl)
    (of_decide_eq_true (by kernel_rfl)) (by unfold Func.isWrapper; first | (rw [if_pos (by decide +kernel)]; kernel_rfl) | (rw [if_neg (by decide +kernel)]; exact ⟨rfl, rfl⟩))
    (fun os started H enc _ => lifted os started H enc)

theorem proved : Rows.FnExactIsAnswerSaid :=
  over
end Go.Proofs.Ytcpnchjgklemgaa.fnExactIsAnswer
