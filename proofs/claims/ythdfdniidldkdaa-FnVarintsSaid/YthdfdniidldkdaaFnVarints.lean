/- What is written for an integer is read, and what is read is what is written. No condition. -/
import Derived.Test.YthdfdniidldkdaaRead2
import Derived.Test.YthdfdniidldkdaaEnc3
import Derived.Test.YthdfdniidldkdaaCur3
import Derived.WalkKit
import Derived.Deep.RegionHeld3
import Derived.ProofKit
import Derived.OpenShut
namespace Go.Proofs.Ythdfdniidldkdaa.fnVarints
open Go.ChangeShapes Go.WideShapes Go.ChangeAt Go.RowKit Go.Lib
open Go.ChangeMaps (open_string shut_string)
set_option linter.unusedVariables false

theorem own : ownKnob Try.prog.godebug = none := by kernel_rfl

set_option maxHeartbeats 4000000 in
set_option maxRecDepth 100000 in
theorem walk (a0 : Option Addr) (n0 c0 : Nat) (l0 : List Int) (w : World) (K0 : Nums .u8 w a0 n0 l0) (F0 : ∀ x ∈ l0, (Lit.int .u8 x).wf = true) (R0 : n0 ≤ c0 ∧ (c0 : Int) ≤ 9223372036854775807) :
    Calls Try.prog 3 #[.slice a0 n0 c0] w fun e w' => e = .returned (.bool true) ∧ Below w.heap.size w w' := by
  have hn := K0.fits
  have HK := Lib.hid (code_of K0 (bs_of_wf F0))
  clear K0 F0 R0
  by_cases hbig : 1048576 < n0
  · go_enter Try.func3, Try.ntmps3
    go_wp2_with fail
    refine (big_yes a0 n0 c0 hn hbig _).mono ?_
    rintro e w1 ⟨rfl, rfl⟩
    go_wp2_with fail
    go_ret
    exact ⟨rfl, Below.refl _ _⟩
  go_enter Try.func3, Try.ntmps3
  go_wp2_with fail
  refine (big_no a0 n0 c0 hn hbig _).mono ?_
  rintro e w1 ⟨rfl, rfl⟩
  go_wp2_with fail
  refine (drawAppendUvarint_any a0 n0 c0 _ HK.out).mono ?_
  rintro e w_1 ⟨a1, n1, c1, l, x, rfl, ho1, hB1, hn1, hx, hb1⟩
  have hl1 : l.length = n1 := ho1.len
  have hrd : (¬ (0 ≤ x ∧ x ≤ 1000000000000) ∧ rd (l ++ enc x) (n1 : Int) = none ∧ l ++ enc x = l) ∨ ((0 ≤ x ∧ x ≤ 1000000000000) ∧ rd (l ++ enc x) (n1 : Int) = some (x, (l ++ enc x).length)) := by
    by_cases hin : 0 ≤ x ∧ x ≤ 1000000000000
    · refine Or.inr ⟨hin, ?_⟩
      have := rd_enc l [] x hin.1 hin.2
      rw [List.append_nil, hl1] at this
      rw [this, List.length_append, hl1]
    · refine Or.inl ⟨hin, ?_, ?_⟩
      · rw [enc_out hin, List.append_nil, ← hl1]
        exact rd_end l
      · rw [enc_out hin, List.append_nil]
  have HX := Lib.hid hx
  have HO1 := Lib.hid ho1
  have HB1 := Lib.hid (hB1.append (enc_bs x))
  have HBa := Lib.hid hb1
  have HL1 := Lib.hid hl1
  clear ho1 hB1 hb1 hl1 hx
  go_wp2_with fail
  refine (appendUvarint_any a1 n1 c1 x l _ HO1.out.nums (by omega)).mono ?_
  rintro e w_2 ⟨a2, n2, c2, rfl, ho2, hb2⟩
  have HO2 := Lib.hid ho2
  have HP2 := Lib.hid (HO1.out.same hb2)
  have HBb := Lib.hid (HBa.out.trans (hb2.mono HBa.out.size))
  have HL2 := Lib.hid ho2.len
  clear ho2 hb2
  go_wp2_with fail
  rcases hrd with ⟨hin, hrd, hsame⟩ | ⟨⟨hin0, hin1⟩, hrd⟩
  · have HR := Lib.hid hrd
    have HS := Lib.hid hsame
    clear hrd hsame
    refine (read_none HR.out HO2.out.nums HB1.out HO2.out.room).mono ?_
    rintro e w_3 ⟨rfl, hb3⟩
    have HO3 := Lib.hid (HO2.out.same hb3)
    have HP3 := Lib.hid (HP2.out.same hb3)
    have HBc := Lib.hid (HBb.out.trans (hb3.mono HBb.out.size))
    clear hb3
    rcases (show x < 0 ∨ 1000000000000 < x by omega) with hin' | hin'
    all_goals
      clear hin
      go_wp2_with fail
      refine (sameBytes_yes a2 a1 n2 n1 c2 c1 l _ (by rw [← HS.out]; exact HO3.out.nums) HP3.out.nums).mono ?_
      rintro e w_4 ⟨rfl, hb4⟩
      have HB := Lib.hid (HBc.out.trans (hb4.mono HBc.out.size))
      clear hb4
      go_wp2_with fail
      refine (drawReadUvarint_any a0 n0 c0 _ (HK.out.same HB.out)).mono ?_
      rintro e w_5 ⟨a5, n5, c5, l5, off, rfl, ho5, hB5, hn5, hoff, hb5⟩
      have HO5 := Lib.hid ho5
      have HB5 := Lib.hid hB5
      have HOF := Lib.hid hoff
      have HC := Lib.hid (HB.out.trans (hb5.mono HB.out.size))
      clear ho5 hB5 hb5 hoff HB
      go_wp2_with fail
      cases hr : rd l5 off with
      | none =>
        have HR := Lib.hid hr
        clear hr
        refine (read_none HR.out HO5.out.nums HB5.out HO5.out.room).mono ?_
        rintro e w_6 ⟨rfl, hb6⟩
        have HO6 := Lib.hid (HO5.out.same hb6)
        have HD := Lib.hid (HC.out.trans (hb6.mono HC.out.size))
        clear hb6
        go_wp2_with fail
        refine (specRead_none HR.out HO6.out.nums HB5.out).mono ?_
        rintro e w_7 ⟨rfl, hb7⟩
        have HE := Lib.hid (HD.out.trans (hb7.mono HD.out.size))
        clear hb7
        go_wp2_with fail
        go_ret
        exact ⟨rfl, HE.out⟩
      | some p =>
        obtain ⟨m, j⟩ := p
        obtain ⟨h1, h2, h3, h4, h5, h6, h7⟩ := rd_facts HB5.out hr
        obtain ⟨o, rfl⟩ : ∃ o : Nat, off = o := ⟨off.toNat, by omega⟩
        rw [Int.toNat_natCast] at h6 h7
        have h3' : j ≤ n5 := by rw [← HO5.out.len]; exact h3
        have hroom := HO5.out.room
        obtain ⟨hroom1, hroom2⟩ := hroom
        have H6 := Lib.hid h6
        have HR := Lib.hid hr
        clear hr h3 h6 h7
        refine (read_some HR.out HO5.out.nums HB5.out HO5.out.room).mono ?_
        rintro e w_6 ⟨rfl, hb6⟩
        have HO6 := Lib.hid (HO5.out.same hb6)
        have HD := Lib.hid (HC.out.trans (hb6.mono HC.out.size))
        clear hb6
        have e0 : decide ((0 : Int) ≤ (o : Int)) = true := by simp
        have e1 : decide ((j : Int) ≤ (n5 : Int)) = true := by simp; omega
        have e2 : decide ((o : Int) < (j : Int)) = true := by simp; omega
        have hsub : Nums .u8 w_6 (a5.map (·.add o)) (j - o) (enc m) := by
          rw [← H6.out]
          exact HO6.out.nums.sub o (j - o) (by omega) (fun _ ad e => by rw [e]; rfl)
        have HS := Lib.hid hsub
        clear hsub
        have hoj : o ≤ j := by omega
        have hjc : j ≤ c5 := by omega
        have hoc : ¬ c5 = o := by omega
        go_wp2_with fail
        go_region_held3 (fun w' => Below w_6.heap.size w_6 w') (first | assumption | exact Below.refl _ _ | exact (Below.refl _ _).drew | exact alloc_same _ _ | exact (alloc_same _ _).drew | exact (Below.refl _ _).drew.alloc (Nat.le_refl _) _ | go_keep) ((first | (go_at_call 13; refine (appendUvarint_any _ 0 0 m [] _ Nums.none (by omega)).mono ?_; rintro e w_7 ⟨a7, n7, c7, rfl, ho7, hb7⟩; have HB7 : Below w_6.heap.size w_6 w_7 := by (first | exact (alloc_same _ _).drew.trans (hb7.mono (by simp)) | exact ((Below.refl _ _).drew.alloc (Nat.le_refl _) _).trans (hb7.mono (by simp)))) | (go_at_call 15; refine (sameBytes_yes _ _ n7 (j - o) _ _ (enc m) _ ho7.nums (HS.out.same HB7)).mono ?_; rintro e w_8 ⟨rfl, hb8⟩; have HB8 : Below w_6.heap.size w_6 w_8 := HB7.trans (hb8.mono HB7.size))))
        all_goals
          go_wp2_with fail
          go_ret
          exact ⟨rfl, HD.out.trans (HB8.mono HD.out.size)⟩
  · have HR := Lib.hid hrd
    clear hrd
    have hread := Lib.hid (read_some HR.out HO2.out.nums HB1.out HO2.out.room)
    rw [HL2.out] at hread
    refine hread.out.mono ?_
    rintro e w_3 ⟨rfl, hb3⟩
    have HB := Lib.hid (HBb.out.trans (hb3.mono HBb.out.size))
    clear hb3 hread
    go_wp2_with fail
    refine (drawReadUvarint_any a0 n0 c0 _ (HK.out.same HB.out)).mono ?_
    rintro e w_5 ⟨a5, n5, c5, l5, off, rfl, ho5, hB5, hn5, hoff, hb5⟩
    have HO5 := Lib.hid ho5
    have HB5 := Lib.hid hB5
    have HOF := Lib.hid hoff
    have HC := Lib.hid (HB.out.trans (hb5.mono HB.out.size))
    clear ho5 hB5 hb5 hoff HB
    go_wp2_with fail
    cases hr : rd l5 off with
    | none =>
      have HR := Lib.hid hr
      clear hr
      refine (read_none HR.out HO5.out.nums HB5.out HO5.out.room).mono ?_
      rintro e w_6 ⟨rfl, hb6⟩
      have HO6 := Lib.hid (HO5.out.same hb6)
      have HD := Lib.hid (HC.out.trans (hb6.mono HC.out.size))
      clear hb6
      go_wp2_with fail
      refine (specRead_none HR.out HO6.out.nums HB5.out).mono ?_
      rintro e w_7 ⟨rfl, hb7⟩
      have HE := Lib.hid (HD.out.trans (hb7.mono HD.out.size))
      clear hb7
      go_wp2_with fail
      go_ret
      exact ⟨rfl, HE.out⟩
    | some p =>
      obtain ⟨m, j⟩ := p
      obtain ⟨h1, h2, h3, h4, h5, h6, h7⟩ := rd_facts HB5.out hr
      obtain ⟨o, rfl⟩ : ∃ o : Nat, off = o := ⟨off.toNat, by omega⟩
      rw [Int.toNat_natCast] at h6 h7
      have h3' : j ≤ n5 := by rw [← HO5.out.len]; exact h3
      have hroom := HO5.out.room
      obtain ⟨hroom1, hroom2⟩ := hroom
      have H6 := Lib.hid h6
      have HR := Lib.hid hr
      clear hr h3 h6 h7
      refine (read_some HR.out HO5.out.nums HB5.out HO5.out.room).mono ?_
      rintro e w_6 ⟨rfl, hb6⟩
      have HO6 := Lib.hid (HO5.out.same hb6)
      have HD := Lib.hid (HC.out.trans (hb6.mono HC.out.size))
      clear hb6
      have e0 : decide ((0 : Int) ≤ (o : Int)) = true := by simp
      have e1 : decide ((j : Int) ≤ (n5 : Int)) = true := by simp; omega
      have e2 : decide ((o : Int) < (j : Int)) = true := by simp; omega
      have hsub : Nums .u8 w_6 (a5.map (·.add o)) (j - o) (enc m) := by
        rw [← H6.out]
        exact HO6.out.nums.sub o (j - o) (by omega) (fun _ ad e => by rw [e]; rfl)
      have HS := Lib.hid hsub
      clear hsub
      have hoj : o ≤ j := by omega
      have hjc : j ≤ c5 := by omega
      have hoc : ¬ c5 = o := by omega
      go_wp2_with fail
      go_region_held3 (fun w' => Below w_6.heap.size w_6 w') (first | assumption | exact Below.refl _ _ | exact (Below.refl _ _).drew | exact alloc_same _ _ | exact (alloc_same _ _).drew | exact (Below.refl _ _).drew.alloc (Nat.le_refl _) _ | go_keep) ((first | (go_at_call 13; refine (appendUvarint_any _ 0 0 m [] _ Nums.none (by omega)).mono ?_; rintro e w_7 ⟨a7, n7, c7, rfl, ho7, hb7⟩; have HB7 : Below w_6.heap.size w_6 w_7 := by (first | exact (alloc_same _ _).drew.trans (hb7.mono (by simp)) | exact ((Below.refl _ _).drew.alloc (Nat.le_refl _) _).trans (hb7.mono (by simp)))) | (go_at_call 15; refine (sameBytes_yes _ _ n7 (j - o) _ _ (enc m) _ ho7.nums (HS.out.same HB7)).mono ?_; rintro e w_8 ⟨rfl, hb8⟩; have HB8 : Below w_6.heap.size w_6 w_8 := HB7.trans (hb8.mono HB7.size))))
      all_goals
        go_wp2_with fail
        go_ret
        exact ⟨rfl, HD.out.trans (HB8.mono HD.out.size)⟩

set_option maxRecDepth 100000 in
theorem lifted (os : Os) (started : os.Started) (H : Type) (enc : TypeId × Value → H) :
    ReturnsInHanded {} Try.checked os 3 .any (Rows.fnVarintsSpec.pre6 enc Try.prog Try.f3 Rows.fnVarintsRow.domain false) (Rows.fnVarintsSpec.post enc Try.prog Try.f3 false true false false) := by
  refine returnsInHanded_of_change (C := Try.checked) own started (by kernel_rfl) Try.func3
    (ChangeSpec.witness6 (enc := enc) (C := Try.checked) false ⟨#[], #[.slice none 0 0], []⟩ 8 (by kernel_rfl) (by kernel_rfl) (by kernel_rfl) (by kernel_rfl)) ?_
  intro W base args ds gs before hval0 hW hcnd _
  have hval : ∀ (j : Nat) t v, Try.f3.params[j]? = some t → args[j]? = some v → Value.okWide Try.prog W .any base t v := hval0
  have hW' := hW
  obtain ⟨p, q, hA0, hV, rfl, hfz, hnd⟩ := hW
  have hA : DataW.TrodAll enc Try.prog W 0 (fun _ => true) true Try.f3.params.toList args.toList ds p := hA0
  rw [Try.params3] at hA hval
  obtain ⟨v0, vs0, d0, ds0, p0, q0, hargs, rfl, rfl, h0, r0⟩ := trodAll_cons hA
  obtain ⟨rfl, rfl, rfl⟩ := trodAll_nil r0
  obtain rfl : args = #[v0] := by cases args; simp_all
  obtain ⟨rfl, rfl⟩ := trodVars_none hV
  have h0k := h0
  have hlt0 : ∀ x ∈ p0, x.block < W.heap.size := fun x hx => by simpa using hW'.lt x (by simp [hx])
  obtain ⟨a0, n0, c0, l0, rfl, K0, F0, R0⟩ := open_nums Try.underlying22 Try.underlying5 byte_cells (hval 0 22 v0 rfl rfl) h0
  clear hA0 hval0
  simp only [List.append_nil] at hW'
  refine (walk a0 n0 c0 l0 W K0 F0 R0).mono fun e W' ⟨he, hb⟩ => ?_
  subst he
  exact ⟨_, rfl, ⟨_, _, _, [], _, [], hW', (trodAll_cons_mk (shut_bool Try.underlying4 _) trodAll_mk0), (trodAll_cons_mk (Below.trod laidOut (by kernel_rfl) (of_decide_eq_true (by kernel_rfl)) h0k hb hlt0) trodAll_mk0), rfl, hb.frame _, fun h => by cases h⟩⟩

theorem over : Rows.fnVarintsRow.holds Try.pinned (OpenSpec.ofChange Rows.fnVarintsSpec) :=
  OpenClaim.holds_of_wide 3 Try.f3 rfl rfl rfl rfl rfl rfl rfl ⟨rfl, rfl, rfl, rfl, rfl⟩ rfl rfl rfl rfl rfl (by kernel_rfl) Try.func3 (by kernel_rfl)
    (of_decide_eq_true (by kernel_rfl)) (by unfold Func.isWrapper; first | (rw [if_pos (by decide +kernel)]; kernel_rfl) | (rw [if_neg (by decide +kernel)]; exact ⟨rfl, rfl⟩))
    (fun os started H enc _ => lifted os started H enc)

theorem proved : Rows.FnVarintsSaid :=
  over
end Go.Proofs.Ythdfdniidldkdaa.fnVarints
