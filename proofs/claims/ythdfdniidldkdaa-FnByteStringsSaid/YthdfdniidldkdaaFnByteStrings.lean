/- Byte strings and lists of integers are read as they were written. No condition. -/
import Derived.Test.YthdfdniidldkdaaRead4
import Derived.Test.YthdfdniidldkdaaDec2
import Derived.Test.YthdfdniidldkdaaEnc3
import Derived.Test.YthdfdniidldkdaaCur3
import Derived.WalkKit
import Derived.Deep.RegionHeld3
import Derived.ProofKit
import Derived.OpenShut
namespace Go.Proofs.Ythdfdniidldkdaa.fnByteStrings
open Go.ChangeShapes Go.WideShapes Go.ChangeAt Go.RowKit Go.Lib
open Go.ChangeMaps (open_string shut_string)
set_option linter.unusedVariables false

theorem own : ownKnob Try.prog.godebug = none := by kernel_rfl

theorem prods (x y z : Nat) (hx : x ≤ 255) (hy : y ≤ 255) (hz : z ≤ 255) : ∃ u v : Int, wrap64 ((x : Int) * (y : Int)) = u ∧ wrap64 (u * (z : Int)) = v ∧ 0 ≤ v ∧ v ≤ 16581375 := by
  have h1 := Nat.mul_le_mul hx hy
  have h2 := Nat.mul_le_mul h1 hz
  refine ⟨((x * y : Nat) : Int), ((x * y * z : Nat) : Int), ?_, ?_, by omega, by omega⟩
  · rw [← Int.natCast_mul]; exact IntWalk.wrap64_in _ (by omega)
  · rw [← Int.natCast_mul]; exact IntWalk.wrap64_in _ (by omega)
theorem rdBytes_enc (l l' : List Int) (h : l'.length ≤ 1000000000000) : rdBytes (l ++ (enc (l'.length : Int) ++ l')) (l.length : Int) (l'.length : Int) = some (l', (l ++ (enc (l'.length : Int) ++ l')).length) := by
  have h1 := rd_enc l l' (l'.length : Int) (by omega) (by omega)
  rw [rdBytes_yes h1 (by simp only [List.length_append]; omega), Int.toNat_natCast]
  congr 2
  · rw [← List.append_assoc, ← List.length_append, List.drop_left, List.take_length]
  · simp only [List.length_append]; omega
theorem rdBytes_short (l l' : List Int) (h : l'.length ≤ 1000000000000) : rdBytes (l ++ (enc (l'.length : Int) ++ l')) (l.length : Int) ((l'.length : Int) - 1) = none :=
  rdBytes_no (rd_enc l l' (l'.length : Int) (by omega) (by omega)) (by omega)

set_option maxHeartbeats 4000000 in
set_option maxRecDepth 100000 in
theorem walk (a0 : Option Addr) (n0 c0 : Nat) (l0 : List Int) (w : World) (K0 : Nums .u8 w a0 n0 l0) (F0 : ∀ x ∈ l0, (Lit.int .u8 x).wf = true) (R0 : n0 ≤ c0 ∧ (c0 : Int) ≤ 9223372036854775807) :
    Calls Try.prog 4 #[.slice a0 n0 c0] w fun e w' => e = .returned (.bool true) ∧ Below w.heap.size w w' := by
  have hn := K0.fits
  have HK := Lib.hid (code_of K0 (bs_of_wf F0))
  clear K0 F0 R0
  by_cases hbig : 1048576 < n0
  · go_enter Try.func4, Try.ntmps4
    go_wp2_with fail
    refine (big_yes a0 n0 c0 hn hbig _).mono ?_
    rintro e w1 ⟨rfl, rfl⟩
    go_wp2_with fail
    go_ret
    exact ⟨rfl, Below.refl _ _⟩
  obtain ⟨i0, hi, hz0, hz1, hz2⟩ := info_parts infoIntS
  have HI := Lib.hid (And.intro hi (And.intro hz0 (And.intro hz1 hz2)))
  clear hi hz0 hz1 hz2
  go_enter Try.func4, Try.ntmps4
  go_wp2_with fail
  refine (big_no a0 n0 c0 hn hbig _).mono ?_
  rintro e w1 ⟨rfl, rfl⟩
  go_wp2_with fail
  refine (drawAppendBytes_any a0 n0 c0 _ HK.out).mono ?_
  rintro e w_1 ⟨a1, n1, c1, l, b1, m1, d1, l', rfl, ho1, hB1, hn1, hq1, hB1', hm1, hb1⟩
  have hl1 : l.length = n1 := ho1.len
  have hl2 : l'.length = m1 := hq1.len
  have hB := (hB1.append ((enc_bs (l'.length : Int)).append hB1'))
  have h1 := rdBytes_enc l l' (by omega)
  have h2 := rdBytes_short l l' (by omega)
  have HO1 := Lib.hid ho1
  have HQ1 := Lib.hid hq1
  have HB1 := Lib.hid hB
  have HBa := Lib.hid hb1
  have HL1 := Lib.hid hl1
  have HL2 := Lib.hid hl2
  have HR1 := Lib.hid h1
  have HR2 := Lib.hid h2
  clear ho1 hq1 hB1 hB1' hB hb1 hl1 hl2 h1 h2
  go_wp2_with fail
  refine (appendBytes_len a1 b1 n1 c1 m1 d1 l l' _ HO1.out.nums HQ1.out.nums (by omega) (by omega)).mono ?_
  rintro e w_2 ⟨a2, n2, c2, rfl, ho2, hb2⟩
  have HO2 := Lib.hid ho2
  have HQ2 := Lib.hid (HQ1.out.same hb2)
  have HBb := Lib.hid (HBa.out.trans (hb2.mono HBa.out.size))
  have HL3 := Lib.hid ho2.len
  clear ho2 hb2
  have HC1 : Hid (rdBytes (l ++ (enc (l'.length : Int) ++ l')) (n1 : Int) (m1 : Int) = some (l', n2)) := by
    refine Lib.hid ?_
    have := HR1.out
    rw [HL1.out, HL2.out] at this
    rw [HL2.out, this]
    have h3 := HL3.out
    rw [HL2.out] at h3
    rw [h3]
  have HC2 : Hid (rdBytes (l ++ (enc (l'.length : Int) ++ l')) (n1 : Int) ((m1 : Int) - 1) = none) := by
    refine Lib.hid ?_
    have := HR2.out
    rw [HL1.out, HL2.out] at this
    rw [HL2.out, this]
  go_wp2_with fail
  refine (readBytes_case HC1.out HO2.out.nums HB1.out HO2.out.room).mono ?_
  rintro e w_3 ⟨a3, n3, c3, rfl, ho3, hb3⟩
  have HO3 := Lib.hid (HO2.out.same hb3)
  have HQ3 := Lib.hid (HQ2.out.same hb3)
  have HP3 := Lib.hid ho3
  have HBc := Lib.hid (HBb.out.trans (hb3.mono HBb.out.size))
  clear ho3 hb3
  go_wp2_with fail
  refine (readBytes_case HC2.out HO3.out.nums HB1.out HO3.out.room).mono ?_
  rintro e w_4 ⟨a4, n4, c4, rfl, ho4, hb4⟩
  have HQ4 := Lib.hid (HQ3.out.same hb4)
  have HP4 := Lib.hid (HP3.out.same hb4)
  have HBd := Lib.hid (HBc.out.trans (hb4.mono HBc.out.size))
  clear ho4 hb4
  go_wp2_with fail
  refine (sameBytes_yes a3 b1 n3 m1 c3 d1 l' _ HP4.out.nums HQ4.out.nums).mono ?_
  rintro e w_5 ⟨rfl, hb5⟩
  have hs5 : w.heap.size ≤ w_5.heap.size := Nat.le_trans HBd.out.size hb5.size
  have HBe := Lib.hid (HBd.out.trans (hb5.mono HBd.out.size))
  clear hb5
  go_wp2_with fail
  go_loopw [12, 13] (fun v i wr => ∃ (a' : Option Addr) (n' c' j : Nat) (zs : List Int), v = .slice a' n' c' ∧ i = .int .i64 j ∧ j ≤ 5 ∧ n' ≤ j ∧ Own .i64 3 wr w_5.heap.size a' n' c' zs ∧ (∀ z ∈ zs, 0 ≤ z ∧ z ≤ 1000000000000) ∧ Below w_5.heap.size w_5 wr) (fun _ i _ => 5 - (intOf i).toNat)
  case atStart => exact ⟨_, 0, 0, 0, [], rfl, rfl, by omega, Nat.le_refl _, Own.empty (Nat.le_refl _), (fun _ h => by cases h), alloc_same _ _⟩
  case round =>
    obtain ⟨a', n', c', j, zs, rfl, rfl, hj, hnj, ho, hz, hb⟩ := hrel
    have hsz : w_5.heap.size ≤ wr.heap.size := hb.size
    have HO := Lib.hid ho
    have HZ := Lib.hid hz
    have HG := Lib.hid (HBe.out.trans (hb.mono HBe.out.size))
    have HB := Lib.hid hb
    clear ho hz hb
    go_wp2_with fail
    refine (at_any a0 n0 c0 0 (by omega) _ (HK.out.same HG.out) (by omega)).mono ?_
    rintro e w6 ⟨q, hq, rfl, rfl⟩
    by_cases hlt : (j : Int) < (q : Int) % 6
    · go_wp2_with fail
      refine (at_any a0 n0 c0 (j + 1) (by omega) _ (HK.out.same HG.out) (by omega)).mono ?_
      rintro e w6 ⟨x, hx, rfl, rfl⟩
      go_wp2_with fail
      refine (at_any a0 n0 c0 (j + 2) (by omega) _ (HK.out.same HG.out) (by omega)).mono ?_
      rintro e w6 ⟨y, hy, rfl, rfl⟩
      go_wp2_with fail
      refine (at_any a0 n0 c0 (j + 3) (by omega) _ (HK.out.same HG.out) (by omega)).mono ?_
      rintro e w6 ⟨z, hz, rfl, rfl⟩
      obtain ⟨u, v, hu, hv, hv0, hv1⟩ := prods x y z hx hy hz
      go_wp2_with (at_builtin; refine wpl_app _ rfl (.tmp 77) (.tmp 92) 35 rfl .i64 3 i0 (.int .i64 0) 8 Try.underlying35 HI.out.1 HI.out.2.1 HI.out.2.2.1 HI.out.2.2.2 rfl rfl (HO.out.alloc _) rfl (nums_new _ _ _ _) (by omega) ?c1 ?c2 ?_)
      case c1 => omega
      case c2 => simp; omega
      intro a7 c7 w7 ho7 hb7
      have HO7 := Lib.hid ho7
      have HB7 := Lib.hid (HB.out.trans (((alloc_same _ _).mono hsz).trans hb7))
      clear ho7 hb7 hu hv
      go_wp2
      go_roundw
      case rel =>
        refine ⟨a7, n' + 1, c7, j + 1, _, rfl, by go_num, by omega, by omega, HO7.out, ?_, HB7.out⟩
        intro t ht
        rcases List.mem_append.1 ht with ht | ht
        · exact HZ.out t ht
        · simp at ht
          subst ht
          exact ⟨by omega, by omega⟩
      case measure => simp [intOf]; omega
    · have hlz : zs.length = n' := HO.out.len
      have HLZ := Lib.hid hlz
      clear hlz
      go_wp2_with fail
      refine (encodeInts_any a' n' c' zs _ HO.out.nums (by omega)).mono ?_
      rintro e w_6 ⟨a6, n6, c6, rfl, ho6, hb6⟩
      have HO6 := Lib.hid ho6
      have HQ6 := Lib.hid (HO.out.same hb6)
      have HG6 := Lib.hid (HG.out.trans (hb6.mono HG.out.size))
      have HL6 := Lib.hid ho6.len
      clear ho6 hb6
      have HD1 : Hid (decs (encs zs) 0 (n' : Int) = some (zs, (n6 : Int))) := by
        refine Lib.hid ?_
        rw [decs_in (by omega) (by omega) (by omega), ← HLZ.out, decK_all zs HZ.out, HL6.out]
      have HD2 : Hid (decs (encs zs) 0 ((n' : Int) + 1) = none) := by
        refine Lib.hid ?_
        rw [show (n' : Int) + 1 = ((n' + 1 : Nat) : Int) by omega, decs_in (by omega) (by omega) (by omega), ← HLZ.out, decK_more zs HZ.out]
      go_wp2_with fail
      refine (decodeInts_case HD1.out HO6.out.nums (encs_bs zs) HO6.out.room).mono ?_
      rintro e w_7 ⟨a7, n7, c7, rfl, ho7, hb7⟩
      have HO7 := Lib.hid (HO6.out.same hb7)
      have HQ7 := Lib.hid (HQ6.out.same hb7)
      have HP7 := Lib.hid ho7
      have HG7 := Lib.hid (HG6.out.trans (hb7.mono HG6.out.size))
      clear ho7 hb7
      go_wp2_with fail
      refine (decodeInts_case HD2.out HO7.out.nums (encs_bs zs) HO7.out.room).mono ?_
      rintro e w_8 ⟨a8, n8, c8, rfl, ho8, hb8⟩
      have HQ8 := Lib.hid (HQ7.out.same hb8)
      have HP8 := Lib.hid (HP7.out.same hb8)
      have HG8 := Lib.hid (HG7.out.trans (hb8.mono HG7.out.size))
      clear ho8 hb8
      go_wp2_with fail
      refine (sameInts_yes a7 a' n7 n' c7 c' zs _ HP8.out.nums HQ8.out.nums).mono ?_
      rintro e w_9 ⟨rfl, hb9⟩
      have HG9 := Lib.hid (HG8.out.trans (hb9.mono HG8.out.size))
      clear hb9
      go_wp2_with fail
      go_ret
      exact ⟨rfl, HG9.out⟩

set_option maxRecDepth 100000 in
theorem lifted (os : Os) (started : os.Started) (H : Type) (enc : TypeId × Value → H) :
    ReturnsInHanded {} Try.checked os 4 .any (Rows.fnByteStringsSpec.pre6 enc Try.prog Try.f4 Rows.fnByteStringsRow.domain false) (Rows.fnByteStringsSpec.post enc Try.prog Try.f4 false true false false) := by
  refine returnsInHanded_of_change (C := Try.checked) own started (by kernel_rfl) Try.func4
    (ChangeSpec.witness6 (enc := enc) (C := Try.checked) false ⟨#[], #[.slice none 0 0], []⟩ 8 (by kernel_rfl) (by kernel_rfl) (by kernel_rfl) (by kernel_rfl)) ?_
  intro W base args ds gs before hval0 hW hcnd _
  have hval : ∀ (j : Nat) t v, Try.f4.params[j]? = some t → args[j]? = some v → Value.okWide Try.prog W .any base t v := hval0
  have hW' := hW
  obtain ⟨p, q, hA0, hV, rfl, hfz, hnd⟩ := hW
  have hA : DataW.TrodAll enc Try.prog W 0 (fun _ => true) true Try.f4.params.toList args.toList ds p := hA0
  rw [Try.params4] at hA hval
  obtain ⟨v0, vs0, d0, ds0, p0, q0, hargs, rfl, rfl, h0, r0⟩ := trodAll_cons hA
  obtain ⟨rfl, rfl, rfl⟩ := trodAll_nil r0
  obtain rfl : args = #[v0] := by cases args; simp_all
  obtain ⟨rfl, rfl⟩ := trodVars_none hV
  have h0k := h0
  have hlt0 : ∀ x ∈ p0, x.block < W.heap.size := fun x hx => by simpa using hW'.lt x (by simp [hx])
  obtain ⟨a0, n0, c0, l0, rfl, K0, F0, R0⟩ := open_nums Try.underlying22 Try.underlying5 byte_cells (hval 0 22 v0 rfl rfl) h0
  clear hA0 hval0
  simp only [List.append_nil] at hW'
  refine (walk a0 n0 c0 l0 W K0 F0 R0).mono fun e W' ⟨he, hb⟩ => ?_
  subst he
  exact ⟨_, rfl, ⟨_, _, _, [], _, [], hW', (trodAll_cons_mk (shut_bool Try.underlying4 _) trodAll_mk0), (trodAll_cons_mk (Below.trod laidOut (by kernel_rfl) (of_decide_eq_true (by kernel_rfl)) h0k hb hlt0) trodAll_mk0), rfl, hb.frame _, fun h => by cases h⟩⟩

theorem over : Rows.fnByteStringsRow.holds Try.pinned (OpenSpec.ofChange Rows.fnByteStringsSpec) :=
  OpenClaim.holds_of_wide 4 Try.f4 rfl rfl rfl rfl rfl rfl rfl ⟨rfl, rfl, rfl, rfl, rfl⟩ rfl rfl rfl rfl rfl (by kernel_rfl) Try.func4 (by kernel_rfl)
    (of_decide_eq_true (by kernel_rfl)) (by unfold Func.isWrapper; first | (rw [if_pos (by decide +kernel)]; kernel_rfl) | (rw [if_neg (by decide +kernel)]; exact ⟨rfl, rfl⟩))
    (fun os started H enc _ => lifted os started H enc)

theorem proved : Rows.FnByteStringsSaid :=
  over
end Go.Proofs.Ythdfdniidldkdaa.fnByteStrings
