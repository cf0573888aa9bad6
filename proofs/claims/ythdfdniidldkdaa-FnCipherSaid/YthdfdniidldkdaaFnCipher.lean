/- For every input: what is encrypted is decrypted to what it was, what is decrypted is encrypted to what it was, and encryption keeps the length. (For inputs of more than 2^20 bytes the statement asks nothing.) -/
import Derived.Test.YthdfdniidldkdaaInv
import Derived.Test.YthdfdniidldkdaaDrBig
import Derived.Test.YthdfdniidldkdaaDrSame
import Derived.Test.YthdfdniidldkdaaWord
import Derived.WalkKit
import Derived.Deep.RegionHeld3
import Derived.ProofKit
import Derived.OpenShut
namespace Go.Proofs.Ythdfdniidldkdaa.fnCipher
open Go.ChangeShapes Go.WideShapes Go.ChangeAt Go.RowKit Go.Lib
open Go.ChangeMaps (open_string shut_string)
set_option linter.unusedVariables false

theorem own : ownKnob Try.prog.godebug = none := by kernel_rfl

set_option maxHeartbeats 4000000 in
set_option maxRecDepth 100000 in
theorem walk (a0 : Option Addr) (n0 c0 : Nat) (l0 : List Int) (w : World) (K0 : Nums .u8 w a0 n0 l0) (F0 : ∀ x ∈ l0, (Lit.int .u8 x).wf = true) (R0 : n0 ≤ c0 ∧ (c0 : Int) ≤ 9223372036854775807) :
    Calls Try.prog 5 #[.slice a0 n0 c0] w fun e w' => e = .returned (.bool true) ∧ Below w.heap.size w w' := by
  have HK := Lib.hid K0
  have HF := Lib.hid (bs_of_wf F0)
  have hfit := K0.fits
  clear K0 F0 R0
  by_cases hbig : 1048576 < n0
  · go_enter Try.func5, Try.ntmps5
    go_wp2_with fail
    refine (big_yes a0 n0 c0 hfit hbig _).mono ?_
    rintro e w1 ⟨rfl, rfl⟩
    go_wp2_with fail
    go_ret
    exact ⟨rfl, Below.refl _ _⟩
  · have HC := Lib.hid (code_of HK.out HF.out)
    go_enter Try.func5, Try.ntmps5
    go_wp2_with fail
    refine (big_no a0 n0 c0 hfit hbig _).mono ?_
    rintro e w1 ⟨rfl, rfl⟩
    go_wp2_with fail
    refine (drawEncrypt_any a0 n0 c0 _ HC.out).mono ?_
    rintro e w1 ⟨k, a1, n1, c1, l, rfl, ho, hBs, hn1, hk, hb1⟩
    have HO := Lib.hid ho
    have HB := Lib.hid hb1
    have HBs := Lib.hid hBs
    have HW : Hid (Fit64 k) := Lib.hid (fit_mk (by have := hk.1; omega) (by have := hk.2; omega))
    have HL := Lib.hid ho.len
    clear ho hBs hk hb1
    go_wp2_with fail
    refine (encrypt_any k a1 n1 c1 l _ HW.out HO.out.nums (by omega) HBs.out).mono ?_
    rintro e w2 ⟨a2, n2, c2, rfl, ho2, hb2⟩
    have hn2 : n2 = n1 := by rw [← ho2.len, ← HL.out, encr_len]
    have HN2 := Lib.hid hn2
    have hn2' : n2 ≤ 1000 := by omega
    have HO1 := Lib.hid (HO.out.same hb2)
    have HB2 := Lib.hid (HB.out.trans (hb2.mono HB.out.size))
    have HO2 := Lib.hid ho2
    clear ho2 hb2 hn2
    go_wp2_with fail
    refine (decrypt_any k a2 n2 c2 (encr k l) _ HW.out HO2.out.nums (by omega) (encr_bs k l)).mono ?_
    rintro e w3 ⟨a3, n3, c3, rfl, ho3, hb3⟩
    rw [dec_enc k HBs.out] at ho3
    have HO3 := Lib.hid ho3
    have HO13 := Lib.hid (HO1.out.same hb3)
    have HB3 := Lib.hid (HB2.out.trans (hb3.mono HB2.out.size))
    clear ho3 hb3
    go_wp2_with fail
    refine (sameBytes_yes a3 a1 n3 n1 c3 c1 l _ HO3.out.nums HO13.out.nums).mono ?_
    rintro e w4 ⟨rfl, hb4⟩
    have HO14 := Lib.hid (HO13.out.same hb4)
    have HB4 := Lib.hid (HB3.out.trans (hb4.mono HB3.out.size))
    clear hb4
    go_wp2_with fail
    refine (decrypt_any k a1 n1 c1 l _ HW.out HO14.out.nums (by omega) HBs.out).mono ?_
    rintro e w5 ⟨a5, n5, c5, rfl, ho5, hb5⟩
    have hn5 : n5 ≤ 1000 := by have h1 := ho5.len; rw [decr_len, HL.out] at h1; omega
    have HO15 := Lib.hid (HO14.out.same hb5)
    have HO5 := Lib.hid ho5
    have HB5 := Lib.hid (HB4.out.trans (hb5.mono HB4.out.size))
    clear ho5 hb5
    go_wp2_with fail
    refine (encrypt_any k a5 n5 c5 (decr k l) _ HW.out HO5.out.nums (by omega) (decr_bs k l)).mono ?_
    rintro e w6 ⟨a6, n6, c6, rfl, ho6, hb6⟩
    rw [enc_dec k HBs.out] at ho6
    have HO16 := Lib.hid (HO15.out.same hb6)
    have HO6 := Lib.hid ho6
    have HB6 := Lib.hid (HB5.out.trans (hb6.mono HB5.out.size))
    clear ho6 hb6
    go_wp2_with fail
    refine (sameBytes_yes a6 a1 n6 n1 c6 c1 l _ HO6.out.nums HO16.out.nums).mono ?_
    rintro e w7 ⟨rfl, hb7⟩
    have HO17 := Lib.hid (HO16.out.same hb7)
    have HB7 := Lib.hid (HB6.out.trans (hb7.mono HB6.out.size))
    clear hb7
    go_wp2_with fail
    refine (encrypt_any k a1 n1 c1 l _ HW.out HO17.out.nums (by omega) HBs.out).mono ?_
    rintro e w8 ⟨a8, n8, c8, rfl, ho8, hb8⟩
    have hn8 : n8 = n1 := by rw [← ho8.len, ← HL.out, encr_len]
    obtain rfl : n1 = n8 := hn8.symm
    have HB8 := Lib.hid (HB7.out.trans (hb8.mono HB7.out.size))
    clear ho8 hb8 hn8
    go_wp2_with fail
    go_ret
    exact ⟨by simp, HB8.out⟩

set_option maxRecDepth 100000 in
theorem lifted (os : Os) (started : os.Started) (H : Type) (enc : TypeId × Value → H) :
    ReturnsInHanded {} Try.checked os 5 .any (Rows.fnCipherSpec.pre6 enc Try.prog Try.f5 Rows.fnCipherRow.domain false) (Rows.fnCipherSpec.post enc Try.prog Try.f5 false true false false) := by
  refine returnsInHanded_of_change (C := Try.checked) own started (by kernel_rfl) Try.func5
    (ChangeSpec.witness6 (enc := enc) (C := Try.checked) false ⟨#[], #[.slice none 0 0], []⟩ 8 (by kernel_rfl) (by kernel_rfl) (by kernel_rfl) (by kernel_rfl)) ?_
  intro W base args ds gs before hval0 hW hcnd _
  have hval : ∀ (j : Nat) t v, Try.f5.params[j]? = some t → args[j]? = some v → Value.okWide Try.prog W .any base t v := hval0
  have hW' := hW
  obtain ⟨p, q, hA0, hV, rfl, hfz, hnd⟩ := hW
  have hA : DataW.TrodAll enc Try.prog W 0 (fun _ => true) true Try.f5.params.toList args.toList ds p := hA0
  rw [Try.params5] at hA hval
  obtain ⟨v0, vs0, d0, ds0, p0, q0, hargs, rfl, rfl, h0, r0⟩ := trodAll_cons hA
  obtain ⟨rfl, rfl, rfl⟩ := trodAll_nil r0
  obtain rfl : args = #[v0] := by cases args; simp_all
  obtain ⟨rfl, rfl⟩ := trodVars_none hV
  have h0k := h0
  have hlt0 : ∀ x ∈ p0, x.block < W.heap.size := fun x hx => by simpa using hW'.lt x (by simp [hx])
  obtain ⟨a0, n0, c0, l0, rfl, K0, F0, R0⟩ := open_nums Try.underlying22 Try.underlying5 byte_cells (hval 0 22 v0 rfl rfl) h0
  clear hA0 hval0
  simp only [List.append_nil] at hW'
  refine (walk a0 n0 c0 l0 W K0 F0 R0).mono fun e W' ⟨he, hb⟩ => ?_
  subst he
  exact ⟨_, rfl, ⟨_, _, _, [], _, [], hW', (trodAll_cons_mk (shut_bool Try.underlying4 _) trodAll_mk0), (trodAll_cons_mk (Below.trod laidOut (by kernel_rfl) (of_decide_eq_true (by kernel_rfl)) h0k hb hlt0) trodAll_mk0), rfl, hb.frame _, fun h => by cases h⟩⟩

theorem over : Rows.fnCipherRow.holds Try.pinned (OpenSpec.ofChange Rows.fnCipherSpec) :=
  OpenClaim.holds_of_wide 5 Try.f5 rfl rfl rfl rfl rfl rfl rfl ⟨rfl, rfl, rfl, rfl, rfl⟩ rfl rfl rfl rfl rfl (by kernel_rfl) Try.func5 (by kernel_rfl)
    (of_decide_eq_true (by kernel_rfl)) (by unfold Func.isWrapper; first | (rw [if_pos (by decide +kernel)]; kernel_rfl) | (rw [if_neg (by decide +kernel)]; exact ⟨rfl, rfl⟩))
    (fun os started H enc _ => lifted os started H enc)

theorem proved : Rows.FnCipherSaid :=
  over
end Go.Proofs.Ythdfdniidldkdaa.fnCipher
