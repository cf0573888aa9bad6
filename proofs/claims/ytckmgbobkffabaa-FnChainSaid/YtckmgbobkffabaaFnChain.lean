/- For every input of bytes: in a drawn line of machines in which each follows the one before it, each follows all before it and itself; where one does not, the model says so. -/
import Derived.Test.YtckmgbobkffabaaG36
import Derived.Test.YtckmgbobkffabaaG41
import Derived.Test.YtckmgbobkffabaaG33
import Derived.Test.YtckmgbobkffabaaG42
import Derived.Test.YtckmgbobkffabaaG10
import Derived.WalkKit
import Derived.Deep.RegionHeld3
import Derived.ProofKit
import Derived.OpenShut
namespace Go.Proofs.Ytckmgbobkffabaa.fnChain
open Go.ChangeShapes Go.WideShapes Go.ChangeAt Go.RowKit Go.Lib
open Go.ChangeMaps (open_string shut_string)
set_option linter.unusedVariables false

theorem own : ownKnob Try.prog.godebug = none := by kernel_rfl
set_option linter.unusedSimpArgs false

set_option maxHeartbeats 8000000 in
set_option maxRecDepth 100000 in
theorem walk (a0 : Option Addr) (n0 c0 : Nat) (l0 : List Int) (w : World) (K0 : Nums .u8 w a0 n0 l0) (F0 : ∀ x ∈ l0, (Lit.int .u8 x).wf = true) (R0 : n0 ≤ c0 ∧ (c0 : Int) ≤ 9223372036854775807) :
  Calls Try.prog 4 #[.slice a0 n0 c0] w fun e w' => e = .returned (.bool true) ∧ Below w.heap.size w w' := by
 have HK0 := Lib.hid K0
 have HF := Lib.hid (bs_of_wf F0)
 have hfit := K0.fits
 clear K0 F0 R0
 by_cases hbig : 1048576 < n0
 ·go_enter Try.func4, Try.ntmps4
  go_wp2_with fail
  refine (big_yes a0 n0 c0 hfit hbig _).mono ?_
  rintro e w1 ⟨rfl, rfl⟩
  go_wp2_with fail
  go_ret
  exact ⟨rfl, Below.refl _ _⟩
 ·have HC := Lib.hid (code_of HK0.out HF.out)
  go_enter Try.func4, Try.ntmps4
  go_wp2_with fail
  refine (big_no a0 n0 c0 hfit hbig _).mono ?_
  rintro e w1 ⟨rfl, rfl⟩
  clear hfit hbig HK0 HF
  go_wp2_with fail
  refine (drawChainFollows_any a0 n0 c0 _ HC.out).mono ?_
  rintro e w1 ⟨a, n, c, l, rfl, hl, hok, hnc, hcc, hn4, hz⟩
  have HM := Lib.hid hl
  have hln := hl.len
  have HWV : Hid (∀ x ∈ l, ∀ z ∈ x.moves, Wmv z) := Lib.hid fun x hx => (hok x hx).p.wmv
  have HP : Hid (∀ x ∈ l, x.parts ≤ 10000000) := Lib.hid fun x hx => by have := (hok x hx).parts; omega
  have HB1 := Lib.hid hz
  have HSP := Lib.hid (fun W' (h : Below w1.heap.size w1 W') => specChainFollows_any (c := c) (HM.out.same h) HP.out (by omega) hnc hcc)
  have HQ := chainFollows_any HM.out HWV.out HP.out (by omega) hnc hcc
  clear hl hok hz HC
  go_wp2_with fail
  refine HQ.mono ?_
  rintro e w2 ⟨rfl, hz⟩
  have HD2 := Lib.hid hz
  have HB2 : Hid (Below w.heap.size w w2) := Lib.hid (HB1.out.trans (hz.mono HB1.out.size))
  clear hz HQ
  cases hch : chainP l with
  | false =>
   rw [hch] at HSP
   by_cases h1 : n = 1
   ·obtain ⟨x, b, o, p, m, d, q, k, e, hx, rfl, c0', c1, c2, hm⟩ := (HM.out.same HD2.out).at_ (j := 0) (by omega)
    have hl1 : l = [x] := by
     match l, hln, hx with
     | [y], _, hx => simpa using hx
     | [], h, _ => simp at h; omega
     | _ :: _ :: _, h, _ => simp at h; omega
    have hno : isMac x = false := by rw [← chain_one, ← hl1]; exact hch
    have HI := isMachine_any hm
    rw [hno] at HI
    have HIH := Lib.hid HI
    rw [Nat.zero_mul, Nat.add_zero] at c0' c1 c2
    clear hx hm hl1 hno HI hch
    subst h1
    go_wp2_with fail
    clear c0' c1 c2
    refine HIH.out.mono ?_
    rintro e w3 ⟨rfl, hz⟩
    have HD3 : Hid (Below w1.heap.size w1 w3) := Lib.hid (HD2.out.trans (hz.mono HD2.out.size))
    have HB3 : Hid (Below w.heap.size w w3) := Lib.hid (HB2.out.trans (hz.mono HB2.out.size))
    clear hz
    go_wp2_with fail
    refine (HSP.out w3 HD3.out).mono ?_
    rintro e w4 ⟨rfl, hz⟩
    have HB4 : Hid (Below w.heap.size w w4) := Lib.hid (HB3.out.trans (hz.mono HB3.out.size))
    clear hz
    go_wp2_with fail
    go_ret
    exact ⟨rfl, HB4.out⟩
   ·have hne : ((n : Int) == 1) = false := beq_eq_false_iff_ne.2 (by omega)
    have hne2 : ((n : Int) != 1) = true := bne_iff_ne.2 (by omega)
    clear hch
    go_wp2_with fail
    refine (HSP.out w2 HD2.out).mono ?_
    rintro e w4 ⟨rfl, hz⟩
    have HB4 : Hid (Below w.heap.size w w4) := Lib.hid (HB2.out.trans (hz.mono HB2.out.size))
    clear hz
    go_wp2_with fail
    go_ret
    exact ⟨rfl, HB4.out⟩
  | true =>
   have HCH := Lib.hid hch
   have hpos := chain_pos hch
   clear hch HSP
   go_wp2_with fail
   go_loopw [4] (fun i wr => ∃ j : Nat, j ≤ n ∧ i = .int .i64 j ∧ Below w2.heap.size w2 wr) (fun i _ => n - (intOf i).toNat)
   case atStart => exact ⟨0, Nat.zero_le _, rfl, Below.refl _ _⟩
   case round =>
    obtain ⟨j, hj, rfl, hb⟩ := hrel
    have HR := Lib.hid hb
    have hsr := hb.size
    clear hb
    obtain ⟨w3, hwv⟩ : ∃ u, u = wr := ⟨wr, rfl⟩
    subst hwv
    by_cases hlt : j < n
    ·go_wp2_with fail
     go_loopw [5] (fun i wr => ∃ k : Nat, j ≤ k ∧ k ≤ n ∧ i = .int .i64 k ∧ Below w2.heap.size w2 wr) (fun i _ => n - (intOf i).toNat)
     case atStart => exact ⟨j, Nat.le_refl _, hj, rfl, HR.out⟩
     case round =>
      obtain ⟨k, hjk, hk, rfl, hb⟩ := hrel
      have HRR := Lib.hid hb
      have HD : Hid (Below w1.heap.size w1 wr) := Lib.hid (HD2.out.trans (hb.mono HD2.out.size))
      clear hb
      by_cases hlt2 : k < n
      ·obtain ⟨u, b1, o1, p1, m1, d1, q1, k1, e1, hu, hee, c0', c1, c2, hmu⟩ := (HM.out.same HD.out).at_ (j := k) hlt2
       obtain ⟨v, b2, o2, p2, m2, d2, q2, k2, e2, hv, hee2, y0, y1, y2, hmv⟩ := (HM.out.same HD.out).at_ (j := j) hlt
       subst hee
       cases hee2
       have hfo := chain_line HCH.out j (k - j) v u hv (by rw [show j + (k - j) = k by omega]; exact hu)
       have hum := List.mem_of_getElem? hu
       have hvm := List.mem_of_getElem? hv
       have HMU := Lib.hid hmu
       have HMV := Lib.hid hmv
       clear hu hv hmu hmv
       go_wp2_with fail
       go_still_tail 8, (by kernel_rfl)
       have H2 : Hid (Below wr.heap.size wr wr.drew) := Lib.hid (Below.refl _ _).drew
       change wpList _ _ _ _ _ wr.drew
       generalize wr.drew = u2 at H2 ⊢
       clear c0' c1 c2 y0 y1 y2
       have HQ := follows_any (HMU.out.same H2.out) (HMV.out.same H2.out) (HWV.out u hum) (HWV.out v hvm) (HP.out u hum) (HP.out v hvm)
       rw [hfo] at HQ
       have HQH := Lib.hid HQ
       clear HQ hfo
       go_wp2_with fail
       refine HQH.out.mono ?_
       rintro e u3 ⟨rfl, hz⟩
       have HR3 := Lib.hid (HRR.out.trans ((H2.out.trans (hz.mono H2.out.size)).mono HRR.out.size))
       clear hz
       go_wp2_with fail
       go_roundw
       case rel => exact ⟨k + 1, by omega, by omega, by go_num, HR3.out⟩
       case measure => simp [intOf]; omega
      ·obtain rfl : k = n := by omega
       go_wp2_with fail
       go_roundw
       case rel => exact ⟨j + 1, by omega, by go_num, HRR.out⟩
       case measure => simp [intOf]; omega
    ·obtain rfl : j = n := by omega
     have hnI : (0 : Int) < (j : Int) := by omega
     go_wp2_with fail
     go_ret
     exact ⟨by simp; try omega, HB2.out.trans (HR.out.mono HB2.out.size)⟩

set_option maxRecDepth 100000 in
theorem lifted (os : Os) (started : os.Started) (H : Type) (enc : TypeId × Value → H) :
  ReturnsInHanded {} Try.checked os 4 .any (Rows.fnChainSpec.pre6 enc Try.prog Try.f4 Rows.fnChainRow.domain false) (Rows.fnChainSpec.post enc Try.prog Try.f4 false true false false) := by
 refine returnsInHanded_of_change (C := Try.checked) own started (by kernel_rfl) Try.func4
  (ChangeSpec.witness6 (enc := enc) (C := Try.checked) false ⟨#[], #[.slice none 0 0], []⟩ 8 (by kernel_rfl) (by kernel_rfl) (by kernel_rfl) (by kernel_rfl)) ?_
 intro W base args ds gs before hval0 hW hcnd _
 have hval : ∀ (j : Nat) t v, Try.f4.params[j]? = some t → args[j]? = some v → Value.okWide Try.prog W .any base t v := hval0
 have hW' := hW
 obtain ⟨p, q, hA0, hV, rfl, hfz, hnd⟩ := hW
 have hA : DataW.TrodAll enc Try.prog W 0 (fun _ => true) true Try.f4.params.toList args.toList ds p := hA0
 rw [Try.params4] at hA hval
 obtain ⟨v0, vs0, d0, ds0, p0, q0, hargs, rfl, rfl, h0, r0⟩ := trodAll_cons hA
 obtain ⟨rfl, rfl, rfl⟩ := trodAll_nil r0
 obtain rfl : args = #[v0] := by cases args; simp_all
 obtain ⟨rfl, rfl⟩ := trodVars_none hV
 have h0k := h0
 have hlt0 : ∀ x ∈ p0, x.block < W.heap.size := fun x hx => by simpa using hW'.lt x (by simp [hx])
 obtain ⟨a0, n0, c0, l0, rfl, K0, F0, R0⟩ := open_nums Try.underlying22 Try.underlying5 byte_cells (hval 0 22 v0 rfl rfl) h0
 clear hA0 hval0
 simp only [List.append_nil] at hW'
 refine (walk a0 n0 c0 l0 W K0 F0 R0).mono fun e W' ⟨he, hb⟩ => ?_
 subst he
 exact ⟨_, rfl, ⟨_, _, _, [], _, [], hW', (trodAll_cons_mk (shut_bool Try.underlying4 _) trodAll_mk0), (trodAll_cons_mk (Below.trod laidOut (by kernel_rfl) (of_decide_eq_true (by kernel_rfl)) h0k hb hlt0) trodAll_mk0), rfl, hb.frame _, fun h => by cases h⟩⟩

theorem over : Rows.fnChainRow.holds Try.pinned (OpenSpec.ofChange Rows.fnChainSpec) :=
 OpenClaim.holds_of_wide 4 Try.f4 rfl rfl rfl rfl rfl rfl rfl ⟨rfl, rfl, rfl, rfl, rfl⟩ rfl rfl rfl rfl rfl (by kernel_rfl) Try.func4 (by kernel_rfl)
  (of_decide_eq_true (by kernel_rfl)) (by unfold Func.isWrapper; first | (rw [if_pos (by decide +kernel)]; kernel_rfl) | (rw [if_neg (by decide +kernel)]; exact ⟨rfl, rfl⟩))
  (fun os started H enc _ => lifted os started H enc)

theorem proved : Rows.FnChainSaid :=
 over
end Go.Proofs.Ytckmgbobkffabaa.fnChain
