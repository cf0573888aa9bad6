/- For every input of bytes: a transcript checks out under its own key and side, and wherever the program lets another key, side or transcript check out, or takes two transcripts for the same, so does the model. -/
import Derived.Test.YtiaknjeeonlbcaaDrBig
import Derived.Test.YtiaknjeeonlbcaaEdt
import Derived.Test.YtiaknjeeonlbcaaFin
import Derived.Test.YtiaknjeeonlbcaaFinM
import Derived.Test.YtiaknjeeonlbcaaSmt
import Derived.Test.YtiaknjeeonlbcaaOpen
import Derived.WalkKit
import Derived.IntWalk
import Derived.Deep.RegionHeld3
import Derived.ProofKit
import Derived.OpenShut
namespace Go.Proofs.Ytiaknjeeonlbcaa.fnTranscripts
open Go.ChangeShapes Go.WideShapes Go.ChangeAt Go.RowKit Go.Lib
open Go.ChangeMaps (open_string shut_string)
set_option linter.unusedVariables false

theorem own : ownKnob Try.prog.godebug = none := by kernel_rfl

set_option maxHeartbeats 40000000 in
set_option maxRecDepth 100000 in
theorem walk (a0 : Option Addr) (n0 c0 : Nat) (l0 : List Int) (w : World) (K0 : Nums .u8 w a0 n0 l0) (F0 : ∀ x ∈ l0, (Lit.int .u8 x).wf = true) (R0 : n0 ≤ c0 ∧ (c0 : Int) ≤ 9223372036854775807) :
    Calls Try.prog 3 #[.slice a0 n0 c0] w fun e w' => e = .returned (.bool true) ∧ Below w.heap.size w w' := by
  have HK0 := Lib.hid K0
  have HF := Lib.hid (bs_of_wf F0)
  have hfit := K0.fits
  clear K0 F0 R0
  obtain ⟨i0, hi, hz0, hz1, hz2⟩ := info_parts infoIntS
  have HI := Lib.hid (And.intro hi (And.intro hz0 (And.intro hz1 hz2)))
  clear hi hz0 hz1 hz2
  obtain ⟨i1, hi, hz0, hz1, hz2⟩ := info_parts infoRowS
  have HJ := Lib.hid (And.intro hi (And.intro hz0 (And.intro hz1 hz2)))
  clear hi hz0 hz1 hz2
  by_cases hbig : 1048576 < n0
  · go_enter Try.func3, Try.ntmps3
    go_wp2_with fail
    refine (big_yes a0 n0 c0 hfit hbig _).mono ?_
    rintro e w1 ⟨rfl, rfl⟩
    go_wp2_with fail
    go_ret
    exact ⟨rfl, Below.refl _ _⟩
  · have HC := Lib.hid (code_of HK0.out HF.out)
    have HB := Lib.hid (Below.refl w.heap.size w)
    go_enter Try.func3, Try.ntmps3
    go_wp2_with fail
    refine (big_no a0 n0 c0 hfit hbig _).mono ?_
    rintro e w1 ⟨rfl, rfl⟩
    clear hfit hbig HK0 HF
    have hcall := drawFinishOf_any a0 n0 c0 _ HC.out
    go_wp2_with fail
    refine hcall.mono ?_
    rintro e z0 ⟨k, q, m, d, l, s, rfl, hk0, hk1, hs0, hs1, hm13, ho, hsh, hz⟩
    clear hcall HC
    have HR := Lib.hid ho.rws
    have HL := Lib.hid hsh
    have HG := Lib.hid hsh.far
    replace HB := Lib.hid (HB.out.trans (hz.mono HB.out.size))
    clear ho hsh hz
    have hw1 := IntWalk.i64_in (1 - s) ⟨by omega, by omega⟩
    have hw2 := IntWalk.i64_in (k + 1) ⟨by omega, by omega⟩
    obtain ⟨f, hf⟩ : ∃ f, finP k l s = f := ⟨_, rfl⟩
    have HFE := Lib.hid hf
    clear hf
    have hcall := finishOf_any k s (c := d) HR.out HG.out
    rw [HFE.out] at hcall
    go_wp2_with fail
    refine hcall.mono ?_
    rintro e z1 ⟨rfl, hz⟩
    clear hcall
    replace HR := Lib.hid (HR.out.same hz)
    replace HB := Lib.hid (HB.out.trans (hz.mono HB.out.size))
    clear hz
    cases hf0 : f == 0 with
    | true =>
      obtain rfl : f = 0 := by simpa using hf0
      have HCZ : Hid (chkP k l s 0 = false) := Lib.hid (by simp [chkP])
      have hcall := checksOut_any k s 0 (c := d) HR.out HG.out
      rw [HCZ.out] at hcall
      go_wp2_with fail
      refine hcall.mono ?_
      rintro e z2 ⟨rfl, hz⟩
      clear hcall
      replace HR := Lib.hid (HR.out.same hz)
      replace HB := Lib.hid (HB.out.trans (hz.mono HB.out.size))
      clear hz
      have hcall := spec_finishOf_any k s (c := d) HR.out HG.out
      rw [HFE.out] at hcall
      go_wp2_with fail
      refine hcall.mono ?_
      rintro e z3 ⟨rfl, hz⟩
      clear hcall
      replace HR := Lib.hid (HR.out.same hz)
      replace HB := Lib.hid (HB.out.trans (hz.mono HB.out.size))
      clear hz
      go_wp2_with fail
      go_ret
      exact ⟨rfl, HB.out⟩
    | false =>
      have HCO : Hid (chkP k l s f = true) := Lib.hid (by unfold chkP; rw [HFE.out, hf0]; simp)
      obtain ⟨r1, hr1⟩ : ∃ r, chkP k l (1 - s) f = r := ⟨_, rfl⟩
      obtain ⟨r2, hr2⟩ : ∃ r, chkP (k + 1) l s f = r := ⟨_, rfl⟩
      have H1 := Lib.hid hr1
      have H2 := Lib.hid hr2
      clear hr1 hr2
      have hcall := checksOut_any k s f (c := d) HR.out HG.out
      rw [HCO.out] at hcall
      go_wp2_with fail
      refine hcall.mono ?_
      rintro e z4 ⟨rfl, hz⟩
      clear hcall
      replace HR := Lib.hid (HR.out.same hz)
      replace HB := Lib.hid (HB.out.trans (hz.mono HB.out.size))
      clear hz
      cases r1 with
      | true =>
        have hcall := checksOut_any k (1 - s) f (c := d) HR.out HG.out
        rw [H1.out] at hcall
        go_wp2_with fail
        refine hcall.mono ?_
        rintro e z5 ⟨rfl, hz⟩
        clear hcall
        replace HR := Lib.hid (HR.out.same hz)
        replace HB := Lib.hid (HB.out.trans (hz.mono HB.out.size))
        clear hz
        have hcall := spec_checksOut_any k (1 - s) f (c := d) HR.out HG.out
        rw [H1.out] at hcall
        go_wp2_with fail
        refine hcall.mono ?_
        rintro e z6 ⟨rfl, hz⟩
        clear hcall
        replace HR := Lib.hid (HR.out.same hz)
        replace HB := Lib.hid (HB.out.trans (hz.mono HB.out.size))
        clear hz
        cases r2 with
        | true =>
          have hcall := checksOut_any (k + 1) s f (c := d) HR.out HG.out
          rw [H2.out] at hcall
          go_wp2_with fail
          refine hcall.mono ?_
          rintro e z7 ⟨rfl, hz⟩
          clear hcall
          replace HR := Lib.hid (HR.out.same hz)
          replace HB := Lib.hid (HB.out.trans (hz.mono HB.out.size))
          clear hz
          have hcall := spec_checksOut_any (k + 1) s f (c := d) HR.out HG.out
          rw [H2.out] at hcall
          go_wp2_with fail
          refine hcall.mono ?_
          rintro e z8 ⟨rfl, hz⟩
          clear hcall
          replace HR := Lib.hid (HR.out.same hz)
          replace HB := Lib.hid (HB.out.trans (hz.mono HB.out.size))
          clear hz
          have HV := HR
          have HVB := HB
          clear hw1 hw2
          go_wp2_with fail
          go_loopw [7] (fun i wr => ∃ j : Nat, j ≤ m ∧ i = .int .i64 j ∧ Below z8.heap.size z8 wr) (fun i _ => m - (intOf i).toNat)
          case atStart => exact ⟨0, Nat.zero_le _, rfl, Below.refl _ _⟩
          case round =>
            obtain ⟨j, hj, rfl, hb⟩ := hrel
            obtain ⟨v0, rfl⟩ : ∃ v0, v0 = wr := ⟨wr, rfl⟩
            replace HR := Lib.hid (HR.out.same hb)
            replace HB := Lib.hid (HB.out.trans (hb.mono HB.out.size))
            have HW := Lib.hid hb
            clear hb
            by_cases hlt : j < m
            · have HM0 : Hid (OwnL (v0.heap.size + 1) (v0.alloc (.cells #[] 29)) v0.heap.size (some ⟨v0.heap.size, 0, none⟩) 0 0 []) := Lib.hid (OwnL.empty (Nat.le_refl _))
              have hjI : (j : Int) < (m : Int) := by omega
              go_wp2_with fail
              go_loopw [8, 9] (fun v i w4 => ∃ (p : Nat) (q' : Option Addr) (c' : Nat) (lm : List (List Int)), v = .slice q' p c' ∧ i = .int .i64 p ∧ p ≤ m ∧ OwnL w4.heap.size w4 v0.heap.size q' p c' lm ∧ Hid (Short lm) ∧ Below v0.heap.size v0 w4) (fun _ i _ => m - (intOf i).toNat)
              case atStart => exact ⟨0, _, 0, [], rfl, rfl, Nat.zero_le _, HM0.out.upper (by simp) (Nat.le_refl _), Lib.hid Short.nil, alloc_same _ _⟩
              case round =>
                obtain ⟨p, q', c', lm, rfl, rfl, hp, hm, HSM, hb⟩ := hrel
                have HM := Lib.hid hm
                have HB4 := Lib.hid hb
                have hs4 := hb.size
                clear hm hb HM0
                by_cases hpm : p < m
                · have hpI : (p : Int) < (m : Int) := by omega
                  have HBE : Hid (Below v0.heap.size v0 (wr.alloc (.cells #[] 3))) := Lib.hid (HB4.out.trans ((alloc_same wr _).mono hs4))
                  obtain ⟨ad, pp, pm, pd, y, rfl, hy, hc, hN, _⟩ := (HR.out.same HBE.out).at_ hpm
                  have hyl := hN.len
                  have hsh := HL.out y (List.mem_of_getElem? hy)
                  have HNE : Hid (Own .i64 3 (wr.alloc (.cells #[] 3)) wr.heap.size (some ⟨wr.heap.size, 0, none⟩) 0 0 []) := Lib.hid (Own.empty (Nat.le_refl _))
                  have HN := Lib.hid hN
                  have HME : Hid (OwnL wr.heap.size (wr.alloc (.cells #[] 3)) v0.heap.size q' p c' lm) := Lib.hid (HM.out.same (alloc_same _ _))
                  clear hy hN
                  go_wp2_with (at_builtin; refine wpl_app _ rfl (.tmp 91) (.tmp 95) 29 rfl .i64 3 i0 (.int .i64 0) 8 Try.underlying29 HI.out.1 HI.out.2.1 HI.out.2.2.1 HI.out.2.2.2 rfl rfl HNE.out rfl HN.out (by omega) ?c1 ?c2 ?_)
                  case c1 => omega
                  case c2 => simp
                  intro a5 c5 w5 ho5 hb5
                  have h5s := hb5.size
                  (try rw [Nat.zero_add, List.nil_append] at ho5)
                  have HN5 : Hid (Own .i64 3 (w5.alloc (.cells #[.slice a5 pm c5] 29)) v0.heap.size a5 pm c5 y) := Lib.hid ((ho5.lower hs4).alloc _)
                  have hsp := ho5.span
                  have HM5 : Hid (OwnL wr.heap.size (w5.alloc (.cells #[.slice a5 pm c5] 29)) v0.heap.size q' p c' lm) := Lib.hid ((HME.out.below hb5).same (alloc_same _ _))
                  have HX5 : Hid (Items Rh.enc 1 (w5.alloc (.cells #[.slice a5 pm c5] 29)) (some ⟨w5.heap.size, 0, none⟩) 1 [⟨a5, pm, c5⟩]) := Lib.hid (items_new Rh.enc_len w5 ⟨a5, pm, c5⟩ 29)
                  have HB5 : Hid (Below v0.heap.size v0 (w5.alloc (.cells #[.slice a5 pm c5] 29))) := Lib.hid ((HBE.out.trans (hb5.mono hs4)).trans ((alloc_same w5 _).mono (by simp at h5s; omega)))
                  have HS5 := Lib.hid (HSM.out.snoc (y := y) hsh)
                  clear ho5 hb5 hc
                  go_wp2_with (at_builtin; refine wpl_appL _ rfl (.tmp 90) (.tmp 97) 24 rfl 29 rfl i1 (.slice none 0 0) 24 Try.underlying24 HJ.out.1 HJ.out.2.1 HJ.out.2.2.1 HJ.out.2.2.2 rfl rfl HM5.out rfl HX5.out HN5.out (fun ad e => (hsp ad e).1) (by omega) (by omega) (by simp at h5s; simp; omega) ?_)
                  intro a6 c6 w6 ho6 hb6 hg6
                  have HM6 := Lib.hid ho6
                  have HB6 := Lib.hid (HB5.out.trans hb6)
                  clear ho6 hb6 hg6
                  go_wp2_with fail
                  go_roundw
                  case rel => exact ⟨p + 1, a6, c6, _, rfl, by go_num, by omega, HM6.out, HS5, HB6.out⟩
                  case measure => simp [intOf]; omega
                · obtain rfl : p = m := by omega
                  replace HR := Lib.hid (HR.out.same HB4.out)
                  replace HB := Lib.hid (HB.out.trans (HB4.out.mono HB.out.size))
                  obtain ⟨hs, g, v, x, rfl, hi1, hr1, hgS, hS, hv, hx, hc, hov⟩ := HM.out.look hlt
                  have hfz := hi1.2.frozenAt j
                  have hvl := hov.len
                  have hxs := HSM.out x (List.mem_of_getElem? hx)
                  have HOV := Lib.hid (hov.alloc (.cells #[.int .i64 0] 3))
                  have hiA : OwnI Rh.enc 1 29 (wr.alloc (.cells #[.int .i64 0] 3)) v0.heap.size (some ⟨g, 0, none⟩) p c' hs := hi1.same (alloc_same _ _)
                  have hrA : RowsL wr.heap.size (wr.alloc (.cells #[.int .i64 0] 3)) v0.heap.size (some ⟨g, 0, none⟩) hs lm := hr1.far (grown_below (alloc_same wr _) none) (fun r e => by cases e)
                  have HIA := Lib.hid (And.intro hiA (And.intro hrA (And.intro hv hx)))
                  have HBA : Hid (Below wr.heap.size wr (wr.alloc (.cells #[.int .i64 0] 3))) := Lib.hid (alloc_same _ _)
                  clear hi1 hr1 hov hiA hrA hv hx
                  go_wp2_with (at_builtin; refine wpl_app_e _ rfl (.tmp 104) (.tmp 105) 29 rfl .i64 3 i0 (.int .i64 0) 8 Try.underlying29 HI.out.1 HI.out.2.1 HI.out.2.2.1 HI.out.2.2.2 rfl rfl HOV.out rfl (nums_new _ _ _ _) (by omega) ?c3 ?c4 ?_)
                  case c3 => omega
                  case c4 => simp; omega
                  intro a5 c5 w5 ho5 hg5 hl5
                  have hst := OwnL.still HIA.out.1 HIA.out.2.1 HIA.out.2.2.2 HIA.out.2.2.1 hlt hg5
                  have hed := OwnL.put HIA.out.1 HIA.out.2.1 (by omega) (by first | (simp; done) | (simp; omega)) HIA.out.2.2.2 HIA.out.2.2.1 hg5 ho5 (fun ad e => by
                    rcases hl5 ad e with q9 | q9
                    · exact Or.inl q9
                    · exact Or.inr (by first | omega | (rw [World.size_alloc]; omega)))
                  have hb5 : Below v0.heap.size (wr.alloc (.cells #[.int .i64 0] 3)) w5 := grown_to hg5 (Below.refl _ _) HOV.out.span (Nat.le_refl _) (by simp; omega)
                  obtain ⟨⟨uu, huu⟩, hfu⟩ := hst
                  have hgv : v0.heap.size ≤ g := (HIA.out.1.span _ rfl).1
                  have HE := Lib.hid hed.1.rws
                  have HLE := Lib.hid (short_set HSM.out j (y := x ++ [0]) (by simp; omega))
                  have HBB : Hid (Below v0.heap.size v0 (w5.setCell ⟨g, j, none⟩ (.slice a5 (v.m + 1) c5))) := Lib.hid ((((HB4.out.trans (HBA.out.mono hs4)).trans hb5)).setCell hgv _)
                  replace HR := Lib.hid (HV.out.same (HW.out.trans (HBB.out.mono HW.out.size)))
                  replace HB := Lib.hid (HVB.out.trans ((HW.out.trans (HBB.out.mono HW.out.size)).mono HVB.out.size))
                  clear hg5 ho5 hl5 hb5 hed hc hfz
                  obtain ⟨r3, hr3⟩ : ∃ r, chkP k (lm.set j (x ++ [0])) s f = r := ⟨_, rfl⟩
                  obtain ⟨r4, hr4⟩ : ∃ r, decide (l = lm.set j (x ++ [0])) = r := ⟨_, rfl⟩
                  have H3 := Lib.hid hr3
                  have H4 := Lib.hid hr4
                  clear hr3 hr4
                  have HB2 : Hid (Below z8.heap.size z8 (w5.setCell ⟨g, j, none⟩ (.slice a5 (v.m + 1) c5))) := Lib.hid (HW.out.trans (HBB.out.mono HW.out.size))
                  clear HV HVB HBB HBA HB4 HIA HOV HM HSM HW HB hgS hS
                  cases r3 with
                  | true =>
                    have hcall := checksOut_any k s f (c := c') HE.out HLE.out
                    rw [H3.out] at hcall
                    go_wp2_with fail
                    refine hcall.mono ?_
                    rintro e z9 ⟨rfl, hz⟩
                    clear hcall
                    replace HR := Lib.hid (HR.out.same hz)
                    replace HE := Lib.hid (HE.out.same hz)
                    replace HB2 := Lib.hid (HB2.out.trans (hz.mono HB2.out.size))
                    clear hz
                    clear huu hfu
                    have hcall := spec_checksOut_any k s f (c := c') HE.out HLE.out
                    rw [H3.out] at hcall
                    go_wp2_with fail
                    refine hcall.mono ?_
                    rintro e z10 ⟨rfl, hz⟩
                    clear hcall
                    replace HR := Lib.hid (HR.out.same hz)
                    replace HE := Lib.hid (HE.out.same hz)
                    replace HB2 := Lib.hid (HB2.out.trans (hz.mono HB2.out.size))
                    clear hz
                    cases r4 with
                    | true =>
                      have hcall := sameTranscripts_any (c := d) (d := c') HR.out HE.out
                      rw [H4.out] at hcall
                      go_wp2_with fail
                      refine hcall.mono ?_
                      rintro e z11 ⟨rfl, hz⟩
                      clear hcall
                      replace HR := Lib.hid (HR.out.same hz)
                      replace HE := Lib.hid (HE.out.same hz)
                      replace HB2 := Lib.hid (HB2.out.trans (hz.mono HB2.out.size))
                      clear hz
                      have hcall := specSame_any (c := d) (d := c') HR.out HE.out
                      rw [H4.out] at hcall
                      go_wp2_with fail
                      refine hcall.mono ?_
                      rintro e z12 ⟨rfl, hz⟩
                      clear hcall
                      replace HR := Lib.hid (HR.out.same hz)
                      replace HE := Lib.hid (HE.out.same hz)
                      replace HB2 := Lib.hid (HB2.out.trans (hz.mono HB2.out.size))
                      clear hz
                      have HFIN : Hid (Below z8.heap.size z8 z12) := Lib.hid (HB2.out)
                      go_wp2_with fail
                      go_roundw
                      case rel => exact ⟨j + 1, by omega, by go_num, HFIN.out⟩
                      case measure => simp [intOf]; omega
                    | false =>
                      have hcall := sameTranscripts_any (c := d) (d := c') HR.out HE.out
                      rw [H4.out] at hcall
                      go_wp2_with fail
                      refine hcall.mono ?_
                      rintro e z13 ⟨rfl, hz⟩
                      clear hcall
                      replace HR := Lib.hid (HR.out.same hz)
                      replace HE := Lib.hid (HE.out.same hz)
                      replace HB2 := Lib.hid (HB2.out.trans (hz.mono HB2.out.size))
                      clear hz
                      have HFIN : Hid (Below z8.heap.size z8 z13) := Lib.hid (HB2.out)
                      go_wp2_with fail
                      go_roundw
                      case rel => exact ⟨j + 1, by omega, by go_num, HFIN.out⟩
                      case measure => simp [intOf]; omega
                  | false =>
                    have hcall := checksOut_any k s f (c := c') HE.out HLE.out
                    rw [H3.out] at hcall
                    go_wp2_with fail
                    refine hcall.mono ?_
                    rintro e z14 ⟨rfl, hz⟩
                    clear hcall
                    replace HR := Lib.hid (HR.out.same hz)
                    replace HE := Lib.hid (HE.out.same hz)
                    replace HB2 := Lib.hid (HB2.out.trans (hz.mono HB2.out.size))
                    clear hz
                    clear huu hfu
                    cases r4 with
                    | true =>
                      have hcall := sameTranscripts_any (c := d) (d := c') HR.out HE.out
                      rw [H4.out] at hcall
                      go_wp2_with fail
                      refine hcall.mono ?_
                      rintro e z15 ⟨rfl, hz⟩
                      clear hcall
                      replace HR := Lib.hid (HR.out.same hz)
                      replace HE := Lib.hid (HE.out.same hz)
                      replace HB2 := Lib.hid (HB2.out.trans (hz.mono HB2.out.size))
                      clear hz
                      have hcall := specSame_any (c := d) (d := c') HR.out HE.out
                      rw [H4.out] at hcall
                      go_wp2_with fail
                      refine hcall.mono ?_
                      rintro e z16 ⟨rfl, hz⟩
                      clear hcall
                      replace HR := Lib.hid (HR.out.same hz)
                      replace HE := Lib.hid (HE.out.same hz)
                      replace HB2 := Lib.hid (HB2.out.trans (hz.mono HB2.out.size))
                      clear hz
                      have HFIN : Hid (Below z8.heap.size z8 z16) := Lib.hid (HB2.out)
                      go_wp2_with fail
                      go_roundw
                      case rel => exact ⟨j + 1, by omega, by go_num, HFIN.out⟩
                      case measure => simp [intOf]; omega
                    | false =>
                      have hcall := sameTranscripts_any (c := d) (d := c') HR.out HE.out
                      rw [H4.out] at hcall
                      go_wp2_with fail
                      refine hcall.mono ?_
                      rintro e z17 ⟨rfl, hz⟩
                      clear hcall
                      replace HR := Lib.hid (HR.out.same hz)
                      replace HE := Lib.hid (HE.out.same hz)
                      replace HB2 := Lib.hid (HB2.out.trans (hz.mono HB2.out.size))
                      clear hz
                      have HFIN : Hid (Below z8.heap.size z8 z17) := Lib.hid (HB2.out)
                      go_wp2_with fail
                      go_roundw
                      case rel => exact ⟨j + 1, by omega, by go_num, HFIN.out⟩
                      case measure => simp [intOf]; omega
            · obtain rfl : j = m := by omega
              clear HV HVB HW
              have hcall := sameTranscripts_any (c := d) (d := d) HR.out HR.out
              rw [decide_eq_true rfl] at hcall
              go_wp2_with fail
              refine hcall.mono ?_
              rintro e z18 ⟨rfl, hz⟩
              clear hcall
              replace HR := Lib.hid (HR.out.same hz)
              replace HB := Lib.hid (HB.out.trans (hz.mono HB.out.size))
              clear hz
              go_wp2_with fail
              go_ret
              exact ⟨rfl, HB.out⟩
        | false =>
          have hcall := checksOut_any (k + 1) s f (c := d) HR.out HG.out
          rw [H2.out] at hcall
          go_wp2_with fail
          refine hcall.mono ?_
          rintro e z19 ⟨rfl, hz⟩
          clear hcall
          replace HR := Lib.hid (HR.out.same hz)
          replace HB := Lib.hid (HB.out.trans (hz.mono HB.out.size))
          clear hz
          have HV := HR
          have HVB := HB
          clear hw1 hw2
          go_wp2_with fail
          go_loopw [7] (fun i wr => ∃ j : Nat, j ≤ m ∧ i = .int .i64 j ∧ Below z19.heap.size z19 wr) (fun i _ => m - (intOf i).toNat)
          case atStart => exact ⟨0, Nat.zero_le _, rfl, Below.refl _ _⟩
          case round =>
            obtain ⟨j, hj, rfl, hb⟩ := hrel
            obtain ⟨v0, rfl⟩ : ∃ v0, v0 = wr := ⟨wr, rfl⟩
            replace HR := Lib.hid (HR.out.same hb)
            replace HB := Lib.hid (HB.out.trans (hb.mono HB.out.size))
            have HW := Lib.hid hb
            clear hb
            by_cases hlt : j < m
            · have HM0 : Hid (OwnL (v0.heap.size + 1) (v0.alloc (.cells #[] 29)) v0.heap.size (some ⟨v0.heap.size, 0, none⟩) 0 0 []) := Lib.hid (OwnL.empty (Nat.le_refl _))
              have hjI : (j : Int) < (m : Int) := by omega
              go_wp2_with fail
              go_loopw [8, 9] (fun v i w4 => ∃ (p : Nat) (q' : Option Addr) (c' : Nat) (lm : List (List Int)), v = .slice q' p c' ∧ i = .int .i64 p ∧ p ≤ m ∧ OwnL w4.heap.size w4 v0.heap.size q' p c' lm ∧ Hid (Short lm) ∧ Below v0.heap.size v0 w4) (fun _ i _ => m - (intOf i).toNat)
              case atStart => exact ⟨0, _, 0, [], rfl, rfl, Nat.zero_le _, HM0.out.upper (by simp) (Nat.le_refl _), Lib.hid Short.nil, alloc_same _ _⟩
              case round =>
                obtain ⟨p, q', c', lm, rfl, rfl, hp, hm, HSM, hb⟩ := hrel
                have HM := Lib.hid hm
                have HB4 := Lib.hid hb
                have hs4 := hb.size
                clear hm hb HM0
                by_cases hpm : p < m
                · have hpI : (p : Int) < (m : Int) := by omega
                  have HBE : Hid (Below v0.heap.size v0 (wr.alloc (.cells #[] 3))) := Lib.hid (HB4.out.trans ((alloc_same wr _).mono hs4))
                  obtain ⟨ad, pp, pm, pd, y, rfl, hy, hc, hN, _⟩ := (HR.out.same HBE.out).at_ hpm
                  have hyl := hN.len
                  have hsh := HL.out y (List.mem_of_getElem? hy)
                  have HNE : Hid (Own .i64 3 (wr.alloc (.cells #[] 3)) wr.heap.size (some ⟨wr.heap.size, 0, none⟩) 0 0 []) := Lib.hid (Own.empty (Nat.le_refl _))
                  have HN := Lib.hid hN
                  have HME : Hid (OwnL wr.heap.size (wr.alloc (.cells #[] 3)) v0.heap.size q' p c' lm) := Lib.hid (HM.out.same (alloc_same _ _))
                  clear hy hN
                  go_wp2_with (at_builtin; refine wpl_app _ rfl (.tmp 91) (.tmp 95) 29 rfl .i64 3 i0 (.int .i64 0) 8 Try.underlying29 HI.out.1 HI.out.2.1 HI.out.2.2.1 HI.out.2.2.2 rfl rfl HNE.out rfl HN.out (by omega) ?c1 ?c2 ?_)
                  case c1 => omega
                  case c2 => simp
                  intro a5 c5 w5 ho5 hb5
                  have h5s := hb5.size
                  (try rw [Nat.zero_add, List.nil_append] at ho5)
                  have HN5 : Hid (Own .i64 3 (w5.alloc (.cells #[.slice a5 pm c5] 29)) v0.heap.size a5 pm c5 y) := Lib.hid ((ho5.lower hs4).alloc _)
                  have hsp := ho5.span
                  have HM5 : Hid (OwnL wr.heap.size (w5.alloc (.cells #[.slice a5 pm c5] 29)) v0.heap.size q' p c' lm) := Lib.hid ((HME.out.below hb5).same (alloc_same _ _))
                  have HX5 : Hid (Items Rh.enc 1 (w5.alloc (.cells #[.slice a5 pm c5] 29)) (some ⟨w5.heap.size, 0, none⟩) 1 [⟨a5, pm, c5⟩]) := Lib.hid (items_new Rh.enc_len w5 ⟨a5, pm, c5⟩ 29)
                  have HB5 : Hid (Below v0.heap.size v0 (w5.alloc (.cells #[.slice a5 pm c5] 29))) := Lib.hid ((HBE.out.trans (hb5.mono hs4)).trans ((alloc_same w5 _).mono (by simp at h5s; omega)))
                  have HS5 := Lib.hid (HSM.out.snoc (y := y) hsh)
                  clear ho5 hb5 hc
                  go_wp2_with (at_builtin; refine wpl_appL _ rfl (.tmp 90) (.tmp 97) 24 rfl 29 rfl i1 (.slice none 0 0) 24 Try.underlying24 HJ.out.1 HJ.out.2.1 HJ.out.2.2.1 HJ.out.2.2.2 rfl rfl HM5.out rfl HX5.out HN5.out (fun ad e => (hsp ad e).1) (by omega) (by omega) (by simp at h5s; simp; omega) ?_)
                  intro a6 c6 w6 ho6 hb6 hg6
                  have HM6 := Lib.hid ho6
                  have HB6 := Lib.hid (HB5.out.trans hb6)
                  clear ho6 hb6 hg6
                  go_wp2_with fail
                  go_roundw
                  case rel => exact ⟨p + 1, a6, c6, _, rfl, by go_num, by omega, HM6.out, HS5, HB6.out⟩
                  case measure => simp [intOf]; omega
                · obtain rfl : p = m := by omega
                  replace HR := Lib.hid (HR.out.same HB4.out)
                  replace HB := Lib.hid (HB.out.trans (HB4.out.mono HB.out.size))
                  obtain ⟨hs, g, v, x, rfl, hi1, hr1, hgS, hS, hv, hx, hc, hov⟩ := HM.out.look hlt
                  have hfz := hi1.2.frozenAt j
                  have hvl := hov.len
                  have hxs := HSM.out x (List.mem_of_getElem? hx)
                  have HOV := Lib.hid (hov.alloc (.cells #[.int .i64 0] 3))
                  have hiA : OwnI Rh.enc 1 29 (wr.alloc (.cells #[.int .i64 0] 3)) v0.heap.size (some ⟨g, 0, none⟩) p c' hs := hi1.same (alloc_same _ _)
                  have hrA : RowsL wr.heap.size (wr.alloc (.cells #[.int .i64 0] 3)) v0.heap.size (some ⟨g, 0, none⟩) hs lm := hr1.far (grown_below (alloc_same wr _) none) (fun r e => by cases e)
                  have HIA := Lib.hid (And.intro hiA (And.intro hrA (And.intro hv hx)))
                  have HBA : Hid (Below wr.heap.size wr (wr.alloc (.cells #[.int .i64 0] 3))) := Lib.hid (alloc_same _ _)
                  clear hi1 hr1 hov hiA hrA hv hx
                  go_wp2_with (at_builtin; refine wpl_app_e _ rfl (.tmp 104) (.tmp 105) 29 rfl .i64 3 i0 (.int .i64 0) 8 Try.underlying29 HI.out.1 HI.out.2.1 HI.out.2.2.1 HI.out.2.2.2 rfl rfl HOV.out rfl (nums_new _ _ _ _) (by omega) ?c3 ?c4 ?_)
                  case c3 => omega
                  case c4 => simp; omega
                  intro a5 c5 w5 ho5 hg5 hl5
                  have hst := OwnL.still HIA.out.1 HIA.out.2.1 HIA.out.2.2.2 HIA.out.2.2.1 hlt hg5
                  have hed := OwnL.put HIA.out.1 HIA.out.2.1 (by omega) (by first | (simp; done) | (simp; omega)) HIA.out.2.2.2 HIA.out.2.2.1 hg5 ho5 (fun ad e => by
                    rcases hl5 ad e with q9 | q9
                    · exact Or.inl q9
                    · exact Or.inr (by first | omega | (rw [World.size_alloc]; omega)))
                  have hb5 : Below v0.heap.size (wr.alloc (.cells #[.int .i64 0] 3)) w5 := grown_to hg5 (Below.refl _ _) HOV.out.span (Nat.le_refl _) (by simp; omega)
                  obtain ⟨⟨uu, huu⟩, hfu⟩ := hst
                  have hgv : v0.heap.size ≤ g := (HIA.out.1.span _ rfl).1
                  have HE := Lib.hid hed.1.rws
                  have HLE := Lib.hid (short_set HSM.out j (y := x ++ [0]) (by simp; omega))
                  have HBB : Hid (Below v0.heap.size v0 (w5.setCell ⟨g, j, none⟩ (.slice a5 (v.m + 1) c5))) := Lib.hid ((((HB4.out.trans (HBA.out.mono hs4)).trans hb5)).setCell hgv _)
                  replace HR := Lib.hid (HV.out.same (HW.out.trans (HBB.out.mono HW.out.size)))
                  replace HB := Lib.hid (HVB.out.trans ((HW.out.trans (HBB.out.mono HW.out.size)).mono HVB.out.size))
                  clear hg5 ho5 hl5 hb5 hed hc hfz
                  obtain ⟨r3, hr3⟩ : ∃ r, chkP k (lm.set j (x ++ [0])) s f = r := ⟨_, rfl⟩
                  obtain ⟨r4, hr4⟩ : ∃ r, decide (l = lm.set j (x ++ [0])) = r := ⟨_, rfl⟩
                  have H3 := Lib.hid hr3
                  have H4 := Lib.hid hr4
                  clear hr3 hr4
                  have HB2 : Hid (Below z19.heap.size z19 (w5.setCell ⟨g, j, none⟩ (.slice a5 (v.m + 1) c5))) := Lib.hid (HW.out.trans (HBB.out.mono HW.out.size))
                  clear HV HVB HBB HBA HB4 HIA HOV HM HSM HW HB hgS hS
                  cases r3 with
                  | true =>
                    have hcall := checksOut_any k s f (c := c') HE.out HLE.out
                    rw [H3.out] at hcall
                    go_wp2_with fail
                    refine hcall.mono ?_
                    rintro e z20 ⟨rfl, hz⟩
                    clear hcall
                    replace HR := Lib.hid (HR.out.same hz)
                    replace HE := Lib.hid (HE.out.same hz)
                    replace HB2 := Lib.hid (HB2.out.trans (hz.mono HB2.out.size))
                    clear hz
                    clear huu hfu
                    have hcall := spec_checksOut_any k s f (c := c') HE.out HLE.out
                    rw [H3.out] at hcall
                    go_wp2_with fail
                    refine hcall.mono ?_
                    rintro e z21 ⟨rfl, hz⟩
                    clear hcall
                    replace HR := Lib.hid (HR.out.same hz)
                    replace HE := Lib.hid (HE.out.same hz)
                    replace HB2 := Lib.hid (HB2.out.trans (hz.mono HB2.out.size))
                    clear hz
                    cases r4 with
                    | true =>
                      have hcall := sameTranscripts_any (c := d) (d := c') HR.out HE.out
                      rw [H4.out] at hcall
                      go_wp2_with fail
                      refine hcall.mono ?_
                      rintro e z22 ⟨rfl, hz⟩
                      clear hcall
                      replace HR := Lib.hid (HR.out.same hz)
                      replace HE := Lib.hid (HE.out.same hz)
                      replace HB2 := Lib.hid (HB2.out.trans (hz.mono HB2.out.size))
                      clear hz
                      have hcall := specSame_any (c := d) (d := c') HR.out HE.out
                      rw [H4.out] at hcall
                      go_wp2_with fail
                      refine hcall.mono ?_
                      rintro e z23 ⟨rfl, hz⟩
                      clear hcall
                      replace HR := Lib.hid (HR.out.same hz)
                      replace HE := Lib.hid (HE.out.same hz)
                      replace HB2 := Lib.hid (HB2.out.trans (hz.mono HB2.out.size))
                      clear hz
                      have HFIN : Hid (Below z19.heap.size z19 z23) := Lib.hid (HB2.out)
                      go_wp2_with fail
                      go_roundw
                      case rel => exact ⟨j + 1, by omega, by go_num, HFIN.out⟩
                      case measure => simp [intOf]; omega
                    | false =>
                      have hcall := sameTranscripts_any (c := d) (d := c') HR.out HE.out
                      rw [H4.out] at hcall
                      go_wp2_with fail
                      refine hcall.mono ?_
                      rintro e z24 ⟨rfl, hz⟩
                      clear hcall
                      replace HR := Lib.hid (HR.out.same hz)
                      replace HE := Lib.hid (HE.out.same hz)
                      replace HB2 := Lib.hid (HB2.out.trans (hz.mono HB2.out.size))
                      clear hz
                      have HFIN : Hid (Below z19.heap.size z19 z24) := Lib.hid (HB2.out)
                      go_wp2_with fail
                      go_roundw
                      case rel => exact ⟨j + 1, by omega, by go_num, HFIN.out⟩
                      case measure => simp [intOf]; omega
                  | false =>
                    have hcall := checksOut_any k s f (c := c') HE.out HLE.out
                    rw [H3.out] at hcall
                    go_wp2_with fail
                    refine hcall.mono ?_
                    rintro e z25 ⟨rfl, hz⟩
                    clear hcall
                    replace HR := Lib.hid (HR.out.same hz)
                    replace HE := Lib.hid (HE.out.same hz)
                    replace HB2 := Lib.hid (HB2.out.trans (hz.mono HB2.out.size))
                    clear hz
                    clear huu hfu
                    cases r4 with
                    | true =>
                      have hcall := sameTranscripts_any (c := d) (d := c') HR.out HE.out
                      rw [H4.out] at hcall
                      go_wp2_with fail
                      refine hcall.mono ?_
                      rintro e z26 ⟨rfl, hz⟩
                      clear hcall
                      replace HR := Lib.hid (HR.out.same hz)
                      replace HE := Lib.hid (HE.out.same hz)
                      replace HB2 := Lib.hid (HB2.out.trans (hz.mono HB2.out.size))
                      clear hz
                      have hcall := specSame_any (c := d) (d := c') HR.out HE.out
                      rw [H4.out] at hcall
                      go_wp2_with fail
                      refine hcall.mono ?_
                      rintro e z27 ⟨rfl, hz⟩
                      clear hcall
                      replace HR := Lib.hid (HR.out.same hz)
                      replace HE := Lib.hid (HE.out.same hz)
                      replace HB2 := Lib.hid (HB2.out.trans (hz.mono HB2.out.size))
                      clear hz
                      have HFIN : Hid (Below z19.heap.size z19 z27) := Lib.hid (HB2.out)
                      go_wp2_with fail
                      go_roundw
                      case rel => exact ⟨j + 1, by omega, by go_num, HFIN.out⟩
                      case measure => simp [intOf]; omega
                    | false =>
                      have hcall := sameTranscripts_any (c := d) (d := c') HR.out HE.out
                      rw [H4.out] at hcall
                      go_wp2_with fail
                      refine hcall.mono ?_
                      rintro e z28 ⟨rfl, hz⟩
                      clear hcall
                      replace HR := Lib.hid (HR.out.same hz)
                      replace HE := Lib.hid (HE.out.same hz)
                      replace HB2 := Lib.hid (HB2.out.trans (hz.mono HB2.out.size))
                      clear hz
                      have HFIN : Hid (Below z19.heap.size z19 z28) := Lib.hid (HB2.out)
                      go_wp2_with fail
                      go_roundw
                      case rel => exact ⟨j + 1, by omega, by go_num, HFIN.out⟩
                      case measure => simp [intOf]; omega
            · obtain rfl : j = m := by omega
              clear HV HVB HW
              have hcall := sameTranscripts_any (c := d) (d := d) HR.out HR.out
              rw [decide_eq_true rfl] at hcall
              go_wp2_with fail
              refine hcall.mono ?_
              rintro e z29 ⟨rfl, hz⟩
              clear hcall
              replace HR := Lib.hid (HR.out.same hz)
              replace HB := Lib.hid (HB.out.trans (hz.mono HB.out.size))
              clear hz
              go_wp2_with fail
              go_ret
              exact ⟨rfl, HB.out⟩
      | false =>
        have hcall := checksOut_any k (1 - s) f (c := d) HR.out HG.out
        rw [H1.out] at hcall
        go_wp2_with fail
        refine hcall.mono ?_
        rintro e z30 ⟨rfl, hz⟩
        clear hcall
        replace HR := Lib.hid (HR.out.same hz)
        replace HB := Lib.hid (HB.out.trans (hz.mono HB.out.size))
        clear hz
        cases r2 with
        | true =>
          have hcall := checksOut_any (k + 1) s f (c := d) HR.out HG.out
          rw [H2.out] at hcall
          go_wp2_with fail
          refine hcall.mono ?_
          rintro e z31 ⟨rfl, hz⟩
          clear hcall
          replace HR := Lib.hid (HR.out.same hz)
          replace HB := Lib.hid (HB.out.trans (hz.mono HB.out.size))
          clear hz
          have hcall := spec_checksOut_any (k + 1) s f (c := d) HR.out HG.out
          rw [H2.out] at hcall
          go_wp2_with fail
          refine hcall.mono ?_
          rintro e z32 ⟨rfl, hz⟩
          clear hcall
          replace HR := Lib.hid (HR.out.same hz)
          replace HB := Lib.hid (HB.out.trans (hz.mono HB.out.size))
          clear hz
          have HV := HR
          have HVB := HB
          clear hw1 hw2
          go_wp2_with fail
          go_loopw [7] (fun i wr => ∃ j : Nat, j ≤ m ∧ i = .int .i64 j ∧ Below z32.heap.size z32 wr) (fun i _ => m - (intOf i).toNat)
          case atStart => exact ⟨0, Nat.zero_le _, rfl, Below.refl _ _⟩
          case round =>
            obtain ⟨j, hj, rfl, hb⟩ := hrel
            obtain ⟨v0, rfl⟩ : ∃ v0, v0 = wr := ⟨wr, rfl⟩
            replace HR := Lib.hid (HR.out.same hb)
            replace HB := Lib.hid (HB.out.trans (hb.mono HB.out.size))
            have HW := Lib.hid hb
            clear hb
            by_cases hlt : j < m
            · have HM0 : Hid (OwnL (v0.heap.size + 1) (v0.alloc (.cells #[] 29)) v0.heap.size (some ⟨v0.heap.size, 0, none⟩) 0 0 []) := Lib.hid (OwnL.empty (Nat.le_refl _))
              have hjI : (j : Int) < (m : Int) := by omega
              go_wp2_with fail
              go_loopw [8, 9] (fun v i w4 => ∃ (p : Nat) (q' : Option Addr) (c' : Nat) (lm : List (List Int)), v = .slice q' p c' ∧ i = .int .i64 p ∧ p ≤ m ∧ OwnL w4.heap.size w4 v0.heap.size q' p c' lm ∧ Hid (Short lm) ∧ Below v0.heap.size v0 w4) (fun _ i _ => m - (intOf i).toNat)
              case atStart => exact ⟨0, _, 0, [], rfl, rfl, Nat.zero_le _, HM0.out.upper (by simp) (Nat.le_refl _), Lib.hid Short.nil, alloc_same _ _⟩
              case round =>
                obtain ⟨p, q', c', lm, rfl, rfl, hp, hm, HSM, hb⟩ := hrel
                have HM := Lib.hid hm
                have HB4 := Lib.hid hb
                have hs4 := hb.size
                clear hm hb HM0
                by_cases hpm : p < m
                · have hpI : (p : Int) < (m : Int) := by omega
                  have HBE : Hid (Below v0.heap.size v0 (wr.alloc (.cells #[] 3))) := Lib.hid (HB4.out.trans ((alloc_same wr _).mono hs4))
                  obtain ⟨ad, pp, pm, pd, y, rfl, hy, hc, hN, _⟩ := (HR.out.same HBE.out).at_ hpm
                  have hyl := hN.len
                  have hsh := HL.out y (List.mem_of_getElem? hy)
                  have HNE : Hid (Own .i64 3 (wr.alloc (.cells #[] 3)) wr.heap.size (some ⟨wr.heap.size, 0, none⟩) 0 0 []) := Lib.hid (Own.empty (Nat.le_refl _))
                  have HN := Lib.hid hN
                  have HME : Hid (OwnL wr.heap.size (wr.alloc (.cells #[] 3)) v0.heap.size q' p c' lm) := Lib.hid (HM.out.same (alloc_same _ _))
                  clear hy hN
                  go_wp2_with (at_builtin; refine wpl_app _ rfl (.tmp 91) (.tmp 95) 29 rfl .i64 3 i0 (.int .i64 0) 8 Try.underlying29 HI.out.1 HI.out.2.1 HI.out.2.2.1 HI.out.2.2.2 rfl rfl HNE.out rfl HN.out (by omega) ?c1 ?c2 ?_)
                  case c1 => omega
                  case c2 => simp
                  intro a5 c5 w5 ho5 hb5
                  have h5s := hb5.size
                  (try rw [Nat.zero_add, List.nil_append] at ho5)
                  have HN5 : Hid (Own .i64 3 (w5.alloc (.cells #[.slice a5 pm c5] 29)) v0.heap.size a5 pm c5 y) := Lib.hid ((ho5.lower hs4).alloc _)
                  have hsp := ho5.span
                  have HM5 : Hid (OwnL wr.heap.size (w5.alloc (.cells #[.slice a5 pm c5] 29)) v0.heap.size q' p c' lm) := Lib.hid ((HME.out.below hb5).same (alloc_same _ _))
                  have HX5 : Hid (Items Rh.enc 1 (w5.alloc (.cells #[.slice a5 pm c5] 29)) (some ⟨w5.heap.size, 0, none⟩) 1 [⟨a5, pm, c5⟩]) := Lib.hid (items_new Rh.enc_len w5 ⟨a5, pm, c5⟩ 29)
                  have HB5 : Hid (Below v0.heap.size v0 (w5.alloc (.cells #[.slice a5 pm c5] 29))) := Lib.hid ((HBE.out.trans (hb5.mono hs4)).trans ((alloc_same w5 _).mono (by simp at h5s; omega)))
                  have HS5 := Lib.hid (HSM.out.snoc (y := y) hsh)
                  clear ho5 hb5 hc
                  go_wp2_with (at_builtin; refine wpl_appL _ rfl (.tmp 90) (.tmp 97) 24 rfl 29 rfl i1 (.slice none 0 0) 24 Try.underlying24 HJ.out.1 HJ.out.2.1 HJ.out.2.2.1 HJ.out.2.2.2 rfl rfl HM5.out rfl HX5.out HN5.out (fun ad e => (hsp ad e).1) (by omega) (by omega) (by simp at h5s; simp; omega) ?_)
                  intro a6 c6 w6 ho6 hb6 hg6
                  have HM6 := Lib.hid ho6
                  have HB6 := Lib.hid (HB5.out.trans hb6)
                  clear ho6 hb6 hg6
                  go_wp2_with fail
                  go_roundw
                  case rel => exact ⟨p + 1, a6, c6, _, rfl, by go_num, by omega, HM6.out, HS5, HB6.out⟩
                  case measure => simp [intOf]; omega
                · obtain rfl : p = m := by omega
                  replace HR := Lib.hid (HR.out.same HB4.out)
                  replace HB := Lib.hid (HB.out.trans (HB4.out.mono HB.out.size))
                  obtain ⟨hs, g, v, x, rfl, hi1, hr1, hgS, hS, hv, hx, hc, hov⟩ := HM.out.look hlt
                  have hfz := hi1.2.frozenAt j
                  have hvl := hov.len
                  have hxs := HSM.out x (List.mem_of_getElem? hx)
                  have HOV := Lib.hid (hov.alloc (.cells #[.int .i64 0] 3))
                  have hiA : OwnI Rh.enc 1 29 (wr.alloc (.cells #[.int .i64 0] 3)) v0.heap.size (some ⟨g, 0, none⟩) p c' hs := hi1.same (alloc_same _ _)
                  have hrA : RowsL wr.heap.size (wr.alloc (.cells #[.int .i64 0] 3)) v0.heap.size (some ⟨g, 0, none⟩) hs lm := hr1.far (grown_below (alloc_same wr _) none) (fun r e => by cases e)
                  have HIA := Lib.hid (And.intro hiA (And.intro hrA (And.intro hv hx)))
                  have HBA : Hid (Below wr.heap.size wr (wr.alloc (.cells #[.int .i64 0] 3))) := Lib.hid (alloc_same _ _)
                  clear hi1 hr1 hov hiA hrA hv hx
                  go_wp2_with (at_builtin; refine wpl_app_e _ rfl (.tmp 104) (.tmp 105) 29 rfl .i64 3 i0 (.int .i64 0) 8 Try.underlying29 HI.out.1 HI.out.2.1 HI.out.2.2.1 HI.out.2.2.2 rfl rfl HOV.out rfl (nums_new _ _ _ _) (by omega) ?c3 ?c4 ?_)
                  case c3 => omega
                  case c4 => simp; omega
                  intro a5 c5 w5 ho5 hg5 hl5
                  have hst := OwnL.still HIA.out.1 HIA.out.2.1 HIA.out.2.2.2 HIA.out.2.2.1 hlt hg5
                  have hed := OwnL.put HIA.out.1 HIA.out.2.1 (by omega) (by first | (simp; done) | (simp; omega)) HIA.out.2.2.2 HIA.out.2.2.1 hg5 ho5 (fun ad e => by
                    rcases hl5 ad e with q9 | q9
                    · exact Or.inl q9
                    · exact Or.inr (by first | omega | (rw [World.size_alloc]; omega)))
                  have hb5 : Below v0.heap.size (wr.alloc (.cells #[.int .i64 0] 3)) w5 := grown_to hg5 (Below.refl _ _) HOV.out.span (Nat.le_refl _) (by simp; omega)
                  obtain ⟨⟨uu, huu⟩, hfu⟩ := hst
                  have hgv : v0.heap.size ≤ g := (HIA.out.1.span _ rfl).1
                  have HE := Lib.hid hed.1.rws
                  have HLE := Lib.hid (short_set HSM.out j (y := x ++ [0]) (by simp; omega))
                  have HBB : Hid (Below v0.heap.size v0 (w5.setCell ⟨g, j, none⟩ (.slice a5 (v.m + 1) c5))) := Lib.hid ((((HB4.out.trans (HBA.out.mono hs4)).trans hb5)).setCell hgv _)
                  replace HR := Lib.hid (HV.out.same (HW.out.trans (HBB.out.mono HW.out.size)))
                  replace HB := Lib.hid (HVB.out.trans ((HW.out.trans (HBB.out.mono HW.out.size)).mono HVB.out.size))
                  clear hg5 ho5 hl5 hb5 hed hc hfz
                  obtain ⟨r3, hr3⟩ : ∃ r, chkP k (lm.set j (x ++ [0])) s f = r := ⟨_, rfl⟩
                  obtain ⟨r4, hr4⟩ : ∃ r, decide (l = lm.set j (x ++ [0])) = r := ⟨_, rfl⟩
                  have H3 := Lib.hid hr3
                  have H4 := Lib.hid hr4
                  clear hr3 hr4
                  have HB2 : Hid (Below z32.heap.size z32 (w5.setCell ⟨g, j, none⟩ (.slice a5 (v.m + 1) c5))) := Lib.hid (HW.out.trans (HBB.out.mono HW.out.size))
                  clear HV HVB HBB HBA HB4 HIA HOV HM HSM HW HB hgS hS
                  cases r3 with
                  | true =>
                    have hcall := checksOut_any k s f (c := c') HE.out HLE.out
                    rw [H3.out] at hcall
                    go_wp2_with fail
                    refine hcall.mono ?_
                    rintro e z33 ⟨rfl, hz⟩
                    clear hcall
                    replace HR := Lib.hid (HR.out.same hz)
                    replace HE := Lib.hid (HE.out.same hz)
                    replace HB2 := Lib.hid (HB2.out.trans (hz.mono HB2.out.size))
                    clear hz
                    clear huu hfu
                    have hcall := spec_checksOut_any k s f (c := c') HE.out HLE.out
                    rw [H3.out] at hcall
                    go_wp2_with fail
                    refine hcall.mono ?_
                    rintro e z34 ⟨rfl, hz⟩
                    clear hcall
                    replace HR := Lib.hid (HR.out.same hz)
                    replace HE := Lib.hid (HE.out.same hz)
                    replace HB2 := Lib.hid (HB2.out.trans (hz.mono HB2.out.size))
                    clear hz
                    cases r4 with
                    | true =>
                      have hcall := sameTranscripts_any (c := d) (d := c') HR.out HE.out
                      rw [H4.out] at hcall
                      go_wp2_with fail
                      refine hcall.mono ?_
                      rintro e z35 ⟨rfl, hz⟩
                      clear hcall
                      replace HR := Lib.hid (HR.out.same hz)
                      replace HE := Lib.hid (HE.out.same hz)
                      replace HB2 := Lib.hid (HB2.out.trans (hz.mono HB2.out.size))
                      clear hz
                      have hcall := specSame_any (c := d) (d := c') HR.out HE.out
                      rw [H4.out] at hcall
                      go_wp2_with fail
                      refine hcall.mono ?_
                      rintro e z36 ⟨rfl, hz⟩
                      clear hcall
                      replace HR := Lib.hid (HR.out.same hz)
                      replace HE := Lib.hid (HE.out.same hz)
                      replace HB2 := Lib.hid (HB2.out.trans (hz.mono HB2.out.size))
                      clear hz
                      have HFIN : Hid (Below z32.heap.size z32 z36) := Lib.hid (HB2.out)
                      go_wp2_with fail
                      go_roundw
                      case rel => exact ⟨j + 1, by omega, by go_num, HFIN.out⟩
                      case measure => simp [intOf]; omega
                    | false =>
                      have hcall := sameTranscripts_any (c := d) (d := c') HR.out HE.out
                      rw [H4.out] at hcall
                      go_wp2_with fail
                      refine hcall.mono ?_
                      rintro e z37 ⟨rfl, hz⟩
                      clear hcall
                      replace HR := Lib.hid (HR.out.same hz)
                      replace HE := Lib.hid (HE.out.same hz)
                      replace HB2 := Lib.hid (HB2.out.trans (hz.mono HB2.out.size))
                      clear hz
                      have HFIN : Hid (Below z32.heap.size z32 z37) := Lib.hid (HB2.out)
                      go_wp2_with fail
                      go_roundw
                      case rel => exact ⟨j + 1, by omega, by go_num, HFIN.out⟩
                      case measure => simp [intOf]; omega
                  | false =>
                    have hcall := checksOut_any k s f (c := c') HE.out HLE.out
                    rw [H3.out] at hcall
                    go_wp2_with fail
                    refine hcall.mono ?_
                    rintro e z38 ⟨rfl, hz⟩
                    clear hcall
                    replace HR := Lib.hid (HR.out.same hz)
                    replace HE := Lib.hid (HE.out.same hz)
                    replace HB2 := Lib.hid (HB2.out.trans (hz.mono HB2.out.size))
                    clear hz
                    clear huu hfu
                    cases r4 with
                    | true =>
                      have hcall := sameTranscripts_any (c := d) (d := c') HR.out HE.out
                      rw [H4.out] at hcall
                      go_wp2_with fail
                      refine hcall.mono ?_
                      rintro e z39 ⟨rfl, hz⟩
                      clear hcall
                      replace HR := Lib.hid (HR.out.same hz)
                      replace HE := Lib.hid (HE.out.same hz)
                      replace HB2 := Lib.hid (HB2.out.trans (hz.mono HB2.out.size))
                      clear hz
                      have hcall := specSame_any (c := d) (d := c') HR.out HE.out
                      rw [H4.out] at hcall
                      go_wp2_with fail
                      refine hcall.mono ?_
                      rintro e z40 ⟨rfl, hz⟩
                      clear hcall
                      replace HR := Lib.hid (HR.out.same hz)
                      replace HE := Lib.hid (HE.out.same hz)
                      replace HB2 := Lib.hid (HB2.out.trans (hz.mono HB2.out.size))
                      clear hz
                      have HFIN : Hid (Below z32.heap.size z32 z40) := Lib.hid (HB2.out)
                      go_wp2_with fail
                      go_roundw
                      case rel => exact ⟨j + 1, by omega, by go_num, HFIN.out⟩
                      case measure => simp [intOf]; omega
                    | false =>
                      have hcall := sameTranscripts_any (c := d) (d := c') HR.out HE.out
                      rw [H4.out] at hcall
                      go_wp2_with fail
                      refine hcall.mono ?_
                      rintro e z41 ⟨rfl, hz⟩
                      clear hcall
                      replace HR := Lib.hid (HR.out.same hz)
                      replace HE := Lib.hid (HE.out.same hz)
                      replace HB2 := Lib.hid (HB2.out.trans (hz.mono HB2.out.size))
                      clear hz
                      have HFIN : Hid (Below z32.heap.size z32 z41) := Lib.hid (HB2.out)
                      go_wp2_with fail
                      go_roundw
                      case rel => exact ⟨j + 1, by omega, by go_num, HFIN.out⟩
                      case measure => simp [intOf]; omega
            · obtain rfl : j = m := by omega
              clear HV HVB HW
              have hcall := sameTranscripts_any (c := d) (d := d) HR.out HR.out
              rw [decide_eq_true rfl] at hcall
              go_wp2_with fail
              refine hcall.mono ?_
              rintro e z42 ⟨rfl, hz⟩
              clear hcall
              replace HR := Lib.hid (HR.out.same hz)
              replace HB := Lib.hid (HB.out.trans (hz.mono HB.out.size))
              clear hz
              go_wp2_with fail
              go_ret
              exact ⟨rfl, HB.out⟩
        | false =>
          have hcall := checksOut_any (k + 1) s f (c := d) HR.out HG.out
          rw [H2.out] at hcall
          go_wp2_with fail
          refine hcall.mono ?_
          rintro e z43 ⟨rfl, hz⟩
          clear hcall
          replace HR := Lib.hid (HR.out.same hz)
          replace HB := Lib.hid (HB.out.trans (hz.mono HB.out.size))
          clear hz
          have HV := HR
          have HVB := HB
          clear hw1 hw2
          go_wp2_with fail
          go_loopw [7] (fun i wr => ∃ j : Nat, j ≤ m ∧ i = .int .i64 j ∧ Below z43.heap.size z43 wr) (fun i _ => m - (intOf i).toNat)
          case atStart => exact ⟨0, Nat.zero_le _, rfl, Below.refl _ _⟩
          case round =>
            obtain ⟨j, hj, rfl, hb⟩ := hrel
            obtain ⟨v0, rfl⟩ : ∃ v0, v0 = wr := ⟨wr, rfl⟩
            replace HR := Lib.hid (HR.out.same hb)
            replace HB := Lib.hid (HB.out.trans (hb.mono HB.out.size))
            have HW := Lib.hid hb
            clear hb
            by_cases hlt : j < m
            · have HM0 : Hid (OwnL (v0.heap.size + 1) (v0.alloc (.cells #[] 29)) v0.heap.size (some ⟨v0.heap.size, 0, none⟩) 0 0 []) := Lib.hid (OwnL.empty (Nat.le_refl _))
              have hjI : (j : Int) < (m : Int) := by omega
              go_wp2_with fail
              go_loopw [8, 9] (fun v i w4 => ∃ (p : Nat) (q' : Option Addr) (c' : Nat) (lm : List (List Int)), v = .slice q' p c' ∧ i = .int .i64 p ∧ p ≤ m ∧ OwnL w4.heap.size w4 v0.heap.size q' p c' lm ∧ Hid (Short lm) ∧ Below v0.heap.size v0 w4) (fun _ i _ => m - (intOf i).toNat)
              case atStart => exact ⟨0, _, 0, [], rfl, rfl, Nat.zero_le _, HM0.out.upper (by simp) (Nat.le_refl _), Lib.hid Short.nil, alloc_same _ _⟩
              case round =>
                obtain ⟨p, q', c', lm, rfl, rfl, hp, hm, HSM, hb⟩ := hrel
                have HM := Lib.hid hm
                have HB4 := Lib.hid hb
                have hs4 := hb.size
                clear hm hb HM0
                by_cases hpm : p < m
                · have hpI : (p : Int) < (m : Int) := by omega
                  have HBE : Hid (Below v0.heap.size v0 (wr.alloc (.cells #[] 3))) := Lib.hid (HB4.out.trans ((alloc_same wr _).mono hs4))
                  obtain ⟨ad, pp, pm, pd, y, rfl, hy, hc, hN, _⟩ := (HR.out.same HBE.out).at_ hpm
                  have hyl := hN.len
                  have hsh := HL.out y (List.mem_of_getElem? hy)
                  have HNE : Hid (Own .i64 3 (wr.alloc (.cells #[] 3)) wr.heap.size (some ⟨wr.heap.size, 0, none⟩) 0 0 []) := Lib.hid (Own.empty (Nat.le_refl _))
                  have HN := Lib.hid hN
                  have HME : Hid (OwnL wr.heap.size (wr.alloc (.cells #[] 3)) v0.heap.size q' p c' lm) := Lib.hid (HM.out.same (alloc_same _ _))
                  clear hy hN
                  go_wp2_with (at_builtin; refine wpl_app _ rfl (.tmp 91) (.tmp 95) 29 rfl .i64 3 i0 (.int .i64 0) 8 Try.underlying29 HI.out.1 HI.out.2.1 HI.out.2.2.1 HI.out.2.2.2 rfl rfl HNE.out rfl HN.out (by omega) ?c1 ?c2 ?_)
                  case c1 => omega
                  case c2 => simp
                  intro a5 c5 w5 ho5 hb5
                  have h5s := hb5.size
                  (try rw [Nat.zero_add, List.nil_append] at ho5)
                  have HN5 : Hid (Own .i64 3 (w5.alloc (.cells #[.slice a5 pm c5] 29)) v0.heap.size a5 pm c5 y) := Lib.hid ((ho5.lower hs4).alloc _)
                  have hsp := ho5.span
                  have HM5 : Hid (OwnL wr.heap.size (w5.alloc (.cells #[.slice a5 pm c5] 29)) v0.heap.size q' p c' lm) := Lib.hid ((HME.out.below hb5).same (alloc_same _ _))
                  have HX5 : Hid (Items Rh.enc 1 (w5.alloc (.cells #[.slice a5 pm c5] 29)) (some ⟨w5.heap.size, 0, none⟩) 1 [⟨a5, pm, c5⟩]) := Lib.hid (items_new Rh.enc_len w5 ⟨a5, pm, c5⟩ 29)
                  have HB5 : Hid (Below v0.heap.size v0 (w5.alloc (.cells #[.slice a5 pm c5] 29))) := Lib.hid ((HBE.out.trans (hb5.mono hs4)).trans ((alloc_same w5 _).mono (by simp at h5s; omega)))
                  have HS5 := Lib.hid (HSM.out.snoc (y := y) hsh)
                  clear ho5 hb5 hc
                  go_wp2_with (at_builtin; refine wpl_appL _ rfl (.tmp 90) (.tmp 97) 24 rfl 29 rfl i1 (.slice none 0 0) 24 Try.underlying24 HJ.out.1 HJ.out.2.1 HJ.out.2.2.1 HJ.out.2.2.2 rfl rfl HM5.out rfl HX5.out HN5.out (fun ad e => (hsp ad e).1) (by omega) (by omega) (by simp at h5s; simp; omega) ?_)
                  intro a6 c6 w6 ho6 hb6 hg6
                  have HM6 := Lib.hid ho6
                  have HB6 := Lib.hid (HB5.out.trans hb6)
                  clear ho6 hb6 hg6
                  go_wp2_with fail
                  go_roundw
                  case rel => exact ⟨p + 1, a6, c6, _, rfl, by go_num, by omega, HM6.out, HS5, HB6.out⟩
                  case measure => simp [intOf]; omega
                · obtain rfl : p = m := by omega
                  replace HR := Lib.hid (HR.out.same HB4.out)
                  replace HB := Lib.hid (HB.out.trans (HB4.out.mono HB.out.size))
                  obtain ⟨hs, g, v, x, rfl, hi1, hr1, hgS, hS, hv, hx, hc, hov⟩ := HM.out.look hlt
                  have hfz := hi1.2.frozenAt j
                  have hvl := hov.len
                  have hxs := HSM.out x (List.mem_of_getElem? hx)
                  have HOV := Lib.hid (hov.alloc (.cells #[.int .i64 0] 3))
                  have hiA : OwnI Rh.enc 1 29 (wr.alloc (.cells #[.int .i64 0] 3)) v0.heap.size (some ⟨g, 0, none⟩) p c' hs := hi1.same (alloc_same _ _)
                  have hrA : RowsL wr.heap.size (wr.alloc (.cells #[.int .i64 0] 3)) v0.heap.size (some ⟨g, 0, none⟩) hs lm := hr1.far (grown_below (alloc_same wr _) none) (fun r e => by cases e)
                  have HIA := Lib.hid (And.intro hiA (And.intro hrA (And.intro hv hx)))
                  have HBA : Hid (Below wr.heap.size wr (wr.alloc (.cells #[.int .i64 0] 3))) := Lib.hid (alloc_same _ _)
                  clear hi1 hr1 hov hiA hrA hv hx
                  go_wp2_with (at_builtin; refine wpl_app_e _ rfl (.tmp 104) (.tmp 105) 29 rfl .i64 3 i0 (.int .i64 0) 8 Try.underlying29 HI.out.1 HI.out.2.1 HI.out.2.2.1 HI.out.2.2.2 rfl rfl HOV.out rfl (nums_new _ _ _ _) (by omega) ?c3 ?c4 ?_)
                  case c3 => omega
                  case c4 => simp; omega
                  intro a5 c5 w5 ho5 hg5 hl5
                  have hst := OwnL.still HIA.out.1 HIA.out.2.1 HIA.out.2.2.2 HIA.out.2.2.1 hlt hg5
                  have hed := OwnL.put HIA.out.1 HIA.out.2.1 (by omega) (by first | (simp; done) | (simp; omega)) HIA.out.2.2.2 HIA.out.2.2.1 hg5 ho5 (fun ad e => by
                    rcases hl5 ad e with q9 | q9
                    · exact Or.inl q9
                    · exact Or.inr (by first | omega | (rw [World.size_alloc]; omega)))
                  have hb5 : Below v0.heap.size (wr.alloc (.cells #[.int .i64 0] 3)) w5 := grown_to hg5 (Below.refl _ _) HOV.out.span (Nat.le_refl _) (by simp; omega)
                  obtain ⟨⟨uu, huu⟩, hfu⟩ := hst
                  have hgv : v0.heap.size ≤ g := (HIA.out.1.span _ rfl).1
                  have HE := Lib.hid hed.1.rws
                  have HLE := Lib.hid (short_set HSM.out j (y := x ++ [0]) (by simp; omega))
                  have HBB : Hid (Below v0.heap.size v0 (w5.setCell ⟨g, j, none⟩ (.slice a5 (v.m + 1) c5))) := Lib.hid ((((HB4.out.trans (HBA.out.mono hs4)).trans hb5)).setCell hgv _)
                  replace HR := Lib.hid (HV.out.same (HW.out.trans (HBB.out.mono HW.out.size)))
                  replace HB := Lib.hid (HVB.out.trans ((HW.out.trans (HBB.out.mono HW.out.size)).mono HVB.out.size))
                  clear hg5 ho5 hl5 hb5 hed hc hfz
                  obtain ⟨r3, hr3⟩ : ∃ r, chkP k (lm.set j (x ++ [0])) s f = r := ⟨_, rfl⟩
                  obtain ⟨r4, hr4⟩ : ∃ r, decide (l = lm.set j (x ++ [0])) = r := ⟨_, rfl⟩
                  have H3 := Lib.hid hr3
                  have H4 := Lib.hid hr4
                  clear hr3 hr4
                  have HB2 : Hid (Below z43.heap.size z43 (w5.setCell ⟨g, j, none⟩ (.slice a5 (v.m + 1) c5))) := Lib.hid (HW.out.trans (HBB.out.mono HW.out.size))
                  clear HV HVB HBB HBA HB4 HIA HOV HM HSM HW HB hgS hS
                  cases r3 with
                  | true =>
                    have hcall := checksOut_any k s f (c := c') HE.out HLE.out
                    rw [H3.out] at hcall
                    go_wp2_with fail
                    refine hcall.mono ?_
                    rintro e z44 ⟨rfl, hz⟩
                    clear hcall
                    replace HR := Lib.hid (HR.out.same hz)
                    replace HE := Lib.hid (HE.out.same hz)
                    replace HB2 := Lib.hid (HB2.out.trans (hz.mono HB2.out.size))
                    clear hz
                    clear huu hfu
                    have hcall := spec_checksOut_any k s f (c := c') HE.out HLE.out
                    rw [H3.out] at hcall
                    go_wp2_with fail
                    refine hcall.mono ?_
                    rintro e z45 ⟨rfl, hz⟩
                    clear hcall
                    replace HR := Lib.hid (HR.out.same hz)
                    replace HE := Lib.hid (HE.out.same hz)
                    replace HB2 := Lib.hid (HB2.out.trans (hz.mono HB2.out.size))
                    clear hz
                    cases r4 with
                    | true =>
                      have hcall := sameTranscripts_any (c := d) (d := c') HR.out HE.out
                      rw [H4.out] at hcall
                      go_wp2_with fail
                      refine hcall.mono ?_
                      rintro e z46 ⟨rfl, hz⟩
                      clear hcall
                      replace HR := Lib.hid (HR.out.same hz)
                      replace HE := Lib.hid (HE.out.same hz)
                      replace HB2 := Lib.hid (HB2.out.trans (hz.mono HB2.out.size))
                      clear hz
                      have hcall := specSame_any (c := d) (d := c') HR.out HE.out
                      rw [H4.out] at hcall
                      go_wp2_with fail
                      refine hcall.mono ?_
                      rintro e z47 ⟨rfl, hz⟩
                      clear hcall
                      replace HR := Lib.hid (HR.out.same hz)
                      replace HE := Lib.hid (HE.out.same hz)
                      replace HB2 := Lib.hid (HB2.out.trans (hz.mono HB2.out.size))
                      clear hz
                      have HFIN : Hid (Below z43.heap.size z43 z47) := Lib.hid (HB2.out)
                      go_wp2_with fail
                      go_roundw
                      case rel => exact ⟨j + 1, by omega, by go_num, HFIN.out⟩
                      case measure => simp [intOf]; omega
                    | false =>
                      have hcall := sameTranscripts_any (c := d) (d := c') HR.out HE.out
                      rw [H4.out] at hcall
                      go_wp2_with fail
                      refine hcall.mono ?_
                      rintro e z48 ⟨rfl, hz⟩
                      clear hcall
                      replace HR := Lib.hid (HR.out.same hz)
                      replace HE := Lib.hid (HE.out.same hz)
                      replace HB2 := Lib.hid (HB2.out.trans (hz.mono HB2.out.size))
                      clear hz
                      have HFIN : Hid (Below z43.heap.size z43 z48) := Lib.hid (HB2.out)
                      go_wp2_with fail
                      go_roundw
                      case rel => exact ⟨j + 1, by omega, by go_num, HFIN.out⟩
                      case measure => simp [intOf]; omega
                  | false =>
                    have hcall := checksOut_any k s f (c := c') HE.out HLE.out
                    rw [H3.out] at hcall
                    go_wp2_with fail
                    refine hcall.mono ?_
                    rintro e z49 ⟨rfl, hz⟩
                    clear hcall
                    replace HR := Lib.hid (HR.out.same hz)
                    replace HE := Lib.hid (HE.out.same hz)
                    replace HB2 := Lib.hid (HB2.out.trans (hz.mono HB2.out.size))
                    clear hz
                    clear huu hfu
                    cases r4 with
                    | true =>
                      have hcall := sameTranscripts_any (c := d) (d := c') HR.out HE.out
                      rw [H4.out] at hcall
                      go_wp2_with fail
                      refine hcall.mono ?_
                      rintro e z50 ⟨rfl, hz⟩
                      clear hcall
                      replace HR := Lib.hid (HR.out.same hz)
                      replace HE := Lib.hid (HE.out.same hz)
                      replace HB2 := Lib.hid (HB2.out.trans (hz.mono HB2.out.size))
                      clear hz
                      have hcall := specSame_any (c := d) (d := c') HR.out HE.out
                      rw [H4.out] at hcall
                      go_wp2_with fail
                      refine hcall.mono ?_
                      rintro e z51 ⟨rfl, hz⟩
                      clear hcall
                      replace HR := Lib.hid (HR.out.same hz)
                      replace HE := Lib.hid (HE.out.same hz)
                      replace HB2 := Lib.hid (HB2.out.trans (hz.mono HB2.out.size))
                      clear hz
                      have HFIN : Hid (Below z43.heap.size z43 z51) := Lib.hid (HB2.out)
                      go_wp2_with fail
                      go_roundw
                      case rel => exact ⟨j + 1, by omega, by go_num, HFIN.out⟩
                      case measure => simp [intOf]; omega
                    | false =>
                      have hcall := sameTranscripts_any (c := d) (d := c') HR.out HE.out
                      rw [H4.out] at hcall
                      go_wp2_with fail
                      refine hcall.mono ?_
                      rintro e z52 ⟨rfl, hz⟩
                      clear hcall
                      replace HR := Lib.hid (HR.out.same hz)
                      replace HE := Lib.hid (HE.out.same hz)
                      replace HB2 := Lib.hid (HB2.out.trans (hz.mono HB2.out.size))
                      clear hz
                      have HFIN : Hid (Below z43.heap.size z43 z52) := Lib.hid (HB2.out)
                      go_wp2_with fail
                      go_roundw
                      case rel => exact ⟨j + 1, by omega, by go_num, HFIN.out⟩
                      case measure => simp [intOf]; omega
            · obtain rfl : j = m := by omega
              clear HV HVB HW
              have hcall := sameTranscripts_any (c := d) (d := d) HR.out HR.out
              rw [decide_eq_true rfl] at hcall
              go_wp2_with fail
              refine hcall.mono ?_
              rintro e z53 ⟨rfl, hz⟩
              clear hcall
              replace HR := Lib.hid (HR.out.same hz)
              replace HB := Lib.hid (HB.out.trans (hz.mono HB.out.size))
              clear hz
              go_wp2_with fail
              go_ret
              exact ⟨rfl, HB.out⟩

set_option maxRecDepth 100000 in
theorem lifted (os : Os) (started : os.Started) (H : Type) (enc : TypeId × Value → H) :
    ReturnsInHanded {} Try.checked os 3 .any (Rows.fnTranscriptsSpec.pre6 enc Try.prog Try.f3 Rows.fnTranscriptsRow.domain false) (Rows.fnTranscriptsSpec.post enc Try.prog Try.f3 false true false false) := by
  refine returnsInHanded_of_change (C := Try.checked) own started (by kernel_rfl) Try.func3
    (ChangeSpec.witness6 (enc := enc) (C := Try.checked) false ⟨#[], #[.slice none 0 0], []⟩ 8 (by kernel_rfl) (by kernel_rfl) (by kernel_rfl) (by kernel_rfl)) ?_
  intro W base args ds gs before hval0 hW hcnd _
  have hval : ∀ (j : Nat) t v, Try.f3.params[j]? = some t → args[j]? = some v → Value.okWide Try.prog W .any base t v := hval0
  have hW' := hW
  obtain ⟨p, q, hA0, hV, rfl, hfz, hnd⟩ := hW
  have hA : DataW.TrodAll enc Try.prog W 0 (fun _ => true) true Try.f3.params.toList args.toList ds p := hA0
  rw [Try.params3] at hA hval
  obtain ⟨v0, vs0, d0, ds0, p0, q0, hargs, rfl, rfl, h0, r0⟩ := trodAll_cons hA
  obtain ⟨rfl, rfl, rfl⟩ := trodAll_nil r0
  obtain rfl : args = #[v0] := by cases args; simp_all
  obtain ⟨rfl, rfl⟩ := trodVars_none hV
  have h0k := h0
  have hlt0 : ∀ x ∈ p0, x.block < W.heap.size := fun x hx => by simpa using hW'.lt x (by simp [hx])
  obtain ⟨a0, n0, c0, l0, rfl, K0, F0, R0⟩ := open_nums Try.underlying22 Try.underlying5 byte_cells (hval 0 22 v0 rfl rfl) h0
  clear hA0 hval0
  simp only [List.append_nil] at hW'
  refine (walk a0 n0 c0 l0 W K0 F0 R0).mono fun e W' ⟨he, hb⟩ => ?_
  subst he
  exact ⟨_, rfl, ⟨_, _, _, [], _, [], hW', (trodAll_cons_mk (shut_bool Try.underlying4 _) trodAll_mk0), (trodAll_cons_mk (Below.trod laidOut (by kernel_rfl) (of_decide_eq_true (by kernel_rfl)) h0k hb hlt0) trodAll_mk0), rfl, hb.frame _, fun h => by cases h⟩⟩

theorem over : Rows.fnTranscriptsRow.holds Try.pinned (OpenSpec.ofChange Rows.fnTranscriptsSpec) :=
  OpenClaim.holds_of_wide 3 Try.f3 rfl rfl rfl rfl rfl rfl rfl ⟨rfl, rfl, rfl, rfl, rfl⟩ rfl rfl rfl rfl rfl (by kernel_rfl) Try.func3 (by kernel_rfl)
    (of_decide_eq_true (by kernel_rfl)) (by unfold Func.isWrapper; first | (rw [if_pos (by decide +kernel)]; kernel_rfl) | (rw [if_neg (by decide +kernel)]; exact ⟨rfl, rfl⟩))
    (fun os started H enc _ => lifted os started H enc)

theorem proved : Rows.FnTranscriptsSaid :=
  over
end Go.Proofs.Ytiaknjeeonlbcaa.fnTranscripts
