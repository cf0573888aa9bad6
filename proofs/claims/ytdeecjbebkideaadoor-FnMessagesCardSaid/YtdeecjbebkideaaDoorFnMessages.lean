/- For every input of bytes: of the messages that are drawn exactly those fit their format whose fields that are there fit and whose other fields are empty; comparing does not depend on the order; and exactly a list without values has the text of one. -/
import Derived.Test.YtdeecjbebkideaaDoorDr
import Derived.Test.YtdeecjbebkideaaDoorDrBig
import Derived.Test.YtdeecjbebkideaaDoorDrV3
import Derived.Test.YtdeecjbebkideaaDoorFitsF
import Derived.Test.YtdeecjbebkideaaDoorCount
import Derived.Test.YtdeecjbebkideaaDoorEqVF
import Derived.Test.YtdeecjbebkideaaDoorMsgT
import Derived.Test.YtdeecjbebkideaaDoorOpenV
import Derived.WalkKit
import Derived.Deep.RegionHeld3
import Derived.ProofKit
import Derived.OpenShut
import Derived.Test.YtdeecjbebkideaaDoorLaid
import Derived.Test.YtdeecjbebkideaaDoorTie
import Derived.Test.YtdeecjbebkideaaDoorCards
import Derived.SevenTiedAt
namespace Go.Proofs.YtdeecjbebkideaaDoor.fnMessages
open Go.ChangeShapes Go.WideShapes Go.ChangeAt Go.RowKit Go.Lib
open Go.ChangeMaps (open_string shut_string)
set_option linter.unusedVariables false

theorem own : ownKnob Tryd.prog.godebug = none := by kernel_rfl
set_option linter.unusedSimpArgs false
theorem itemsOf_few (r : Nat) : ∀ (v : List Vl), (∀ x ∈ v, x.items.length ≤ r) → itemsOf v ≤ v.length * r
  | [], _ => by simp [itemsOf]
  | x :: t, h => by
    have h1 := itemsOf_few r t (fun y hy => h y (List.mem_cons_of_mem _ hy))
    have h2 := h x (List.mem_cons_self ..)
    unfold itemsOf at *
    rw [List.map_cons, List.sum_cons, List.length_cons, Nat.succ_mul]
    omega
/-- Whether two lists of values are equal. -/
noncomputable def eqV (u v : List Vl) : Bool := @decide (u = v) (Classical.propDecidable _)
theorem eqV_comm (u v : List Vl) : eqV v u = eqV u v := by
  unfold eqV
  by_cases h : u = v
  · rw [@decide_eq_true _ (Classical.propDecidable _) h, @decide_eq_true _ (Classical.propDecidable _) h.symm]
  · rw [@decide_eq_false _ (Classical.propDecidable _) h, @decide_eq_false _ (Classical.propDecidable _) (fun e => h e.symm)]
theorem equalMessages_eqV {a b : Option Addr} {n m c d : Nat} {u v : List Vl} {w : World} (h : Vals w a n u) (h' : Vals w b m v) :
    Calls Tryd.prog 20 #[.slice a n c, .slice b m d] w (Told (.bool (eqV u v)) w) := by
  by_cases e : u = v
  · rw [show eqV u v = true from @decide_eq_true _ (Classical.propDecidable _) e]
    exact equalMessages_yes h (e ▸ h')
  · rw [show eqV u v = false from @decide_eq_false _ (Classical.propDecidable _) e]
    exact equalMessages_no h h' e

set_option maxHeartbeats 40000000 in
set_option maxRecDepth 100000 in
theorem walk (a0 : Option Addr) (n0 c0 : Nat) (l0 : List Int) (w : World) (ht : Pow10 w) (K0 : Nums .u8 w a0 n0 l0) (F0 : ∀ x ∈ l0, (Lit.int .u8 x).wf = true) (R0 : n0 ≤ c0 ∧ (c0 : Int) ≤ 9223372036854775807) :
    Calls Tryd.prog 4 #[.slice a0 n0 c0] w fun e w' => e = .returned (.bool true) ∧ Below w.heap.size w w' := by
  have HK := Lib.hid K0
  have HF := Lib.hid (bs_of_wf F0)
  have HT := Lib.hid ht
  have hfit := K0.fits
  clear K0 F0 R0 ht
  by_cases hbig : 1048576 < n0
  · go_enter Tryd.func4, Tryd.ntmps4
    go_wp2_with fail
    refine (big_yes a0 n0 c0 hfit hbig _).mono ?_
    rintro e w1 ⟨rfl, rfl⟩
    go_wp2_with fail
    go_ret
    exact ⟨rfl, Below.refl _ _⟩
  · have HC := Lib.hid (code_of HK.out HF.out)
    go_enter Tryd.func4, Tryd.ntmps4
    go_wp2_with fail
    refine (big_no a0 n0 c0 hfit hbig _).mono ?_
    rintro e w1 ⟨rfl, rfl⟩
    go_wp2_with fail
    refine (drawFitsFormat_any a0 n0 c0 _ HC.out).mono ?_
    rintro e w1 ⟨f, fn, fc, l, ao, m, co, v, rfl, hf1, hr1, hfn, hv1, hm6, hvk, hb1⟩
    have HF1 := Lib.hid hf1
    have HV1 := Lib.hid hv1
    have HR := Lib.hid hr1
    have HVK := Lib.hid hvk
    have HB1 := Lib.hid hb1
    have hln := Lib.hid hf1.len
    have hvn := Lib.hid hv1.len
    clear hf1 hv1 hr1 hvk hb1
    have hfc : fn ≤ fc := HR.out.1
    have KI := Lib.hid (isFormat_any f fn fc l w1 HF1.out HR.out)
    cases hfm : isFmt l with
    | false =>
      rw [hfm] at KI
      have HE : Hid (fitsFmt l v = false) := Lib.hid (fitsFmt_notFmt hfm)
      clear hfm
      go_wp2_with fail
      refine KI.out.mono ?_
      rintro e w2 ⟨rfl, hb2⟩
      have HB2 := Lib.hid (HB1.out.trans (hb2.mono HB1.out.size))
      have HF2 := Lib.hid (HF1.out.same hb2)
      have HV2 := Lib.hid (HV1.out.same hb2)
      clear hb2 KI
      go_wp2_with fail
      go_loop [5, 6, 7] (fun s q i => s = .bool false ∧ q = .int .i64 0 ∧ i = .int .i64 0) (fun _ _ _ => 0)
      case atStart => exact ⟨rfl, rfl, rfl⟩
      case round =>
        obtain ⟨rfl, rfl, rfl⟩ := hrel
        have HBL := Lib.hid HB2.out
        have HFL := Lib.hid HF2.out
        have HVL := Lib.hid HV2.out
        by_cases hlt : 0 < fn
        · have e1 : decide ((0 : Int) < (fn : Int)) = true := decide_eq_true (by omega)
          have e2 : (0 : Int) < (fn : Int) := by omega
          go_wp2_with fail
          have KFT := Lib.hid (fitsFormat_any f fn fc l ao m co v _ HFL.out HVL.out HR.out (by omega) (by omega))
          rw [HE.out] at KFT
          refine KFT.out.mono ?_
          rintro e x1 ⟨rfl, hx1⟩
          replace HBL := Lib.hid (HBL.out.trans (hx1.mono HBL.out.size))
          replace HFL := Lib.hid (HFL.out.same hx1)
          replace HVL := Lib.hid (HVL.out.same hx1)
          clear hx1 KFT
          go_wp2_with fail
          refine (drawEqualMessages_any a0 n0 c0 _ (HC.out.same HBL.out)).mono ?_
          rintro e x3 ⟨b1, m1, e1, u1, b2, m2, e2, u2, rfl, hu1, hu2, hx3⟩
          replace HBL := Lib.hid (HBL.out.trans (hx3.mono HBL.out.size))
          replace HVL := Lib.hid (HVL.out.same hx3)
          have HU1 := Lib.hid hu1
          have HU2 := Lib.hid hu2
          clear hu1 hu2 hx3
          obtain ⟨be, hbe⟩ : ∃ be, be = eqV u1 u2 := ⟨_, rfl⟩
          have HBE := Lib.hid hbe
          clear hbe
          go_wp2_with fail
          have K1 := equalMessages_eqV (c := e1) (d := e2) HU1.out HU2.out
          rw [← HBE.out] at K1
          refine K1.mono ?_
          rintro e x4 ⟨rfl, hx4⟩
          replace HBL := Lib.hid (HBL.out.trans (hx4.mono HBL.out.size))
          replace HVL := Lib.hid (HVL.out.same hx4)
          replace HU1 := Lib.hid (HU1.out.same hx4)
          replace HU2 := Lib.hid (HU2.out.same hx4)
          clear hx4 K1
          go_wp2_with fail
          have K2 := equalMessages_eqV (c := e2) (d := e1) HU2.out HU1.out
          rw [eqV_comm, ← HBE.out] at K2
          refine K2.mono ?_
          rintro e x5 ⟨rfl, hx5⟩
          replace HBL := Lib.hid (HBL.out.trans (hx5.mono HBL.out.size))
          replace HVL := Lib.hid (HVL.out.same hx5)
          replace HU1 := Lib.hid (HU1.out.same hx5)
          clear hx5 K2
          have hbb : (be == be) = true := by simp
          go_wp2_with fail
          refine (equalMessages_yes (c := e1) (d := e1) HU1.out HU1.out).mono ?_
          rintro e x6 ⟨rfl, hx6⟩
          replace HBL := Lib.hid (HBL.out.trans (hx6.mono HBL.out.size))
          replace HVL := Lib.hid (HVL.out.same hx6)
          clear hx6
          have hvl := HVL.out.len
          have hit := itemsOf_few 6 v (fun x hx => (HVK.out x hx).2)
          have KM := Lib.hid (messageText_any ao m co v _ HVL.out (fun x hx => ⟨(HVK.out x hx).1.1, (HVK.out x hx).1.2⟩) (by omega) (pow_stays HT.out HBL.out (Nat.le_refl _)))
          clear hit
          by_cases hm0 : m = 0
          · have hv0 : v = [] := List.eq_nil_of_length_eq_zero (by rw [hvl, hm0])
            rw [msgText_dash.2 hv0] at KM
            clear hvl hv0
            subst hm0
            go_wp2_with fail
            refine KM.out.mono ?_
            rintro e x7 ⟨rfl, hx7⟩
            replace HBL := Lib.hid (HBL.out.trans (hx7.mono HBL.out.size))
            clear hx7 KM
            go_wp2_with fail
            go_ret
            exact ⟨rfl, HBL.out⟩
          · have hms : msgText v ≠ [45] := fun e => hm0 (by rw [← hvl, msgText_dash.1 e]; rfl)
            obtain ⟨st, hst⟩ : ∃ st : ByteArray, st = ⟨(msgText v).toArray⟩ := ⟨_, rfl⟩
            have hne : (st.toList == [45]) = false := by
              rw [hst, ByteArray.toList_eq]
              simp only [beq_eq_false_iff_ne, ne_eq]
              intro e
              exact hms (by simpa using e)
            rw [← hst] at KM
            have hm1 : decide ((0 : Int) < (m : Int)) = true := decide_eq_true (by omega)
            have hm2 : 0 < m := by omega
            clear hvl hms hst
            go_wp2_with fail
            refine KM.out.mono ?_
            rintro e x7 ⟨rfl, hx7⟩
            replace HBL := Lib.hid (HBL.out.trans (hx7.mono HBL.out.size))
            clear hx7 KM
            go_wp2_with fail
            go_ret
            exact ⟨rfl, HBL.out⟩
        · have e1 : decide ((0 : Int) < (fn : Int)) = false := decide_eq_false (by omega)
          have e2 : ¬ (0 : Int) < (fn : Int) := by omega
          go_wp2_with fail
          have KFT := Lib.hid (fitsFormat_any f fn fc l ao m co v _ HFL.out HVL.out HR.out (by omega) (by omega))
          rw [HE.out] at KFT
          refine KFT.out.mono ?_
          rintro e x1 ⟨rfl, hx1⟩
          replace HBL := Lib.hid (HBL.out.trans (hx1.mono HBL.out.size))
          replace HFL := Lib.hid (HFL.out.same hx1)
          replace HVL := Lib.hid (HVL.out.same hx1)
          clear hx1 KFT
          go_wp2_with fail
          refine (drawEqualMessages_any a0 n0 c0 _ (HC.out.same HBL.out)).mono ?_
          rintro e x3 ⟨b1, m1, e1, u1, b2, m2, e2, u2, rfl, hu1, hu2, hx3⟩
          replace HBL := Lib.hid (HBL.out.trans (hx3.mono HBL.out.size))
          replace HVL := Lib.hid (HVL.out.same hx3)
          have HU1 := Lib.hid hu1
          have HU2 := Lib.hid hu2
          clear hu1 hu2 hx3
          obtain ⟨be, hbe⟩ : ∃ be, be = eqV u1 u2 := ⟨_, rfl⟩
          have HBE := Lib.hid hbe
          clear hbe
          go_wp2_with fail
          have K1 := equalMessages_eqV (c := e1) (d := e2) HU1.out HU2.out
          rw [← HBE.out] at K1
          refine K1.mono ?_
          rintro e x4 ⟨rfl, hx4⟩
          replace HBL := Lib.hid (HBL.out.trans (hx4.mono HBL.out.size))
          replace HVL := Lib.hid (HVL.out.same hx4)
          replace HU1 := Lib.hid (HU1.out.same hx4)
          replace HU2 := Lib.hid (HU2.out.same hx4)
          clear hx4 K1
          go_wp2_with fail
          have K2 := equalMessages_eqV (c := e2) (d := e1) HU2.out HU1.out
          rw [eqV_comm, ← HBE.out] at K2
          refine K2.mono ?_
          rintro e x5 ⟨rfl, hx5⟩
          replace HBL := Lib.hid (HBL.out.trans (hx5.mono HBL.out.size))
          replace HVL := Lib.hid (HVL.out.same hx5)
          replace HU1 := Lib.hid (HU1.out.same hx5)
          clear hx5 K2
          have hbb : (be == be) = true := by simp
          go_wp2_with fail
          refine (equalMessages_yes (c := e1) (d := e1) HU1.out HU1.out).mono ?_
          rintro e x6 ⟨rfl, hx6⟩
          replace HBL := Lib.hid (HBL.out.trans (hx6.mono HBL.out.size))
          replace HVL := Lib.hid (HVL.out.same hx6)
          clear hx6
          have hvl := HVL.out.len
          have hit := itemsOf_few 6 v (fun x hx => (HVK.out x hx).2)
          have KM := Lib.hid (messageText_any ao m co v _ HVL.out (fun x hx => ⟨(HVK.out x hx).1.1, (HVK.out x hx).1.2⟩) (by omega) (pow_stays HT.out HBL.out (Nat.le_refl _)))
          clear hit
          by_cases hm0 : m = 0
          · have hv0 : v = [] := List.eq_nil_of_length_eq_zero (by rw [hvl, hm0])
            rw [msgText_dash.2 hv0] at KM
            clear hvl hv0
            subst hm0
            go_wp2_with fail
            refine KM.out.mono ?_
            rintro e x7 ⟨rfl, hx7⟩
            replace HBL := Lib.hid (HBL.out.trans (hx7.mono HBL.out.size))
            clear hx7 KM
            go_wp2_with fail
            go_ret
            exact ⟨rfl, HBL.out⟩
          · have hms : msgText v ≠ [45] := fun e => hm0 (by rw [← hvl, msgText_dash.1 e]; rfl)
            obtain ⟨st, hst⟩ : ∃ st : ByteArray, st = ⟨(msgText v).toArray⟩ := ⟨_, rfl⟩
            have hne : (st.toList == [45]) = false := by
              rw [hst, ByteArray.toList_eq]
              simp only [beq_eq_false_iff_ne, ne_eq]
              intro e
              exact hms (by simpa using e)
            rw [← hst] at KM
            have hm1 : decide ((0 : Int) < (m : Int)) = true := decide_eq_true (by omega)
            have hm2 : 0 < m := by omega
            clear hvl hms hst
            go_wp2_with fail
            refine KM.out.mono ?_
            rintro e x7 ⟨rfl, hx7⟩
            replace HBL := Lib.hid (HBL.out.trans (hx7.mono HBL.out.size))
            clear hx7 KM
            go_wp2_with fail
            go_ret
            exact ⟨rfl, HBL.out⟩
    | true =>
      rw [hfm] at KI
      by_cases hnm : fn = m
      · subst hnm
        have HY := Lib.hid (fun ht => fitsFmt_yes (l := l) (v := v) hfm (by rw [hln.out, hvn.out]) ht)
        clear hfm
        go_wp2_with fail
        refine KI.out.mono ?_
        rintro e w2 ⟨rfl, hb2⟩
        have HB2 := Lib.hid (HB1.out.trans (hb2.mono HB1.out.size))
        have HF2 := Lib.hid (HF1.out.same hb2)
        have HV2 := Lib.hid (HV1.out.same hb2)
        clear hb2 KI
        go_wp2_with fail
        go_loopw [5, 6, 7] (fun s q i wr => ∃ (j : Nat) (fb : Bool) (nn : Nat), j ≤ fn ∧ i = .int .i64 j ∧ s = .bool fb ∧ q = .int .i64 nn ∧ nn ≤ j ∧ (fb = true → fitsTo l v j ∧ nn = thereTo l v j) ∧ (fb = false → fitsFmt l v = false) ∧ Below w2.heap.size w2 wr) (fun _ _ i _ => fn - (intOf i).toNat)
        case atStart => exact ⟨0, true, 0, Nat.zero_le _, rfl, rfl, rfl, Nat.le_refl _, (fun _ => ⟨fitsTo_zero _ _, rfl⟩), (fun h => by cases h), Below.refl _ _⟩
        case round =>
          obtain ⟨j, fb, nn, hj, rfl, rfl, rfl, hnj, hyes, hno, hb⟩ := hrel
          have HBL := Lib.hid (HB2.out.trans (hb.mono HB2.out.size))
          have HFL := Lib.hid (HF2.out.same hb)
          have HVL := Lib.hid (HV2.out.same hb)
          have HBW := Lib.hid hb
          clear hb
          cases fb with
          | false =>
            have HE := Lib.hid (hno rfl)
            clear hyes hno
            by_cases hlt : j < fn
            · have e1 : decide ((j : Int) < (fn : Int)) = true := decide_eq_true (by omega)
              have e2 : (j : Int) < (fn : Int) := by omega
              go_wp2_with fail
              have KFT := Lib.hid (fitsFormat_any f fn fc l ao fn co v _ HFL.out HVL.out HR.out (by omega) (by omega))
              rw [HE.out] at KFT
              refine KFT.out.mono ?_
              rintro e x1 ⟨rfl, hx1⟩
              replace HBL := Lib.hid (HBL.out.trans (hx1.mono HBL.out.size))
              replace HFL := Lib.hid (HFL.out.same hx1)
              replace HVL := Lib.hid (HVL.out.same hx1)
              clear hx1 KFT
              go_wp2_with fail
              refine (drawEqualMessages_any a0 n0 c0 _ (HC.out.same HBL.out)).mono ?_
              rintro e x3 ⟨b1, m1, e1, u1, b2, m2, e2, u2, rfl, hu1, hu2, hx3⟩
              replace HBL := Lib.hid (HBL.out.trans (hx3.mono HBL.out.size))
              replace HVL := Lib.hid (HVL.out.same hx3)
              have HU1 := Lib.hid hu1
              have HU2 := Lib.hid hu2
              clear hu1 hu2 hx3
              obtain ⟨be, hbe⟩ : ∃ be, be = eqV u1 u2 := ⟨_, rfl⟩
              have HBE := Lib.hid hbe
              clear hbe
              go_wp2_with fail
              have K1 := equalMessages_eqV (c := e1) (d := e2) HU1.out HU2.out
              rw [← HBE.out] at K1
              refine K1.mono ?_
              rintro e x4 ⟨rfl, hx4⟩
              replace HBL := Lib.hid (HBL.out.trans (hx4.mono HBL.out.size))
              replace HVL := Lib.hid (HVL.out.same hx4)
              replace HU1 := Lib.hid (HU1.out.same hx4)
              replace HU2 := Lib.hid (HU2.out.same hx4)
              clear hx4 K1
              go_wp2_with fail
              have K2 := equalMessages_eqV (c := e2) (d := e1) HU2.out HU1.out
              rw [eqV_comm, ← HBE.out] at K2
              refine K2.mono ?_
              rintro e x5 ⟨rfl, hx5⟩
              replace HBL := Lib.hid (HBL.out.trans (hx5.mono HBL.out.size))
              replace HVL := Lib.hid (HVL.out.same hx5)
              replace HU1 := Lib.hid (HU1.out.same hx5)
              clear hx5 K2
              have hbb : (be == be) = true := by simp
              go_wp2_with fail
              refine (equalMessages_yes (c := e1) (d := e1) HU1.out HU1.out).mono ?_
              rintro e x6 ⟨rfl, hx6⟩
              replace HBL := Lib.hid (HBL.out.trans (hx6.mono HBL.out.size))
              replace HVL := Lib.hid (HVL.out.same hx6)
              clear hx6
              have hvl := HVL.out.len
              have hit := itemsOf_few 6 v (fun x hx => (HVK.out x hx).2)
              have KM := Lib.hid (messageText_any ao fn co v _ HVL.out (fun x hx => ⟨(HVK.out x hx).1.1, (HVK.out x hx).1.2⟩) (by omega) (pow_stays HT.out HBL.out (Nat.le_refl _)))
              clear hit
              by_cases hm0 : fn = 0
              · have hv0 : v = [] := List.eq_nil_of_length_eq_zero (by rw [hvl, hm0])
                rw [msgText_dash.2 hv0] at KM
                clear hvl hv0
                subst hm0
                go_wp2_with fail
                refine KM.out.mono ?_
                rintro e x7 ⟨rfl, hx7⟩
                replace HBL := Lib.hid (HBL.out.trans (hx7.mono HBL.out.size))
                clear hx7 KM
                go_wp2_with fail
                go_ret
                exact ⟨rfl, HBL.out⟩
              · have hms : msgText v ≠ [45] := fun e => hm0 (by rw [← hvl, msgText_dash.1 e]; rfl)
                obtain ⟨st, hst⟩ : ∃ st : ByteArray, st = ⟨(msgText v).toArray⟩ := ⟨_, rfl⟩
                have hne : (st.toList == [45]) = false := by
                  rw [hst, ByteArray.toList_eq]
                  simp only [beq_eq_false_iff_ne, ne_eq]
                  intro e
                  exact hms (by simpa using e)
                rw [← hst] at KM
                have hm1 : decide ((0 : Int) < (fn : Int)) = true := decide_eq_true (by omega)
                have hm2 : 0 < fn := by omega
                clear hvl hms hst
                go_wp2_with fail
                refine KM.out.mono ?_
                rintro e x7 ⟨rfl, hx7⟩
                replace HBL := Lib.hid (HBL.out.trans (hx7.mono HBL.out.size))
                clear hx7 KM
                go_wp2_with fail
                go_ret
                exact ⟨rfl, HBL.out⟩
            · have e1 : decide ((j : Int) < (fn : Int)) = false := decide_eq_false (by omega)
              have e2 : ¬ (j : Int) < (fn : Int) := by omega
              go_wp2_with fail
              have KFT := Lib.hid (fitsFormat_any f fn fc l ao fn co v _ HFL.out HVL.out HR.out (by omega) (by omega))
              rw [HE.out] at KFT
              refine KFT.out.mono ?_
              rintro e x1 ⟨rfl, hx1⟩
              replace HBL := Lib.hid (HBL.out.trans (hx1.mono HBL.out.size))
              replace HFL := Lib.hid (HFL.out.same hx1)
              replace HVL := Lib.hid (HVL.out.same hx1)
              clear hx1 KFT
              go_wp2_with fail
              refine (drawEqualMessages_any a0 n0 c0 _ (HC.out.same HBL.out)).mono ?_
              rintro e x3 ⟨b1, m1, e1, u1, b2, m2, e2, u2, rfl, hu1, hu2, hx3⟩
              replace HBL := Lib.hid (HBL.out.trans (hx3.mono HBL.out.size))
              replace HVL := Lib.hid (HVL.out.same hx3)
              have HU1 := Lib.hid hu1
              have HU2 := Lib.hid hu2
              clear hu1 hu2 hx3
              obtain ⟨be, hbe⟩ : ∃ be, be = eqV u1 u2 := ⟨_, rfl⟩
              have HBE := Lib.hid hbe
              clear hbe
              go_wp2_with fail
              have K1 := equalMessages_eqV (c := e1) (d := e2) HU1.out HU2.out
              rw [← HBE.out] at K1
              refine K1.mono ?_
              rintro e x4 ⟨rfl, hx4⟩
              replace HBL := Lib.hid (HBL.out.trans (hx4.mono HBL.out.size))
              replace HVL := Lib.hid (HVL.out.same hx4)
              replace HU1 := Lib.hid (HU1.out.same hx4)
              replace HU2 := Lib.hid (HU2.out.same hx4)
              clear hx4 K1
              go_wp2_with fail
              have K2 := equalMessages_eqV (c := e2) (d := e1) HU2.out HU1.out
              rw [eqV_comm, ← HBE.out] at K2
              refine K2.mono ?_
              rintro e x5 ⟨rfl, hx5⟩
              replace HBL := Lib.hid (HBL.out.trans (hx5.mono HBL.out.size))
              replace HVL := Lib.hid (HVL.out.same hx5)
              replace HU1 := Lib.hid (HU1.out.same hx5)
              clear hx5 K2
              have hbb : (be == be) = true := by simp
              go_wp2_with fail
              refine (equalMessages_yes (c := e1) (d := e1) HU1.out HU1.out).mono ?_
              rintro e x6 ⟨rfl, hx6⟩
              replace HBL := Lib.hid (HBL.out.trans (hx6.mono HBL.out.size))
              replace HVL := Lib.hid (HVL.out.same hx6)
              clear hx6
              have hvl := HVL.out.len
              have hit := itemsOf_few 6 v (fun x hx => (HVK.out x hx).2)
              have KM := Lib.hid (messageText_any ao fn co v _ HVL.out (fun x hx => ⟨(HVK.out x hx).1.1, (HVK.out x hx).1.2⟩) (by omega) (pow_stays HT.out HBL.out (Nat.le_refl _)))
              clear hit
              by_cases hm0 : fn = 0
              · have hv0 : v = [] := List.eq_nil_of_length_eq_zero (by rw [hvl, hm0])
                rw [msgText_dash.2 hv0] at KM
                clear hvl hv0
                subst hm0
                go_wp2_with fail
                refine KM.out.mono ?_
                rintro e x7 ⟨rfl, hx7⟩
                replace HBL := Lib.hid (HBL.out.trans (hx7.mono HBL.out.size))
                clear hx7 KM
                go_wp2_with fail
                go_ret
                exact ⟨rfl, HBL.out⟩
              · have hms : msgText v ≠ [45] := fun e => hm0 (by rw [← hvl, msgText_dash.1 e]; rfl)
                obtain ⟨st, hst⟩ : ∃ st : ByteArray, st = ⟨(msgText v).toArray⟩ := ⟨_, rfl⟩
                have hne : (st.toList == [45]) = false := by
                  rw [hst, ByteArray.toList_eq]
                  simp only [beq_eq_false_iff_ne, ne_eq]
                  intro e
                  exact hms (by simpa using e)
                rw [← hst] at KM
                have hm1 : decide ((0 : Int) < (fn : Int)) = true := decide_eq_true (by omega)
                have hm2 : 0 < fn := by omega
                clear hvl hms hst
                go_wp2_with fail
                refine KM.out.mono ?_
                rintro e x7 ⟨rfl, hx7⟩
                replace HBL := Lib.hid (HBL.out.trans (hx7.mono HBL.out.size))
                clear hx7 KM
                go_wp2_with fail
                go_ret
                exact ⟨rfl, HBL.out⟩
          | true =>
            have HFT := Lib.hid (hyes rfl).1
            have HTH := Lib.hid (hyes rfl).2
            clear hyes hno
            by_cases hlt : j < fn
            · have e1 : decide ((j : Int) < (fn : Int)) = true := decide_eq_true (by omega)
              have e2 : (j : Int) < (fn : Int) := by omega
              obtain ⟨bl, ol, ⟨xk, xm, xt, xi⟩, rfl, hx, hc0, hc1, hc2, hc3⟩ := fds_at HFL.out hlt
              obtain ⟨bv, ov, p, q, g, k, y, rfl, hy, hv0, hv1, hN, hr⟩ := HVL.out.at_ hlt
              dsimp only at hc0 hc1 hc2 hc3
              have HX := Lib.hid hx
              have HYY := Lib.hid hy
              have KT := Lib.hid (isThere_any _ fn fc l _ fn co v j wr HFL.out HVL.out (by omega) (by omega))
              have C0 := Lib.hid hc0
              have C1 := Lib.hid hc1
              have C2 := Lib.hid hc2
              have C3 := Lib.hid hc3
              have C4 := Lib.hid hv0
              have C5 := Lib.hid hv1
              have HN1 := Lib.hid hN
              clear hx hy hc0 hc1 hc2 hc3 hv0 hv1 hN
              cases ht : isThere l v j with
              | true =>
                rw [ht] at KT
                have HTT := Lib.hid ht
                clear ht
                go_wp2_with fail
                refine KT.out.mono ?_
                rintro e y1 ⟨rfl, hy1⟩
                have HBY := Lib.hid (HBW.out.trans (hy1.mono HBW.out.size))
                have D0 := Lib.hid (cell_stay C0.out hy1)
                have D1 := Lib.hid (cell_stay C1.out hy1)
                have D2 := Lib.hid (cell_stay C2.out hy1)
                have D3 := Lib.hid (cell_stay C3.out hy1)
                have D4 := Lib.hid (cell_stay C4.out hy1)
                have D5 := Lib.hid (cell_stay C5.out hy1)
                have HN2 := Lib.hid (HN1.out.same hy1)
                have KV := Lib.hid (fun (w0 : World) (h0 : Nums .i64 w0 p q y) => fitsField_any ⟨xk, xm, xt, xi⟩ k p q g y w0 h0)
                unfold Fd.val at KV
                obtain ⟨fb, hfb⟩ : ∃ fb, fb = fitsField ⟨xk, xm, xt, xi⟩ k y := ⟨_, rfl⟩
                rw [← hfb] at KV
                have HFB := Lib.hid hfb
                clear hy1 KT C0 C1 C2 C3 C4 C5 hfb
                go_wp2_with fail
                have HBd : Hid (Below y1.heap.size y1 y1.drew) := Lib.hid (Below.refl _ _).drew
                refine wp_region_held_drew (S := (fun w' => w'.cell? ⟨bl, ol + j * 4, none⟩ = some (.int .i64 xk) ∧ w'.cell? ⟨bl, ol + j * 4 + 1, none⟩ = some (.int .i64 xm) ∧ w'.cell? ⟨bl, ol + j * 4 + 2, none⟩ = some (.int .i64 xt) ∧ w'.cell? ⟨bl, ol + j * 4 + 3, none⟩ = some (.int .i64 xi) ∧ w'.cell? ⟨bv, ov + j * 2, none⟩ = some (.int .i64 k) ∧ w'.cell? ⟨bv, ov + j * 2 + 1, none⟩ = some (.slice p q g))) (by kernel_rfl) ⟨cell_stay D0.out HBd.out, cell_stay D1.out HBd.out, cell_stay D2.out HBd.out, cell_stay D3.out HBd.out, cell_stay D4.out HBd.out, cell_stay D5.out HBd.out⟩ (fun hHeld => ?_)
                refine wpAnyH_take (i := 0) (v := ?v1) (by simp only [List.getElem?_toArray, List.getElem?_cons_succ, List.getElem?_cons_zero]; rfl) (by kernel_rfl) (by kernel_rfl) (by kernel_rfl) (by exact fun _ _ _ h => h) (Or.inl ⟨by rfl, fun w9 hS9 => ?hy1⟩) hHeld ?rest1
                case hy1 =>
                  dsimp only at hS9
                  obtain ⟨s0, s1, s2, s3, s4, s5⟩ := hS9
                  go_simp
                  try with_reducible rfl
                try simp only [Act.put, List.setIfInBounds_toArray, List.set_cons_zero, List.set_cons_succ]
                refine wpAnyH_take (i := 1) (v := ?v2) (by simp only [List.getElem?_toArray, List.getElem?_cons_succ, List.getElem?_cons_zero]; rfl) (by kernel_rfl) (by kernel_rfl) (by kernel_rfl) (by exact fun _ _ _ h => h) (Or.inl ⟨by rfl, fun w9 hS9 => ?hy2⟩) hHeld ?rest2
                case hy2 =>
                  dsimp only at hS9
                  obtain ⟨s0, s1, s2, s3, s4, s5⟩ := hS9
                  go_simp
                  try with_reducible rfl
                try simp only [Act.put, List.setIfInBounds_toArray, List.set_cons_zero, List.set_cons_succ]
                refine wpAnyH_take (i := 2) (v := ?v3) (by simp only [List.getElem?_toArray, List.getElem?_cons_succ, List.getElem?_cons_zero]; rfl) (by kernel_rfl) (by kernel_rfl) (by kernel_rfl) (by exact fun _ _ _ h => h) (Or.inl ⟨by rfl, fun w9 hS9 => ?hy3⟩) hHeld ?rest3
                case hy3 =>
                  dsimp only at hS9
                  obtain ⟨s0, s1, s2, s3, s4, s5⟩ := hS9
                  go_simp
                  try with_reducible rfl
                try simp only [Act.put, List.setIfInBounds_toArray, List.set_cons_zero, List.set_cons_succ]
                refine wpAnyH_take (i := 3) (v := ?v4) (by simp only [List.getElem?_toArray, List.getElem?_cons_succ, List.getElem?_cons_zero]; rfl) (by kernel_rfl) (by kernel_rfl) (by kernel_rfl) (by exact fun _ _ _ h => h) (Or.inl ⟨by rfl, fun w9 hS9 => ?hy4⟩) hHeld ?rest4
                case hy4 =>
                  dsimp only at hS9
                  obtain ⟨s0, s1, s2, s3, s4, s5⟩ := hS9
                  go_simp
                  try with_reducible rfl
                try simp only [Act.put, List.setIfInBounds_toArray, List.set_cons_zero, List.set_cons_succ]
                refine wpAnyH_take (i := 4) (v := ?v5) (by simp only [List.getElem?_toArray, List.getElem?_cons_succ, List.getElem?_cons_zero]; rfl) (by kernel_rfl) (by kernel_rfl) (by kernel_rfl) (by exact fun _ _ _ h => h) (Or.inl ⟨by rfl, fun w9 hS9 => ?hy5⟩) hHeld ?rest5
                case hy5 =>
                  dsimp only at hS9
                  obtain ⟨s0, s1, s2, s3, s4, s5⟩ := hS9
                  go_simp
                  try with_reducible rfl
                try simp only [Act.put, List.setIfInBounds_toArray, List.set_cons_zero, List.set_cons_succ]
                refine wpAnyH_take (i := 5) (v := ?v6) (by simp only [List.getElem?_toArray, List.getElem?_cons_succ, List.getElem?_cons_zero]; rfl) (by kernel_rfl) (by kernel_rfl) (by kernel_rfl) (by exact fun _ _ _ h => h) (Or.inl ⟨by rfl, fun w9 hS9 => ?hy6⟩) hHeld ?rest6
                case hy6 =>
                  dsimp only at hS9
                  obtain ⟨s0, s1, s2, s3, s4, s5⟩ := hS9
                  go_simp
                  try with_reducible rfl
                try simp only [Act.put, List.setIfInBounds_toArray, List.set_cons_zero, List.set_cons_succ]
                refine wpAnyH_take (i := 6) (v := ?v7) (by simp only [List.getElem?_toArray, List.getElem?_cons_succ, List.getElem?_cons_zero]; rfl) (by kernel_rfl) (by kernel_rfl) (by kernel_rfl) (by exact fun _ _ _ h => h) (Or.inl ⟨by rfl, fun w9 hS9 => ?hy7⟩) hHeld ?rest7
                case hy7 =>
                  dsimp only at hS9
                  obtain ⟨s0, s1, s2, s3, s4, s5⟩ := hS9
                  go_simp
                  try with_reducible rfl
                try simp only [Act.put, List.setIfInBounds_toArray, List.set_cons_zero, List.set_cons_succ]
                refine wpAnyH_take (i := 7) (v := ?v8) (by simp only [List.getElem?_toArray, List.getElem?_cons_succ, List.getElem?_cons_zero]; rfl) (by kernel_rfl) (by kernel_rfl) (by kernel_rfl) (by exact fun _ _ _ h => h) (Or.inl ⟨by rfl, fun w9 hS9 => ?hy8⟩) hHeld ?rest8
                case hy8 =>
                  dsimp only at hS9
                  obtain ⟨s0, s1, s2, s3, s4, s5⟩ := hS9
                  go_simp
                  try with_reducible rfl
                try simp only [Act.put, List.setIfInBounds_toArray, List.set_cons_zero, List.set_cons_succ]
                refine wpAnyH_ready (rs := [8]) (by kernel_rfl) (by simp) (AllReadyH.cons (by simp only [List.getElem?_toArray, List.getElem?_cons_succ, List.getElem?_cons_zero]; rfl) (fun K hK => ?_) AllReadyH.nil)
                go_simp
                refine (KV.out _ (HN2.out.same HBd.out)).mono ?_
                rintro e w2 ⟨rfl, hb2⟩
                have HB2 : Hid (Below y1.heap.size y1 w2) := Lib.hid (HBd.out.trans (hb2.mono HBd.out.size))
                clear hb2
                go_wp2_with fail
                refine hK.out _ _ ⟨cell_stay D0.out HB2.out, cell_stay D1.out HB2.out, cell_stay D2.out HB2.out, cell_stay D3.out HB2.out, cell_stay D4.out HB2.out, cell_stay D5.out HB2.out⟩ (fun hHeld => ?_)
                clear hK K
                try simp only [Act.put, List.setIfInBounds_toArray, List.set_cons_zero, List.set_cons_succ]
                refine wpAnyH_take (i := 9) (v := ?v9) (by simp only [List.getElem?_toArray, List.getElem?_cons_succ, List.getElem?_cons_zero]; rfl) (by kernel_rfl) (by kernel_rfl) (by kernel_rfl) (by exact fun _ _ _ h => h) (Or.inl ⟨by rfl, fun w9 hS9 => ?hy9⟩) hHeld ?rest9
                case hy9 =>
                  dsimp only at hS9
                  obtain ⟨s0, s1, s2, s3, s4, s5⟩ := hS9
                  go_simp
                  try with_reducible rfl
                try simp only [Act.put, List.setIfInBounds_toArray, List.set_cons_zero, List.set_cons_succ]
                refine wpAnyH_done (by kernel_rfl) ?_ _
                have HBX := Lib.hid (HBY.out.trans (HB2.out.mono HBY.out.size))
                go_wp2_with fail
                go_roundw
                case rel =>
                  refine ⟨j + 1, fb, nn + 1, by omega, by go_num, rfl, by go_num, by omega, fun hq => ⟨fitsTo_step HFT.out HX.out HYY.out ?_, ?_⟩, fun hq => fitsFmt_no HX.out HYY.out ?_, HBX.out⟩
                  · rw [fitsAt_there HTT.out, ← HFB.out]
                    exact hq
                  · rw [thereTo_yes HTT.out, ← HTH.out]
                  · rw [fitsAt_there HTT.out, ← HFB.out]
                    exact hq
                case measure => simp [intOf]; omega
              | false =>
                rw [ht] at KT
                have HTT := Lib.hid ht
                clear ht
                have hql := HN1.out.len
                by_cases hk : k = 0
                · have bk : (k == 0) = true := by simpa using hk
                  have HKK := Lib.hid hk
                  clear hk
                  go_wp2_with fail
                  refine KT.out.mono ?_
                  rintro e y1 ⟨rfl, hy1⟩
                  have HBY := Lib.hid (HBW.out.trans (hy1.mono HBW.out.size))
                  have d4 := cell_stay C4.out hy1
                  have d5 := cell_stay C5.out hy1
                  clear hy1
                  have HQL := Lib.hid hql
                  clear hql
                  go_wp2_with fail
                  go_roundw
                  case rel =>
                    refine ⟨j + 1, ((q : Int) == 0), nn, by omega, by go_num, rfl, rfl, by omega, fun hq => ⟨fitsTo_step HFT.out HX.out HYY.out ?_, by rw [thereTo_no HTT.out]; exact HTH.out⟩, fun hq => fitsFmt_no HX.out HYY.out ?_, HBY.out⟩
                    · have hq0 : q = 0 := by simpa using hq
                      have hyn : y = [] := List.eq_nil_of_length_eq_zero (by rw [HQL.out, hq0])
                      rw [fitsAt_not HTT.out]
                      dsimp only
                      rw [HKK.out, hyn]
                      rfl
                    · have hq0 : q ≠ 0 := by simpa using hq
                      have hyn : y ≠ [] := fun e => hq0 (by rw [← HQL.out, e]; rfl)
                      rw [fitsAt_not HTT.out]
                      dsimp only
                      unfold emptyV
                      rw [decide_eq_false hyn, Bool.and_false]
                  case measure => simp [intOf]; omega
                · have bk : (k == 0) = false := by simpa using hk
                  have HKK := Lib.hid hk
                  clear hk hql
                  go_wp2_with fail
                  refine KT.out.mono ?_
                  rintro e y1 ⟨rfl, hy1⟩
                  have HBY := Lib.hid (HBW.out.trans (hy1.mono HBW.out.size))
                  have d4 := cell_stay C4.out hy1
                  clear hy1
                  go_wp2_with fail
                  go_roundw
                  case rel =>
                    refine ⟨j + 1, false, nn, by omega, by go_num, rfl, rfl, by omega, (fun h => by cases h), fun _ => fitsFmt_no HX.out HYY.out ?_, HBY.out⟩
                    rw [fitsAt_not HTT.out]
                    dsimp only
                    unfold emptyV
                    rw [decide_eq_false HKK.out]
                    rfl
                  case measure => simp [intOf]; omega
            · obtain rfl : fn = j := by omega
              have HE : Hid (fitsFmt l v = true) := Lib.hid (HY.out (by rw [hln.out]; exact HFT.out))
              have HN : Hid (nn = thereTo l v l.length) := Lib.hid (by rw [hln.out]; exact HTH.out)
              clear hlt
              go_wp2_with fail
              have KFT := Lib.hid (fitsFormat_any f fn fc l ao fn co v _ HFL.out HVL.out HR.out (by omega) (by omega))
              rw [HE.out] at KFT
              refine KFT.out.mono ?_
              rintro e x1 ⟨rfl, hx1⟩
              replace HBL := Lib.hid (HBL.out.trans (hx1.mono HBL.out.size))
              replace HFL := Lib.hid (HFL.out.same hx1)
              replace HVL := Lib.hid (HVL.out.same hx1)
              clear hx1 KFT
              go_wp2_with fail
              have KTC := Lib.hid (thereCount_all f fn fc l ao fn co v _ HFL.out HVL.out (by omega) (by omega))
              rw [← HN.out] at KTC
              refine KTC.out.mono ?_
              rintro e x2 ⟨rfl, hx2⟩
              replace HBL := Lib.hid (HBL.out.trans (hx2.mono HBL.out.size))
              replace HVL := Lib.hid (HVL.out.same hx2)
              clear hx2 KTC
              go_wp2_with fail
              refine (drawEqualMessages_any a0 n0 c0 _ (HC.out.same HBL.out)).mono ?_
              rintro e x3 ⟨b1, m1, e1, u1, b2, m2, e2, u2, rfl, hu1, hu2, hx3⟩
              replace HBL := Lib.hid (HBL.out.trans (hx3.mono HBL.out.size))
              replace HVL := Lib.hid (HVL.out.same hx3)
              have HU1 := Lib.hid hu1
              have HU2 := Lib.hid hu2
              clear hu1 hu2 hx3
              obtain ⟨be, hbe⟩ : ∃ be, be = eqV u1 u2 := ⟨_, rfl⟩
              have HBE := Lib.hid hbe
              clear hbe
              go_wp2_with fail
              have K1 := equalMessages_eqV (c := e1) (d := e2) HU1.out HU2.out
              rw [← HBE.out] at K1
              refine K1.mono ?_
              rintro e x4 ⟨rfl, hx4⟩
              replace HBL := Lib.hid (HBL.out.trans (hx4.mono HBL.out.size))
              replace HVL := Lib.hid (HVL.out.same hx4)
              replace HU1 := Lib.hid (HU1.out.same hx4)
              replace HU2 := Lib.hid (HU2.out.same hx4)
              clear hx4 K1
              go_wp2_with fail
              have K2 := equalMessages_eqV (c := e2) (d := e1) HU2.out HU1.out
              rw [eqV_comm, ← HBE.out] at K2
              refine K2.mono ?_
              rintro e x5 ⟨rfl, hx5⟩
              replace HBL := Lib.hid (HBL.out.trans (hx5.mono HBL.out.size))
              replace HVL := Lib.hid (HVL.out.same hx5)
              replace HU1 := Lib.hid (HU1.out.same hx5)
              clear hx5 K2
              have hbb : (be == be) = true := by simp
              go_wp2_with fail
              refine (equalMessages_yes (c := e1) (d := e1) HU1.out HU1.out).mono ?_
              rintro e x6 ⟨rfl, hx6⟩
              replace HBL := Lib.hid (HBL.out.trans (hx6.mono HBL.out.size))
              replace HVL := Lib.hid (HVL.out.same hx6)
              clear hx6
              have hvl := HVL.out.len
              have hit := itemsOf_few 6 v (fun x hx => (HVK.out x hx).2)
              have KM := Lib.hid (messageText_any ao fn co v _ HVL.out (fun x hx => ⟨(HVK.out x hx).1.1, (HVK.out x hx).1.2⟩) (by omega) (pow_stays HT.out HBL.out (Nat.le_refl _)))
              clear hit
              by_cases hm0 : fn = 0
              · have hv0 : v = [] := List.eq_nil_of_length_eq_zero (by rw [hvl, hm0])
                rw [msgText_dash.2 hv0] at KM
                clear hvl hv0
                subst hm0
                go_wp2_with fail
                refine KM.out.mono ?_
                rintro e x7 ⟨rfl, hx7⟩
                replace HBL := Lib.hid (HBL.out.trans (hx7.mono HBL.out.size))
                clear hx7 KM
                go_wp2_with fail
                go_ret
                exact ⟨rfl, HBL.out⟩
              · have hms : msgText v ≠ [45] := fun e => hm0 (by rw [← hvl, msgText_dash.1 e]; rfl)
                obtain ⟨st, hst⟩ : ∃ st : ByteArray, st = ⟨(msgText v).toArray⟩ := ⟨_, rfl⟩
                have hne : (st.toList == [45]) = false := by
                  rw [hst, ByteArray.toList_eq]
                  simp only [beq_eq_false_iff_ne, ne_eq]
                  intro e
                  exact hms (by simpa using e)
                rw [← hst] at KM
                have hm1 : decide ((0 : Int) < (fn : Int)) = true := decide_eq_true (by omega)
                have hm2 : 0 < fn := by omega
                clear hvl hms hst
                go_wp2_with fail
                refine KM.out.mono ?_
                rintro e x7 ⟨rfl, hx7⟩
                replace HBL := Lib.hid (HBL.out.trans (hx7.mono HBL.out.size))
                clear hx7 KM
                go_wp2_with fail
                go_ret
                exact ⟨rfl, HBL.out⟩
      · have HE : Hid (fitsFmt l v = false) := Lib.hid (fitsFmt_len (by rw [hln.out, hvn.out]; omega))
        have hq : ((fn : Int) == (m : Int)) = false := by simp; omega
        clear hfm
        go_wp2_with fail
        refine KI.out.mono ?_
        rintro e w2 ⟨rfl, hb2⟩
        have HB2 := Lib.hid (HB1.out.trans (hb2.mono HB1.out.size))
        have HF2 := Lib.hid (HF1.out.same hb2)
        have HV2 := Lib.hid (HV1.out.same hb2)
        clear hb2 KI
        go_wp2_with fail
        go_loop [5, 6, 7] (fun s q i => s = .bool false ∧ q = .int .i64 0 ∧ i = .int .i64 0) (fun _ _ _ => 0)
        case atStart => exact ⟨rfl, rfl, rfl⟩
        case round =>
          obtain ⟨rfl, rfl, rfl⟩ := hrel
          have HBL := Lib.hid HB2.out
          have HFL := Lib.hid HF2.out
          have HVL := Lib.hid HV2.out
          by_cases hlt : 0 < fn
          · have e1 : decide ((0 : Int) < (fn : Int)) = true := decide_eq_true (by omega)
            have e2 : (0 : Int) < (fn : Int) := by omega
            go_wp2_with fail
            have KFT := Lib.hid (fitsFormat_any f fn fc l ao m co v _ HFL.out HVL.out HR.out (by omega) (by omega))
            rw [HE.out] at KFT
            refine KFT.out.mono ?_
            rintro e x1 ⟨rfl, hx1⟩
            replace HBL := Lib.hid (HBL.out.trans (hx1.mono HBL.out.size))
            replace HFL := Lib.hid (HFL.out.same hx1)
            replace HVL := Lib.hid (HVL.out.same hx1)
            clear hx1 KFT
            go_wp2_with fail
            refine (drawEqualMessages_any a0 n0 c0 _ (HC.out.same HBL.out)).mono ?_
            rintro e x3 ⟨b1, m1, e1, u1, b2, m2, e2, u2, rfl, hu1, hu2, hx3⟩
            replace HBL := Lib.hid (HBL.out.trans (hx3.mono HBL.out.size))
            replace HVL := Lib.hid (HVL.out.same hx3)
            have HU1 := Lib.hid hu1
            have HU2 := Lib.hid hu2
            clear hu1 hu2 hx3
            obtain ⟨be, hbe⟩ : ∃ be, be = eqV u1 u2 := ⟨_, rfl⟩
            have HBE := Lib.hid hbe
            clear hbe
            go_wp2_with fail
            have K1 := equalMessages_eqV (c := e1) (d := e2) HU1.out HU2.out
            rw [← HBE.out] at K1
            refine K1.mono ?_
            rintro e x4 ⟨rfl, hx4⟩
            replace HBL := Lib.hid (HBL.out.trans (hx4.mono HBL.out.size))
            replace HVL := Lib.hid (HVL.out.same hx4)
            replace HU1 := Lib.hid (HU1.out.same hx4)
            replace HU2 := Lib.hid (HU2.out.same hx4)
            clear hx4 K1
            go_wp2_with fail
            have K2 := equalMessages_eqV (c := e2) (d := e1) HU2.out HU1.out
            rw [eqV_comm, ← HBE.out] at K2
            refine K2.mono ?_
            rintro e x5 ⟨rfl, hx5⟩
            replace HBL := Lib.hid (HBL.out.trans (hx5.mono HBL.out.size))
            replace HVL := Lib.hid (HVL.out.same hx5)
            replace HU1 := Lib.hid (HU1.out.same hx5)
            clear hx5 K2
            have hbb : (be == be) = true := by simp
            go_wp2_with fail
            refine (equalMessages_yes (c := e1) (d := e1) HU1.out HU1.out).mono ?_
            rintro e x6 ⟨rfl, hx6⟩
            replace HBL := Lib.hid (HBL.out.trans (hx6.mono HBL.out.size))
            replace HVL := Lib.hid (HVL.out.same hx6)
            clear hx6
            have hvl := HVL.out.len
            have hit := itemsOf_few 6 v (fun x hx => (HVK.out x hx).2)
            have KM := Lib.hid (messageText_any ao m co v _ HVL.out (fun x hx => ⟨(HVK.out x hx).1.1, (HVK.out x hx).1.2⟩) (by omega) (pow_stays HT.out HBL.out (Nat.le_refl _)))
            clear hit
            by_cases hm0 : m = 0
            · have hv0 : v = [] := List.eq_nil_of_length_eq_zero (by rw [hvl, hm0])
              rw [msgText_dash.2 hv0] at KM
              clear hvl hv0
              subst hm0
              go_wp2_with fail
              refine KM.out.mono ?_
              rintro e x7 ⟨rfl, hx7⟩
              replace HBL := Lib.hid (HBL.out.trans (hx7.mono HBL.out.size))
              clear hx7 KM
              go_wp2_with fail
              go_ret
              exact ⟨rfl, HBL.out⟩
            · have hms : msgText v ≠ [45] := fun e => hm0 (by rw [← hvl, msgText_dash.1 e]; rfl)
              obtain ⟨st, hst⟩ : ∃ st : ByteArray, st = ⟨(msgText v).toArray⟩ := ⟨_, rfl⟩
              have hne : (st.toList == [45]) = false := by
                rw [hst, ByteArray.toList_eq]
                simp only [beq_eq_false_iff_ne, ne_eq]
                intro e
                exact hms (by simpa using e)
              rw [← hst] at KM
              have hm1 : decide ((0 : Int) < (m : Int)) = true := decide_eq_true (by omega)
              have hm2 : 0 < m := by omega
              clear hvl hms hst
              go_wp2_with fail
              refine KM.out.mono ?_
              rintro e x7 ⟨rfl, hx7⟩
              replace HBL := Lib.hid (HBL.out.trans (hx7.mono HBL.out.size))
              clear hx7 KM
              go_wp2_with fail
              go_ret
              exact ⟨rfl, HBL.out⟩
          · have e1 : decide ((0 : Int) < (fn : Int)) = false := decide_eq_false (by omega)
            have e2 : ¬ (0 : Int) < (fn : Int) := by omega
            go_wp2_with fail
            have KFT := Lib.hid (fitsFormat_any f fn fc l ao m co v _ HFL.out HVL.out HR.out (by omega) (by omega))
            rw [HE.out] at KFT
            refine KFT.out.mono ?_
            rintro e x1 ⟨rfl, hx1⟩
            replace HBL := Lib.hid (HBL.out.trans (hx1.mono HBL.out.size))
            replace HFL := Lib.hid (HFL.out.same hx1)
            replace HVL := Lib.hid (HVL.out.same hx1)
            clear hx1 KFT
            go_wp2_with fail
            refine (drawEqualMessages_any a0 n0 c0 _ (HC.out.same HBL.out)).mono ?_
            rintro e x3 ⟨b1, m1, e1, u1, b2, m2, e2, u2, rfl, hu1, hu2, hx3⟩
            replace HBL := Lib.hid (HBL.out.trans (hx3.mono HBL.out.size))
            replace HVL := Lib.hid (HVL.out.same hx3)
            have HU1 := Lib.hid hu1
            have HU2 := Lib.hid hu2
            clear hu1 hu2 hx3
            obtain ⟨be, hbe⟩ : ∃ be, be = eqV u1 u2 := ⟨_, rfl⟩
            have HBE := Lib.hid hbe
            clear hbe
            go_wp2_with fail
            have K1 := equalMessages_eqV (c := e1) (d := e2) HU1.out HU2.out
            rw [← HBE.out] at K1
            refine K1.mono ?_
            rintro e x4 ⟨rfl, hx4⟩
            replace HBL := Lib.hid (HBL.out.trans (hx4.mono HBL.out.size))
            replace HVL := Lib.hid (HVL.out.same hx4)
            replace HU1 := Lib.hid (HU1.out.same hx4)
            replace HU2 := Lib.hid (HU2.out.same hx4)
            clear hx4 K1
            go_wp2_with fail
            have K2 := equalMessages_eqV (c := e2) (d := e1) HU2.out HU1.out
            rw [eqV_comm, ← HBE.out] at K2
            refine K2.mono ?_
            rintro e x5 ⟨rfl, hx5⟩
            replace HBL := Lib.hid (HBL.out.trans (hx5.mono HBL.out.size))
            replace HVL := Lib.hid (HVL.out.same hx5)
            replace HU1 := Lib.hid (HU1.out.same hx5)
            clear hx5 K2
            have hbb : (be == be) = true := by simp
            go_wp2_with fail
            refine (equalMessages_yes (c := e1) (d := e1) HU1.out HU1.out).mono ?_
            rintro e x6 ⟨rfl, hx6⟩
            replace HBL := Lib.hid (HBL.out.trans (hx6.mono HBL.out.size))
            replace HVL := Lib.hid (HVL.out.same hx6)
            clear hx6
            have hvl := HVL.out.len
            have hit := itemsOf_few 6 v (fun x hx => (HVK.out x hx).2)
            have KM := Lib.hid (messageText_any ao m co v _ HVL.out (fun x hx => ⟨(HVK.out x hx).1.1, (HVK.out x hx).1.2⟩) (by omega) (pow_stays HT.out HBL.out (Nat.le_refl _)))
            clear hit
            by_cases hm0 : m = 0
            · have hv0 : v = [] := List.eq_nil_of_length_eq_zero (by rw [hvl, hm0])
              rw [msgText_dash.2 hv0] at KM
              clear hvl hv0
              subst hm0
              go_wp2_with fail
              refine KM.out.mono ?_
              rintro e x7 ⟨rfl, hx7⟩
              replace HBL := Lib.hid (HBL.out.trans (hx7.mono HBL.out.size))
              clear hx7 KM
              go_wp2_with fail
              go_ret
              exact ⟨rfl, HBL.out⟩
            · have hms : msgText v ≠ [45] := fun e => hm0 (by rw [← hvl, msgText_dash.1 e]; rfl)
              obtain ⟨st, hst⟩ : ∃ st : ByteArray, st = ⟨(msgText v).toArray⟩ := ⟨_, rfl⟩
              have hne : (st.toList == [45]) = false := by
                rw [hst, ByteArray.toList_eq]
                simp only [beq_eq_false_iff_ne, ne_eq]
                intro e
                exact hms (by simpa using e)
              rw [← hst] at KM
              have hm1 : decide ((0 : Int) < (m : Int)) = true := decide_eq_true (by omega)
              have hm2 : 0 < m := by omega
              clear hvl hms hst
              go_wp2_with fail
              refine KM.out.mono ?_
              rintro e x7 ⟨rfl, hx7⟩
              replace HBL := Lib.hid (HBL.out.trans (hx7.mono HBL.out.size))
              clear hx7 KM
              go_wp2_with fail
              go_ret
              exact ⟨rfl, HBL.out⟩

set_option maxRecDepth 100000 in
theorem lifted (os : Os) (started : os.Started) (H : Type) (enc : TypeId × Value → H) :
    ReturnsInHanded {} Tryd.checked os 4 .any (fun w args => (Rows.fnMessagesSpec.pre enc Tryd.prog Tryd.f4 [] false w args ∧ laidMetH Tryd.prog laid3 w) ∧ sizedMet enc Tryd.prog Tryd.f4 (OpenSpec.ofChange Rows.fnMessagesSpec) false w args)
      (Rows.fnMessagesSpec.post enc Tryd.prog Tryd.f4 false true false false) := by
  refine returnsInHanded_of_change_and (C := Tryd.checked) (X := fun w _ => laidMetH Tryd.prog laid3 w) (fun _ _ _ hh h => h.of_heap hh) own started (by kernel_rfl) Tryd.func4
    (ChangeSpec.witness_shaped (enc := enc) (C := Tryd.checked) (os := os) (X := fun w _ => laidMetH Tryd.prog laid3 w) false (World.doorLaid Tryd.prog 400 os) #[.slice none 0 0] 8 rfl (World.shaped_of_RefB (by kernel_rfl) (by kernel_rfl)) (by kernel_rfl) (by kernel_rfl) (by kernel_rfl) (door_met os _)) ?_
  intro W base args ds gs before hval0 hW _ _ hL _
  have hval : ∀ (j : Nat) t v, Tryd.f4.params[j]? = some t → args[j]? = some v → Value.okWide Tryd.prog W .any base t v := hval0
  have hW' := hW
  obtain ⟨p, q, hA0, hV, rfl, hfz, hnd⟩ := hW
  have hA : DataW.TrodAll enc Tryd.prog W 0 (fun _ => true) true Tryd.f4.params.toList args.toList ds p := hA0
  rw [Tryd.params4] at hA hval
  obtain ⟨v0, vs0, d0, ds0, p0, q0, hargs, rfl, rfl, h0, r0⟩ := trodAll_cons hA
  obtain ⟨rfl, rfl, rfl⟩ := trodAll_nil r0
  obtain rfl : args = #[v0] := by cases args; simp_all
  obtain ⟨rfl, rfl⟩ := trodVars_none hV
  have h0k := h0
  have hlt0 : ∀ x ∈ p0, x.block < W.heap.size := fun x hx => by simpa using hW'.lt x (by simp [hx])
  obtain ⟨a0, n0, c0, l0, rfl, K0, F0, R0⟩ := open_nums Tryd.underlying22 Tryd.underlying5 byte_cells (hval 0 22 v0 rfl rfl) h0
  clear hA0 hval0
  simp only [List.append_nil] at hW'
  refine (walk a0 n0 c0 l0 W (pow_laid hL) K0 F0 R0).mono fun e W' ⟨he, hb⟩ => ?_
  subst he
  exact ⟨_, rfl, ⟨_, _, _, [], _, [], hW', (trodAll_cons_mk (shut_bool Tryd.underlying4 _) trodAll_mk0), (trodAll_cons_mk (Below.trod laidOut (by kernel_rfl) (of_decide_eq_true (by kernel_rfl)) h0k hb hlt0) trodAll_mk0), rfl, hb.frame _, fun h => by cases h⟩⟩

theorem over : Rows.fnMessagesRow.holds Tryd.pinned (OpenSpec.ofChange Rows.fnMessagesSpec) :=
  OpenClaim.holds_of_wide 4 Tryd.f4 rfl rfl rfl rfl rfl rfl rfl ⟨rfl, rfl, rfl, rfl, rfl⟩ rfl rfl rfl rfl rfl (by kernel_rfl) Tryd.func4 (by kernel_rfl)
    (of_decide_eq_true (by kernel_rfl)) (by unfold Func.isWrapper; first | (rw [if_pos (by decide +kernel)]; kernel_rfl) | (rw [if_neg (by decide +kernel)]; exact ⟨rfl, rfl⟩))
    (fun os started H enc _ => lifted os started H enc)

theorem proved : Rows.FnMessagesCardSaid :=
  Claim7.holds_tied_plain_at .later [] [.data, .data, .data] true Rows.fnMessagesCard.stood.harness Rows.fnMessagesCard.stood.looks
    over (fun _ h => by cases h) (by kernel_rfl) (fun _ h => by cases h) fnMessages_row_tie rfl ⟨rfl, rfl⟩ (by kernel_rfl) rfl
    (fun f fn hf hfn => by
      obtain rfl : f = 4 := Option.some.inj ((show Tryd.prog.funcNamed "loop.example/g03000/laws.FnMessages" = some 4 by kernel_rfl).symm.trans hf) |>.symm
      obtain rfl : fn = Tryd.f4 := (Option.some.inj (Tryd.func4.symm.trans hfn)).symm
      exact ⟨by kernel_rfl, fun j t ht => by
        rw [Tryd.params4] at ht
        have hm : t ∈ [22] := by simpa using Array.mem_of_getElem? ht
        have hall : ([22].all fun u => !Tryd.prog.wantsStandIn u) = true := by kernel_rfl
        exact (show Tryd.prog.wantsStandIn t = false by simpa using List.all_eq_true.1 hall t hm)⟩)
    (by kernel_rfl)
end Go.Proofs.YtdeecjbebkideaaDoor.fnMessages
