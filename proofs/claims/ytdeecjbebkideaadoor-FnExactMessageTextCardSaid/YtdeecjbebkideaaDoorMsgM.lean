/- The text of a list of values, by the model. -/
import Derived.Test.YtdeecjbebkideaaDoorMsg
import Derived.Deep.QuietTactic
import Derived.BigQuiet
namespace Go.Proofs.YtdeecjbebkideaaDoor
open Go.ChangeShapes Go.WideShapes Go.ChangeAt Go.RowKit Go.Lib
set_option linter.unusedVariables false

theorem str_sum (A B : List UInt8) (h : A.length + B.length ≤ 1000000000) (w : World) : (Op.stringOp .add ⟨A.toArray⟩ ⟨B.toArray⟩).run Tryd.prog w = .ok (.string ⟨(A ++ B).toArray⟩) w := by
  rw [run_string_add_sum w _ _ (by
    show A.toArray.size + B.toArray.size ≤ _
    simp
    omega), ByteArray.mk_append_mk]
theorem specFmt_t {n : Int} (h : In64 n) (w : World) : Calls Tryd.prog 50 #[.int .i64 n] w (Told (.string ⟨(itoa n).toArray⟩) w) := specFmt_any n h.1 h.2 w
theorem cell_to {w w' : World} {p : Addr} {v : Value} (h : w.cell? p = some v) (hb : Below w.heap.size w w') : w'.cell? p = some v := by rw [hb.cell (cell_in h)]; exact h
theorem join_le {sep : List UInt8} {ts : List (List UInt8)} (j : Nat) : (Lib.join (ts.take j) sep).length ≤ (Lib.join ts sep).length := by
  rcases Nat.lt_or_ge j ts.length with h | h
  · have main : ∀ k, j + k ≤ ts.length → (Lib.join (ts.take j) sep).length ≤ (Lib.join (ts.take (j + k)) sep).length := by
      intro k
      induction k with
      | zero => intro _; exact Nat.le_refl _
      | succ k ih =>
        intro hk
        have h1 := ih (by omega)
        rw [← Nat.add_assoc, join_next sep (List.getElem?_eq_getElem (show j + k < ts.length by omega)), List.length_append]
        split
        · omega
        · rw [List.length_append]; omega
    have := main (ts.length - j) (by omega)
    rw [show j + (ts.length - j) = ts.length by omega, List.take_length] at this
    exact this
  · rw [List.take_of_length_le h]
    exact Nat.le_refl _

set_option maxHeartbeats 4000000 in
set_option maxRecDepth 100000 in
theorem specMessageText_any (a : Option Addr) (n c : Nat) (l : List Vl) (w : World) (h : Vals w a n l) (hok : ∀ x ∈ l, x.ok) (hn : n + itemsOf l ≤ 2000000) :
    Calls Tryd.prog 27 #[.slice a n c] w (Told (.string ⟨(msgText l).toArray⟩) w) := by
  have H := Lib.hid h
  have hl := Lib.hid h.len
  have HOK := Lib.hid hok
  have HLEN := Lib.hid (msgTo_len hok)
  clear h hok
  go_enter Tryd.func27, Tryd.ntmps27
  go_wp2_with fail
  go_loopw [3, 4] (fun s i wr => ∃ j : Nat, j ≤ n ∧ i = .int .i64 j ∧ s = .string ⟨(Lib.join ((l.map valText).take j) [32]).toArray⟩ ∧ Below w.heap.size w wr) (fun _ i _ => n - (intOf i).toNat)
  case atStart => exact ⟨0, Nat.zero_le _, rfl, by simp [Lib.join_nil], Below.refl _ _⟩
  case round =>
    obtain ⟨j, hj, rfl, rfl, hb⟩ := hrel
    have HB := Lib.hid hb
    clear hb
    by_cases hlt : j < n
    · obtain ⟨b, o, p, m, d, k, y, rfl, hx, hc0, hc1, hN, hr⟩ := (H.out.same HB.out).at_ hlt
      have hokx := HOK.out _ (List.mem_of_getElem? hx)
      have hym := hN.len
      have hyi := itemsOf_mem hx
      have hvl := valText_len hokx
      have hit := itemsText_len hokx.2
      have hik := itoa_le hokx.1
      have htl := join_le (sep := [32]) (ts := l.map valText) j
      have hml : (Lib.join (l.map valText) [32]).length ≤ 44000000 := by
        have h1 := HLEN.out
        unfold msgTo at h1
        have := hl.out
        omega
      dsimp only at hvl hyi hit hik
      have hnext := join_next [32] (ts := l.map valText) (j := j) (t := valText ⟨k, y⟩) (by rw [List.getElem?_map, hx]; rfl)
      have C0 := Lib.hid hc0
      have C1 := Lib.hid hc1
      have HN := Lib.hid hN
      clear hx hN hc0 hc1
      have hltI : (j : Int) < (n : Int) := by omega
      obtain ⟨T, eT⟩ : ∃ T, T = Lib.join ((l.map valText).take j) [32] := ⟨_, rfl⟩
      rw [← eT] at hnext htl ⊢
      obtain ⟨P, eP⟩ : ∃ P, P = (if j = 0 then T else T ++ [32]) := ⟨_, rfl⟩
      rw [← eP] at hnext
      have hP : P.length ≤ 44000001 := by
        rw [eP]
        split
        · omega
        · rw [List.length_append]; simp only [List.length_cons, List.length_nil]; omega
      obtain ⟨sT, e0⟩ : ∃ s : ByteArray, s = ⟨T.toArray⟩ := ⟨_, rfl⟩
      obtain ⟨sP, e1⟩ : ∃ s : ByteArray, s = ⟨P.toArray⟩ := ⟨_, rfl⟩
      rw [← e0]
      by_cases hz : j = 0
      · have e10 : sP = sT := by rw [e1, e0, eP, if_pos hz]
        have hz2 : ¬ 0 < j := by omega
        have hz3 : decide ((0 : Int) < (j : Int)) = false := decide_eq_false (by omega)
        rw [← e10]
        clear e10 e0 eP hz htl
        by_cases hy : y = []
        · have hm0 : m = 0 := by rw [← hym, hy]; rfl
          have ev : valText ⟨k, y⟩ = itoa k := by unfold valText; rw [if_pos hy]
          rw [ev] at hnext
          obtain ⟨sK, e2⟩ : ∃ s : ByteArray, s = ⟨(itoa k).toArray⟩ := ⟨_, rfl⟩
          obtain ⟨sN, e3⟩ : ∃ s : ByteArray, s = ⟨(Lib.join ((l.map valText).take (j + 1)) [32]).toArray⟩ := ⟨_, rfl⟩
          have j1 : ∀ w, (Op.stringOp .add sP sK).run Tryd.prog w = .ok (.string sN) w := by
            rw [e1, e2, e3, hnext]
            exact fun w => str_sum _ _ (by omega) w
          have K : Hid (∀ w, Calls Tryd.prog 50 #[.int .i64 k] w (Told (.string sK) w)) := Lib.hid (by rw [e2]; exact fun w => specFmt_t hokx.1 w)
          have HS := Lib.hid e3
          subst hm0
          clear e1 e2 e3 ev hy hokx hym hnext hvl hit hik hml hP HN
          have f0 := C0.out
          have f1 := C1.out
          go_wp2_with fail
          refine (K.out _).mono ?_
          rintro e w1 ⟨rfl, hb1⟩
          have HB1 := Lib.hid (HB.out.trans (hb1.mono HB.out.size))
          have D1 := Lib.hid (cell_to C1.out hb1)
          clear hb1 f0 f1
          go_wp2_with fail
          go_loop [3, 5] (fun s q => s = .string sN ∧ q = .int .i64 0) (fun _ _ => 0)
          case atStart => exact ⟨rfl, rfl⟩
          case round =>
            obtain ⟨rfl, rfl⟩ := hrel
            have f1 := D1.out
            go_wp2_with fail
            go_roundw
            case rel => exact ⟨j + 1, by omega, by go_num, by rw [← HS.out], HB1.out⟩
            case measure => simp [intOf]; omega
        · have hm0 : 0 < m := by
            rcases Nat.eq_zero_or_pos m with e | e
            · exact absurd (List.eq_nil_of_length_eq_zero (by rw [hym, e])) hy
            · exact e
          have bm : ((m : Int) == 0) = false := by simp; omega
          have ev : valText ⟨k, y⟩ = Lib.join (y.map itoa) [46] := by unfold valText; rw [if_neg hy]; rfl
          rw [ev] at hnext hvl
          have HNX := Lib.hid hnext
          have HVL := Lib.hid hvl
          have HP := Lib.hid hP
          have E1 := Lib.hid e1
          have HOX := Lib.hid hokx
          clear ev hy hokx hnext hvl hit hik hml hP e1
          have f1 := C1.out
          go_wp2_with fail
          clear f1
          go_loopw [3, 5] (fun s i wi => ∃ q : Nat, q ≤ m ∧ i = .int .i64 q ∧ s = .string ⟨(P ++ Lib.join ((y.map itoa).take q) [46]).toArray⟩ ∧ Below wr.heap.size wr wi) (fun _ i _ => m - (intOf i).toNat)
          case atStart => exact ⟨0, Nat.zero_le _, rfl, by rw [E1.out]; simp [Lib.join_nil], Below.refl _ _⟩
          case round =>
            obtain ⟨q, hq, rfl, rfl, hb⟩ := hrel
            have HI := Lib.hid hb
            have f1 := cell_to C1.out hb
            clear hb
            by_cases hqm : q < m
            · obtain ⟨ad, z, rfl, hz, hc⟩ := (HN.out.same HI.out).at_ hqm
              have hzi := HOX.out.2 z (List.mem_of_getElem? hz)
              have hzl := itoa_le hzi
              have hnx := join_next [46] (ts := y.map itoa) (j := q) (t := itoa z) (by rw [List.getElem?_map, hz]; rfl)
              have htq := join_le (sep := [46]) (ts := y.map itoa) q
              have hvl := HVL.out
              have hP := HP.out
              obtain ⟨A, eA⟩ : ∃ A, A = P ++ Lib.join ((y.map itoa).take q) [46] := ⟨_, rfl⟩
              have hA : A.length ≤ 90000000 := by rw [eA, List.length_append]; omega
              rw [← eA]
              have hqI : (q : Int) < (m : Int) := by omega
              obtain ⟨sA, a1⟩ : ∃ s : ByteArray, s = ⟨A.toArray⟩ := ⟨_, rfl⟩
              obtain ⟨sZ, a2⟩ : ∃ s : ByteArray, s = ⟨(itoa z).toArray⟩ := ⟨_, rfl⟩
              obtain ⟨sC, a3⟩ : ∃ s : ByteArray, s = ⟨(P ++ Lib.join ((y.map itoa).take (q + 1)) [46]).toArray⟩ := ⟨_, rfl⟩
              have K : Hid (∀ w, Calls Tryd.prog 50 #[.int .i64 z] w (Told (.string sZ) w)) := Lib.hid (by rw [a2]; exact fun w => specFmt_t hzi w)
              rw [← a1]
              by_cases hq0 : q = 0
              · have j3 : ∀ w, (Op.stringOp .add sA sZ).run Tryd.prog w = .ok (.string sC) w := by
                  rw [a1, a2, a3, hnx, if_pos hq0, ← List.append_assoc, ← eA]
                  exact fun w => str_sum _ _ (by omega) w
                have q2 : ¬ 0 < q := by omega
                have q3 : decide ((0 : Int) < (q : Int)) = false := decide_eq_false (by omega)
                have HS := Lib.hid a3
                clear a1 a2 a3 eA hnx hz hzi hzl htq hvl hP hA hq0
                go_wp2_with fail
                refine (K.out _).mono ?_
                rintro e w2 ⟨rfl, hb2⟩
                have HI2 := Lib.hid (HI.out.trans (hb2.mono HI.out.size))
                clear hb2 hc f1
                go_wp2_with fail
                go_roundw
                case rel => exact ⟨q + 1, by omega, by go_num, by rw [← HS.out], HI2.out⟩
                case measure => simp [intOf]; omega
              · obtain ⟨sD, a4⟩ : ∃ s : ByteArray, s = ⟨(A ++ [46]).toArray⟩ := ⟨_, rfl⟩
                have j2 : ∀ w, (Op.stringOp .add sA ⟨#[46]⟩).run Tryd.prog w = .ok (.string sD) w := by
                  rw [a1, a4]
                  exact fun w => str_sum _ [46] (by simp only [List.length_cons, List.length_nil]; omega) w
                have j3 : ∀ w, (Op.stringOp .add sD sZ).run Tryd.prog w = .ok (.string sC) w := by
                  rw [a4, a2, a3, hnx, if_neg hq0, ← List.append_assoc, ← List.append_assoc, ← eA]
                  exact fun w => str_sum _ _ (by rw [List.length_append]; simp only [List.length_cons, List.length_nil]; omega) w
                have q2 : 0 < q := by omega
                have q3 : decide ((0 : Int) < (q : Int)) = true := decide_eq_true (by omega)
                have HS := Lib.hid a3
                clear a1 a2 a3 a4 eA hnx hz hzi hzl htq hvl hP hA hq0
                go_wp2_with fail
                refine (K.out _).mono ?_
                rintro e w2 ⟨rfl, hb2⟩
                have HI2 := Lib.hid (HI.out.trans (hb2.mono HI.out.size))
                clear hb2 hc f1
                go_wp2_with fail
                go_roundw
                case rel => exact ⟨q + 1, by omega, by go_num, by rw [← HS.out], HI2.out⟩
                case measure => simp [intOf]; omega
            · obtain rfl : q = m := by omega
              have HS : Hid (P ++ Lib.join ((y.map itoa).take q) [46] = Lib.join ((l.map valText).take (j + 1)) [32]) := Lib.hid (by rw [List.take_of_length_le (by rw [List.length_map, hym]; omega), HNX.out])
              have HBX := Lib.hid (HB.out.trans (HI.out.mono HB.out.size))
              go_wp2_with fail
              go_roundw
              case rel => exact ⟨j + 1, by omega, by go_num, by rw [HS.out], HBX.out⟩
              case measure => simp [intOf]; omega
      · have hz2 : 0 < j := by omega
        have hz3 : decide ((0 : Int) < (j : Int)) = true := decide_eq_true (by omega)
        have j0 : ∀ w, (Op.stringOp .add sT ⟨#[32]⟩).run Tryd.prog w = .ok (.string sP) w := by
          rw [e0, e1, eP, if_neg hz]
          exact fun w => str_sum _ [32] (by simp only [List.length_cons, List.length_nil]; omega) w
        clear e0 eP hz htl
        by_cases hy : y = []
        · have hm0 : m = 0 := by rw [← hym, hy]; rfl
          have ev : valText ⟨k, y⟩ = itoa k := by unfold valText; rw [if_pos hy]
          rw [ev] at hnext
          obtain ⟨sK, e2⟩ : ∃ s : ByteArray, s = ⟨(itoa k).toArray⟩ := ⟨_, rfl⟩
          obtain ⟨sN, e3⟩ : ∃ s : ByteArray, s = ⟨(Lib.join ((l.map valText).take (j + 1)) [32]).toArray⟩ := ⟨_, rfl⟩
          have j1 : ∀ w, (Op.stringOp .add sP sK).run Tryd.prog w = .ok (.string sN) w := by
            rw [e1, e2, e3, hnext]
            exact fun w => str_sum _ _ (by omega) w
          have K : Hid (∀ w, Calls Tryd.prog 50 #[.int .i64 k] w (Told (.string sK) w)) := Lib.hid (by rw [e2]; exact fun w => specFmt_t hokx.1 w)
          have HS := Lib.hid e3
          subst hm0
          clear e1 e2 e3 ev hy hokx hym hnext hvl hit hik hml hP HN
          have f0 := C0.out
          have f1 := C1.out
          go_wp2_with fail
          refine (K.out _).mono ?_
          rintro e w1 ⟨rfl, hb1⟩
          have HB1 := Lib.hid (HB.out.trans (hb1.mono HB.out.size))
          have D1 := Lib.hid (cell_to C1.out hb1)
          clear hb1 f0 f1
          go_wp2_with fail
          go_loop [3, 5] (fun s q => s = .string sN ∧ q = .int .i64 0) (fun _ _ => 0)
          case atStart => exact ⟨rfl, rfl⟩
          case round =>
            obtain ⟨rfl, rfl⟩ := hrel
            have f1 := D1.out
            go_wp2_with fail
            go_roundw
            case rel => exact ⟨j + 1, by omega, by go_num, by rw [← HS.out], HB1.out⟩
            case measure => simp [intOf]; omega
        · have hm0 : 0 < m := by
            rcases Nat.eq_zero_or_pos m with e | e
            · exact absurd (List.eq_nil_of_length_eq_zero (by rw [hym, e])) hy
            · exact e
          have bm : ((m : Int) == 0) = false := by simp; omega
          have ev : valText ⟨k, y⟩ = Lib.join (y.map itoa) [46] := by unfold valText; rw [if_neg hy]; rfl
          rw [ev] at hnext hvl
          have HNX := Lib.hid hnext
          have HVL := Lib.hid hvl
          have HP := Lib.hid hP
          have E1 := Lib.hid e1
          have HOX := Lib.hid hokx
          clear ev hy hokx hnext hvl hit hik hml hP e1
          have f1 := C1.out
          go_wp2_with fail
          clear f1
          go_loopw [3, 5] (fun s i wi => ∃ q : Nat, q ≤ m ∧ i = .int .i64 q ∧ s = .string ⟨(P ++ Lib.join ((y.map itoa).take q) [46]).toArray⟩ ∧ Below wr.heap.size wr wi) (fun _ i _ => m - (intOf i).toNat)
          case atStart => exact ⟨0, Nat.zero_le _, rfl, by rw [E1.out]; simp [Lib.join_nil], Below.refl _ _⟩
          case round =>
            obtain ⟨q, hq, rfl, rfl, hb⟩ := hrel
            have HI := Lib.hid hb
            have f1 := cell_to C1.out hb
            clear hb
            by_cases hqm : q < m
            · obtain ⟨ad, z, rfl, hz, hc⟩ := (HN.out.same HI.out).at_ hqm
              have hzi := HOX.out.2 z (List.mem_of_getElem? hz)
              have hzl := itoa_le hzi
              have hnx := join_next [46] (ts := y.map itoa) (j := q) (t := itoa z) (by rw [List.getElem?_map, hz]; rfl)
              have htq := join_le (sep := [46]) (ts := y.map itoa) q
              have hvl := HVL.out
              have hP := HP.out
              obtain ⟨A, eA⟩ : ∃ A, A = P ++ Lib.join ((y.map itoa).take q) [46] := ⟨_, rfl⟩
              have hA : A.length ≤ 90000000 := by rw [eA, List.length_append]; omega
              rw [← eA]
              have hqI : (q : Int) < (m : Int) := by omega
              obtain ⟨sA, a1⟩ : ∃ s : ByteArray, s = ⟨A.toArray⟩ := ⟨_, rfl⟩
              obtain ⟨sZ, a2⟩ : ∃ s : ByteArray, s = ⟨(itoa z).toArray⟩ := ⟨_, rfl⟩
              obtain ⟨sC, a3⟩ : ∃ s : ByteArray, s = ⟨(P ++ Lib.join ((y.map itoa).take (q + 1)) [46]).toArray⟩ := ⟨_, rfl⟩
              have K : Hid (∀ w, Calls Tryd.prog 50 #[.int .i64 z] w (Told (.string sZ) w)) := Lib.hid (by rw [a2]; exact fun w => specFmt_t hzi w)
              rw [← a1]
              by_cases hq0 : q = 0
              · have j3 : ∀ w, (Op.stringOp .add sA sZ).run Tryd.prog w = .ok (.string sC) w := by
                  rw [a1, a2, a3, hnx, if_pos hq0, ← List.append_assoc, ← eA]
                  exact fun w => str_sum _ _ (by omega) w
                have q2 : ¬ 0 < q := by omega
                have q3 : decide ((0 : Int) < (q : Int)) = false := decide_eq_false (by omega)
                have HS := Lib.hid a3
                clear a1 a2 a3 eA hnx hz hzi hzl htq hvl hP hA hq0
                go_wp2_with fail
                refine (K.out _).mono ?_
                rintro e w2 ⟨rfl, hb2⟩
                have HI2 := Lib.hid (HI.out.trans (hb2.mono HI.out.size))
                clear hb2 hc f1
                go_wp2_with fail
                go_roundw
                case rel => exact ⟨q + 1, by omega, by go_num, by rw [← HS.out], HI2.out⟩
                case measure => simp [intOf]; omega
              · obtain ⟨sD, a4⟩ : ∃ s : ByteArray, s = ⟨(A ++ [46]).toArray⟩ := ⟨_, rfl⟩
                have j2 : ∀ w, (Op.stringOp .add sA ⟨#[46]⟩).run Tryd.prog w = .ok (.string sD) w := by
                  rw [a1, a4]
                  exact fun w => str_sum _ [46] (by simp only [List.length_cons, List.length_nil]; omega) w
                have j3 : ∀ w, (Op.stringOp .add sD sZ).run Tryd.prog w = .ok (.string sC) w := by
                  rw [a4, a2, a3, hnx, if_neg hq0, ← List.append_assoc, ← List.append_assoc, ← eA]
                  exact fun w => str_sum _ _ (by rw [List.length_append]; simp only [List.length_cons, List.length_nil]; omega) w
                have q2 : 0 < q := by omega
                have q3 : decide ((0 : Int) < (q : Int)) = true := decide_eq_true (by omega)
                have HS := Lib.hid a3
                clear a1 a2 a3 a4 eA hnx hz hzi hzl htq hvl hP hA hq0
                go_wp2_with fail
                refine (K.out _).mono ?_
                rintro e w2 ⟨rfl, hb2⟩
                have HI2 := Lib.hid (HI.out.trans (hb2.mono HI.out.size))
                clear hb2 hc f1
                go_wp2_with fail
                go_roundw
                case rel => exact ⟨q + 1, by omega, by go_num, by rw [← HS.out], HI2.out⟩
                case measure => simp [intOf]; omega
            · obtain rfl : q = m := by omega
              have HS : Hid (P ++ Lib.join ((y.map itoa).take q) [46] = Lib.join ((l.map valText).take (j + 1)) [32]) := Lib.hid (by rw [List.take_of_length_le (by rw [List.length_map, hym]; omega), HNX.out])
              have HBX := Lib.hid (HB.out.trans (HI.out.mono HB.out.size))
              go_wp2_with fail
              go_roundw
              case rel => exact ⟨j + 1, by omega, by go_num, by rw [HS.out], HBX.out⟩
              case measure => simp [intOf]; omega
    · obtain rfl : j = n := by omega
      by_cases hl0 : l = []
      · have hj0 : j = 0 := by rw [← hl.out, hl0]; rfl
        have HE : Hid (msgText l = [45]) := Lib.hid (by unfold msgText; rw [if_pos hl0])
        subst hj0
        go_wp2_with fail
        go_ret
        exact ⟨by rw [HE.out]; rfl, HB.out⟩
      · have hj0 : 0 < j := by
          rcases Nat.eq_zero_or_pos j with e | e
          · exact absurd (List.eq_nil_of_length_eq_zero (by rw [hl.out, e])) hl0
          · exact e
        have b0 : ((j : Int) == 0) = false := by simp; omega
        have HE : Hid (Lib.join ((l.map valText).take j) [32] = msgText l) := Lib.hid (by
          rw [List.take_of_length_le (by rw [List.length_map, hl.out]; omega)]
          unfold msgText
          rw [if_neg hl0]
          rfl)
        go_wp2_with fail
        go_ret
        exact ⟨by rw [HE.out]; rfl, HB.out⟩
end Go.Proofs.YtdeecjbebkideaaDoor
