/- How many messages are lost: by the program. Lists of values are compared: by the program. Whether a tail is left: by the program. -/
import Derived.Test.YtjkjnhkamieljaaG10
import Derived.Test.YtjkjnhkamieljaaG12
import Derived.Test.YtjkjnhkamieljaaG5
import Derived.Test.YtjkjnhkamieljaaG9
namespace Go.Proofs.Ytjkjnhkamieljaa
open Go.ChangeShapes Go.WideShapes Go.ChangeAt Go.RowKit
set_option linter.unusedVariables false

section
variable {a b : Option Addr} {n m c d : Nat} {l l' : List Fd} {w : World}
set_option maxHeartbeats 2000000 in
set_option maxRecDepth 100000 in
theorem lostBy_any (s : Int) (h : Fds w a n l) (h' : Fds w b m l') (hc : n ≤ c ∧ (c : Int) ≤ 9223372036854775807) (hd : m ≤ d ∧ (d : Int) ≤ 9223372036854775807) (hn : n ≤ 1000000000) (hm : m ≤ 1000000000) :
    Calls Try.prog 16 #[.slice a n c, .slice b m d, .int .i64 s] w (Told (.int .i64 (lostOf l l' s)) w) := by
  have F0 := Lib.hid (inRange_told s 0 50 w)
  have F1 := Lib.hid (fun (w1 : World) (hb : Below w.heap.size w w1) => isFormat_any a n c l w1 (h.same hb) hc)
  have KM := Lib.hid (fun (w1 : World) (hb : Below w.heap.size w w1) (q : Int) (hq : Fit64 q) => makeBytes_any a n c l q w1 (h.same hb) hc hn hq)
  have KD := Lib.hid (fun (w1 : World) (hb : Below w.heap.size w w1) (p : Option Addr) (k f : Nat) (y : List Int) (hy : Nums .i64 w1 p k y) (hk : k ≤ 1000000000) (hf : k ≤ f ∧ (f : Int) ≤ 9223372036854775807) => decodeMessage_any b m d l' p k f y w1 (h'.same hb) hy hd hf hm hk)
  unfold Made at KM
  unfold DmTold at KD
  clear h h' hc hd
  by_cases hs : 0 ≤ s ∧ s ≤ 50
  · have hq : (decide ((0 : Int) ≤ s) && decide (s ≤ 50)) = true := by simp; omega
    rw [hq] at F0
    obtain ⟨k, rfl⟩ : ∃ k : Nat, s = k := ⟨s.toNat, by omega⟩
    cases hA : isFmt l with
    | false =>
      have HQ : Hid (lostOf l l' k = 0) := Lib.hid (if_neg (fun e => by rw [hA] at e; cases e.2))
      rw [hA] at F1
      clear hq
      go_enter Try.func16, Try.ntmps16
      go_wp2_with fail
      refine F0.out.mono ?_
      rintro e w1 ⟨rfl, hb1⟩
      have HB1 := Lib.hid hb1
      clear hb1
      go_wp2_with fail
      refine (F1.out _ HB1.out).mono ?_
      rintro e w2 ⟨rfl, hb2⟩
      have HB2 := Lib.hid (HB1.out.trans (hb2.mono HB1.out.size))
      clear hb2
      go_wp2_with fail
      go_ret
      exact ⟨by rw [HQ.out]; rfl, HB2.out⟩
    | true =>
      have HQ : Hid (lostOf l l' k = (lostTo l l' k : Int)) := Lib.hid (by unfold lostOf; rw [if_pos ⟨hs, hA⟩]; rfl)
      rw [hA] at F1
      have hk : k ≤ 50 := by omega
      clear hq hs
      go_enter Try.func16, Try.ntmps16
      go_wp2_with fail
      refine F0.out.mono ?_
      rintro e w1 ⟨rfl, hb1⟩
      have HB1 := Lib.hid hb1
      clear hb1
      go_wp2_with fail
      refine (F1.out _ HB1.out).mono ?_
      rintro e w2 ⟨rfl, hb2⟩
      have HB2 := Lib.hid (HB1.out.trans (hb2.mono HB1.out.size))
      clear hb2
      go_wp2_with fail
      go_loopw [7, 20] (fun t i wr => ∃ j : Nat, j ≤ k ∧ i = .int .i64 j ∧ t = .int .i64 (lostTo l l' j) ∧ Below w.heap.size w wr) (fun _ i _ => k - (intOf i).toNat)
      case atStart => exact ⟨0, Nat.zero_le _, rfl, rfl, HB2.out⟩
      case round =>
        obtain ⟨j, hj, rfl, rfl, hb⟩ := hrel
        have HB := Lib.hid hb
        have hle := lostTo_le l l' j
        clear hb
        by_cases hlt : j < k
        · go_wp2_with fail
          refine (KM.out _ HB.out j (fit_mk (by omega) (by omega))).mono ?_
          rintro e w3 ⟨p, f, g, rfl, ho, hb3⟩
          have HB3 := Lib.hid (HB.out.trans (hb3.mono HB.out.size))
          have hpf := ho.room
          have hlf : f ≤ 600 := by rw [← ho.len]; exact encOf_few _ _
          have K2 := Lib.hid (KD.out w3 HB3.out p f g _ ho.nums (by omega) hpf)
          clear hb3 ho
          cases hdm : dmOk l' (encOf l (mkMsg l j)) with
          | true =>
            have HL : Hid (lostTo l l' (j + 1) = lostTo l l' j) := Lib.hid (by rw [lostTo, if_pos hdm]; rfl)
            rw [hdm] at K2
            clear hdm
            go_wp2_with fail
            refine K2.out.mono ?_
            rintro e w4 ⟨p2, f2, g2, rfl, ho2, hb4⟩
            have HB4 := Lib.hid (HB3.out.trans (hb4.mono HB3.out.size))
            clear hb4 ho2
            go_wp2_with fail
            go_roundw
            case rel => exact ⟨j + 1, by omega, by go_num, by rw [HL.out], HB4.out⟩
            case measure => simp [intOf]; omega
          | false =>
            have HL : Hid (lostTo l l' (j + 1) = lostTo l l' j + 1) := Lib.hid (by rw [lostTo, if_neg (by rw [hdm]; decide)])
            rw [hdm] at K2
            clear hdm
            go_wp2_with fail
            refine K2.out.mono ?_
            rintro e w4 ⟨p2, f2, g2, rfl, ho2, hb4⟩
            have HB4 := Lib.hid (HB3.out.trans (hb4.mono HB3.out.size))
            clear hb4 ho2
            go_wp2_with fail
            go_roundw
            case rel => exact ⟨j + 1, by omega, by go_num, by rw [HL.out]; go_num, HB4.out⟩
            case measure => simp [intOf]; omega
        · obtain rfl : j = k := by omega
          go_wp2_with fail
          go_ret
          exact ⟨by rw [HQ.out]; rfl, HB.out⟩
  · have hq : (decide ((0 : Int) ≤ s) && decide (s ≤ 50)) = false := by simp; omega
    have HQ : Hid (lostOf l l' s = 0) := Lib.hid (if_neg (fun e => hs e.1))
    rw [hq] at F0
    clear hq hs
    go_enter Try.func16, Try.ntmps16
    go_wp2_with fail
    refine F0.out.mono ?_
    rintro e w1 ⟨rfl, hb1⟩
    have HB1 := Lib.hid hb1
    clear hb1
    go_wp2_with fail
    go_ret
    exact ⟨by rw [HQ.out]; rfl, HB1.out⟩
end
end Go.Proofs.Ytjkjnhkamieljaa
namespace Go.Proofs.Ytjkjnhkamieljaa
open Go.ChangeShapes Go.WideShapes Go.ChangeAt Go.RowKit
set_option linter.unusedVariables false

theorem vl_ne {x y : Vl} (h : x ≠ y) : ¬ (x.num = y.num ∧ x.items = y.items) := fun e => h (by
  obtain ⟨a, b⟩ := x
  obtain ⟨c, d⟩ := y
  simp only at e
  rw [e.1, e.2])
set_option maxHeartbeats 1000000 in
set_option maxRecDepth 100000 in
theorem equalFuncV_yes {a b : Option Addr} {n m c d : Nat} {l : List Vl} {w : World} (h : Vals w a n l) (h' : Vals w b m l) :
    Calls Try.prog 41 #[.slice a n c, .slice b m d, .func (.func 42) #[] #[]] w (Told (.bool true) w) := by
  obtain rfl : n = m := by rw [← h.len, ← h'.len]
  have hn := h.fits
  have H := Lib.hid h
  have H' := Lib.hid h'
  clear h h'
  go_enter Try.func41, Try.ntmps41
  go_wp2_with fail
  go_loopw [17] (fun i wr => ∃ j : Nat, j ≤ n ∧ i = .int .i64 j ∧ Below w.heap.size w wr) (fun i _ => n - (intOf i).toNat)
  case atStart => exact ⟨0, Nat.zero_le _, rfl, Below.refl _ _⟩
  case round =>
    obtain ⟨j, hj, rfl, hb⟩ := hrel
    have HB := Lib.hid hb
    clear hb
    by_cases hlt : j < n
    · obtain ⟨b1, o1, p1, m1, d1, k1, y1, rfl, hx, hc0, hc1, hN1, hr1⟩ := (H.out.same HB.out).at_ hlt
      obtain ⟨b2, o2, p2, m2, d2, k2, y2, rfl, hy, hd0, hd1, hN2, hr2⟩ := (H'.out.same HB.out).at_ hlt
      rw [hx] at hy
      cases hy
      have HW : Hid (Below wr.heap.size wr ((wr.alloc (.cells #[.int .i64 k1, .slice p1 m1 d1] 64)).alloc (.cells #[.int .i64 k1, .slice p2 m2 d2] 64))) := Lib.hid (((Below.refl _ wr).alloc (Nat.le_refl _) _).alloc (by simp) _)
      have hq0 : (wr.alloc (.cells #[.int .i64 k1, .slice p1 m1 d1] 64)).cell? ⟨b2, o2 + j * 2, none⟩ = some (.int .i64 k1) := by rw [(alloc_same wr _).cell (cell_in hd0)]; exact hd0
      have hq1 : (wr.alloc (.cells #[.int .i64 k1, .slice p1 m1 d1] 64)).cell? ⟨b2, o2 + j * 2 + 1, none⟩ = some (.slice p2 m2 d2) := by rw [(alloc_same wr _).cell (cell_in hd1)]; exact hd1
      have K := Lib.hid (equalValues_yes (k := k1) (c := d1) (d := d2) (hN1.same HW.out) (hN2.same HW.out))
      clear hx hN1 hN2
      go_wp2_with fail
      refine K.out.mono ?_
      rintro e w3 ⟨rfl, hb3⟩
      have HB3 := Lib.hid ((HB.out.trans (HW.out.mono HB.out.size)).trans (hb3.mono (Nat.le_trans HB.out.size HW.out.size)))
      clear hb3 hc0 hc1 hd0 hd1 hq0 hq1
      go_wp2_with fail
      go_roundw
      case rel => exact ⟨j + 1, by omega, by go_num, HB3.out⟩
      case measure => simp [intOf]; omega
    · go_wp2_with fail
      go_ret
      exact ⟨rfl, HB.out⟩
set_option maxHeartbeats 1000000 in
set_option maxRecDepth 100000 in
theorem equalFuncV_no {a b : Option Addr} {n m c d : Nat} {l l' : List Vl} {w : World} (h : Vals w a n l) (h' : Vals w b m l') (hne : l ≠ l') :
    Calls Try.prog 41 #[.slice a n c, .slice b m d, .func (.func 42) #[] #[]] w (Told (.bool false) w) := by
  have hn := h.fits
  have hm := h'.fits
  have H := Lib.hid h
  have H' := Lib.hid h'
  have HE := Lib.hid hne
  clear h h' hne
  by_cases hnm : n = m
  · subst hnm
    go_enter Try.func41, Try.ntmps41
    go_wp2_with fail
    go_loopw [17] (fun i wr => ∃ j : Nat, j ≤ n ∧ i = .int .i64 j ∧ l.take j = l'.take j ∧ Below w.heap.size w wr) (fun i _ => n - (intOf i).toNat)
    case atStart => exact ⟨0, Nat.zero_le _, rfl, rfl, Below.refl _ _⟩
    case round =>
      obtain ⟨j, hj, rfl, ht, hb⟩ := hrel
      have HB := Lib.hid hb
      have HT := Lib.hid ht
      clear hb ht
      by_cases hlt : j < n
      · obtain ⟨b1, o1, p1, m1, d1, k1, y1, rfl, hx, hc0, hc1, hN1, hr1⟩ := (H.out.same HB.out).at_ hlt
        obtain ⟨b2, o2, p2, m2, d2, k2, y2, rfl, hy, hd0, hd1, hN2, hr2⟩ := (H'.out.same HB.out).at_ hlt
        have HW : Hid (Below wr.heap.size wr ((wr.alloc (.cells #[.int .i64 k1, .slice p1 m1 d1] 64)).alloc (.cells #[.int .i64 k2, .slice p2 m2 d2] 64))) := Lib.hid (((Below.refl _ wr).alloc (Nat.le_refl _) _).alloc (by simp) _)
        have hq0 : (wr.alloc (.cells #[.int .i64 k1, .slice p1 m1 d1] 64)).cell? ⟨b2, o2 + j * 2, none⟩ = some (.int .i64 k2) := by rw [(alloc_same wr _).cell (cell_in hd0)]; exact hd0
        have hq1 : (wr.alloc (.cells #[.int .i64 k1, .slice p1 m1 d1] 64)).cell? ⟨b2, o2 + j * 2 + 1, none⟩ = some (.slice p2 m2 d2) := by rw [(alloc_same wr _).cell (cell_in hd1)]; exact hd1
        by_cases hxy : k1 = k2 ∧ y1 = y2
        · obtain ⟨rfl, rfl⟩ := hxy
          have HX := Lib.hid hx
          have HY := Lib.hid hy
          have K := Lib.hid (equalValues_yes (k := k1) (c := d1) (d := d2) (hN1.same HW.out) (hN2.same HW.out))
          clear hx hy hN1 hN2
          go_wp2_with fail
          refine K.out.mono ?_
          rintro e w3 ⟨rfl, hb3⟩
          have HB3 := Lib.hid ((HB.out.trans (HW.out.mono HB.out.size)).trans (hb3.mono (Nat.le_trans HB.out.size HW.out.size)))
          clear hb3 hc0 hc1 hd0 hd1 hq0 hq1
          go_wp2_with fail
          go_roundw
          case rel => exact ⟨j + 1, by omega, by go_num, by rw [List.take_add_one, List.take_add_one, HX.out, HY.out, HT.out], HB3.out⟩
          case measure => simp [intOf]; omega
        · have K := Lib.hid (equalValues_no (c := d1) (d := d2) (hN1.same HW.out) (hN2.same HW.out) hxy)
          clear hx hy hN1 hN2 hxy
          go_wp2_with fail
          refine K.out.mono ?_
          rintro e w3 ⟨rfl, hb3⟩
          have HB3 := Lib.hid ((HB.out.trans (HW.out.mono HB.out.size)).trans (hb3.mono (Nat.le_trans HB.out.size HW.out.size)))
          clear hb3 hc0 hc1 hd0 hd1 hq0 hq1
          go_wp2_with fail
          go_ret
          exact ⟨rfl, HB3.out⟩
      · exfalso
        have h1 := HT.out
        rw [List.take_of_length_le (by rw [H.out.len]; omega), List.take_of_length_le (by rw [H'.out.len]; omega)] at h1
        exact HE.out h1
  · have hq : ((n : Int) != (m : Int)) = true := by simp; omega
    clear hnm
    go_enter Try.func41, Try.ntmps41
    go_wp2_with fail
    go_ret
    exact ⟨rfl, Below.refl _ _⟩
set_option maxRecDepth 100000 in
theorem equalMessages_yes {a b : Option Addr} {n m c d : Nat} {l : List Vl} {w : World} (h : Vals w a n l) (h' : Vals w b m l) :
    Calls Try.prog 19 #[.slice a n c, .slice b m d] w (Told (.bool true) w) := by
  have K := Lib.hid (equalFuncV_yes (c := c) (d := d) h h')
  clear h h'
  go_enter Try.func19, Try.ntmps19
  go_wp2_with fail
  refine K.out.mono ?_
  rintro e w1 ⟨rfl, hb1⟩
  have HB1 := Lib.hid hb1
  clear hb1
  go_wp2
  go_ret
  exact ⟨rfl, HB1.out⟩
set_option maxRecDepth 100000 in
theorem equalMessages_no {a b : Option Addr} {n m c d : Nat} {l l' : List Vl} {w : World} (h : Vals w a n l) (h' : Vals w b m l') (hne : l ≠ l') :
    Calls Try.prog 19 #[.slice a n c, .slice b m d] w (Told (.bool false) w) := by
  have K := Lib.hid (equalFuncV_no (c := c) (d := d) h h' hne)
  clear h h' hne
  go_enter Try.func19, Try.ntmps19
  go_wp2_with fail
  refine K.out.mono ?_
  rintro e w1 ⟨rfl, hb1⟩
  have HB1 := Lib.hid hb1
  clear hb1
  go_wp2
  go_ret
  exact ⟨rfl, HB1.out⟩
end Go.Proofs.Ytjkjnhkamieljaa
namespace Go.Proofs.Ytjkjnhkamieljaa
open Go.ChangeShapes Go.WideShapes Go.ChangeAt Go.RowKit
set_option linter.unusedVariables false

section
variable {a b : Option Addr} {n m c d : Nat} {l l' : List Fd} {w : World}
noncomputable def sameV (v v' : List Vl) : Bool := @decide (v = v') (Classical.propDecidable _)
theorem equalMessages_any {a b : Option Addr} {n m c d : Nat} {l l' : List Vl} {w : World} (h : Vals w a n l) (h' : Vals w b m l') : Calls Try.prog 19 #[.slice a n c, .slice b m d] w (Told (.bool (sameV l l')) w) := by
  by_cases e : l = l'
  · subst e
    have : sameV l l = true := by simp [sameV]
    rw [this]
    exact equalMessages_yes h h'
  · have : sameV l l' = false := by simp [sameV, e]
    rw [this]
    exact equalMessages_no h h' e
theorem skip_prog {l l' : List Fd} {s : Int} (h : 0 ≤ rpK l (encOf l' (mkMsg l' s))) : skipOf l l' s = sameV (rpV l (encOf l' (mkMsg l' s))) ((mkMsg l' s).take l.length) := by
  unfold skipOf sameV
  rw [decide_eq_true h, Bool.true_and]
theorem skip_no {l l' : List Fd} {s : Int} (h : ¬ 0 ≤ rpK l (encOf l' (mkMsg l' s))) : skipOf l l' s = false := by
  unfold skipOf
  rw [decide_eq_false h, Bool.false_and]
set_option maxHeartbeats 2000000 in
set_option maxRecDepth 100000 in
theorem skipsTail_any (s : Int) (hs : Fit64 s) (h : Fds w a n l) (h' : Fds w b m l') (hc : n ≤ c ∧ (c : Int) ≤ 9223372036854775807) (hd : m ≤ d ∧ (d : Int) ≤ 9223372036854775807) (hn : n ≤ 1000000000) (hm : m ≤ 1000000000) :
    Calls Try.prog 21 #[.slice a n c, .slice b m d, .int .i64 s] w (Told (.bool (skipOf l l' s)) w) := by
  have hl := Lib.hid h.len
  have KB := Lib.hid (makeBytes_any b m d l' s w h' hd hm hs)
  have KM := Lib.hid (fun (w1 : World) (hb : Below w.heap.size w w1) => makeMessage_any b m d l' s w1 (h'.same hb) hd hm hs)
  have KR := Lib.hid (fun (w1 : World) (hb : Below w.heap.size w w1) (p : Option Addr) (k f : Nat) (y : List Int) (hy : Nums .i64 w1 p k y) (hk : k ≤ 1000000000) (hf : k ≤ f ∧ (f : Int) ≤ 9223372036854775807) => readPrefix_any a n c l p k f y w1 (h.same hb) hy hc hf hn hk)
  unfold Made at KB
  unfold MadeV at KM
  unfold RpTold at KR
  clear h h' hs hc hd
  by_cases hK : 0 ≤ rpK l (encOf l' (mkMsg l' s))
  · have HQ := Lib.hid (skip_prog hK)
    go_enter Try.func21, Try.ntmps21
    go_wp2_with fail
    refine KB.out.mono ?_
    rintro e w1 ⟨p, f, g, rfl, ho, hb1⟩
    have HB1 := Lib.hid hb1
    have hpf := ho.room
    have hlf : f ≤ 600 := by rw [← ho.len]; exact encOf_few _ _
    have K2 := Lib.hid (KR.out w1 HB1.out p f g _ ho.nums (by omega) hpf)
    clear hb1 ho
    go_wp2_with fail
    refine K2.out.mono ?_
    rintro e w2 ⟨p2, f2, g2, rfl, ho2, hb2⟩
    have HO2 := Lib.hid ho2
    have HB2 := Lib.hid (HB1.out.trans (hb2.mono HB1.out.size))
    clear hb2 ho2
    go_wp2_with fail
    refine (KM.out _ HB2.out).mono ?_
    rintro e w3 ⟨p3, f3, g3, rfl, ho3, hb3⟩
    have HO3 := Lib.hid ho3
    have HV3 := Lib.hid (HO2.out.vals.same hb3)
    have HB3 := Lib.hid (HB2.out.trans (hb3.mono HB2.out.size))
    clear hb3 ho3
    go_wp2_with fail
    refine (firstV_any p3 f3 g3 n _ _ _ w3 HO3.out (by omega)).mono ?_
    rintro e w4 ⟨p4, f4, g4, rfl, hv4, hq4, hq5, hb4'⟩
    have K5 := Lib.hid (equalMessages_any (c := g2) (d := g4) (HV3.out.same hb4') hv4)
    have HB4 := Lib.hid (HB3.out.trans (hb4'.mono HB3.out.size))
    clear hb4' hv4
    rw [← hl.out] at K5
    rw [← HQ.out] at K5
    go_wp2_with fail
    refine K5.out.mono ?_
    rintro e w5 ⟨rfl, hb5⟩
    have HB5 := Lib.hid (HB4.out.trans (hb5.mono HB4.out.size))
    clear hb5
    go_wp2_with fail
    go_ret
    exact ⟨rfl, HB5.out⟩
  · have HQ := Lib.hid (skip_no hK)
    go_enter Try.func21, Try.ntmps21
    go_wp2_with fail
    refine KB.out.mono ?_
    rintro e w1 ⟨p, f, g, rfl, ho, hb1⟩
    have HB1 := Lib.hid hb1
    have hpf := ho.room
    have hlf : f ≤ 600 := by rw [← ho.len]; exact encOf_few _ _
    have K2 := Lib.hid (KR.out w1 HB1.out p f g _ ho.nums (by omega) hpf)
    clear hb1 ho
    go_wp2_with fail
    refine K2.out.mono ?_
    rintro e w2 ⟨p2, f2, g2, rfl, ho2, hb2⟩
    have HB2 := Lib.hid (HB1.out.trans (hb2.mono HB1.out.size))
    clear hb2 ho2
    go_wp2_with fail
    go_ret
    exact ⟨by rw [HQ.out]; rfl, HB2.out⟩
end
end Go.Proofs.Ytjkjnhkamieljaa
