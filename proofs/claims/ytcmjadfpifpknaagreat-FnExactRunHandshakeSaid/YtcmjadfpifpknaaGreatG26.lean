/- What two lists of numbers have in common, a list without a number, the greatest common version, a version added and taken away, the runs: by the model. The greatest common version, a version added and taken away, the runs of a list: by the model. A version added and taken away, the runs of a list: by the model. The extensions whose tag is in a list: by the model. -/
import Derived.Test.YtcmjadfpifpknaaGreatG16
import Derived.Test.YtcmjadfpifpknaaGreatG25
import Derived.Test.YtcmjadfpifpknaaGreatG23
import Derived.Test.YtcmjadfpifpknaaGreatG13
import Derived.Deep.RegionHeld3
namespace Go.Proofs.YtcmjadfpifpknaaGreat
open Go.ChangeShapes Go.WideShapes Go.ChangeAt Go.RowKit
set_option linter.unusedVariables false
set_option linter.unusedSimpArgs false

set_option maxHeartbeats 4000000 in
set_option maxRecDepth 100000 in
theorem specCommonOf_any {a b : Option Addr} {n m c d : Nat} {l l' : List Int} {w : World} (h : Nums .i64 w a n l) (h' : Nums .i64 w b m l') (hn : n ≤ 1048576000) :
    Calls Tryz.prog 51 #[.slice a n c, .slice b m d] w (Made .i64 3 w.heap.size (common l l') w) := by
  have H := Lib.hid h
  have H' := Lib.hid h'
  have hl := Lib.hid h.len
  obtain ⟨i0, hi, hz0, hz1, hz2⟩ := info_parts infoIntS
  have HI := Lib.hid (And.intro hi (And.intro hz0 (And.intro hz1 hz2)))
  clear hi hz0 hz1 hz2
  unfold Made
  have KO := Lib.hid (Own.empty (k := .i64) (t := 3) (w := w) (B := w.heap.size) (Nat.le_refl _))
  clear h h'
  go_enter Tryz.func51, Tryz.ntmps51
  go_wp2_with fail
  go_loopw [5, 6] (fun s i wr => ∃ (a' : Option Addr) (c' n' j : Nat), s = .slice a' n' c' ∧ i = .int .i64 (j : Int) ∧ j ≤ n ∧ Own .i64 3 wr w.heap.size a' n' c' (common (l.take j) l') ∧ Below w.heap.size w wr) (fun _ i _ => n - (intOf i).toNat)
  case atStart => exact ⟨_, _, _, 0, rfl, rfl, Nat.zero_le _, by rw [List.take_zero]; exact KO.out, alloc_same _ _⟩
  case round =>
    obtain ⟨a', c', n', j, rfl, rfl, hj, ho, hb⟩ := hrel
    have HO := Lib.hid ho
    have HB := Lib.hid hb
    have hn9 : n' ≤ 1048576000 := by
      have h1 := ho.len
      have h2 := common_few (l.take j) l'
      rw [List.length_take] at h2
      omega
    have hsw : w.heap.size ≤ wr.heap.size := hb.size
    clear ho hb
    by_cases hlt : j < n
    · obtain ⟨ad, z, rfl, hx, hc⟩ := (H.out.same HB.out).at_ hlt
      have HV := Lib.hid (l9Has_any (c := d) z (H'.out.same HB.out))
      cases hq : decide (z ∈ l') with
      | true =>
        have HY := Lib.hid (common_yes hx (of_decide_eq_true hq))
        rw [hq] at HV
        clear hq hx
        go_wp2_with fail
        refine HV.out.mono ?_
        rintro e w2 ⟨rfl, rfl⟩
        go_wp2_with (at_builtin; refine wpl_app _ rfl (.tmp 20) (.tmp 25) 24 rfl .i64 3 i0 (.int .i64 0) 8 Tryz.underlying24 HI.out.1 HI.out.2.1 HI.out.2.2.1 HI.out.2.2.2 rfl rfl (HO.out.alloc _) rfl (nums_new _ _ _ _) (by omega) ?c6 ?c7 ?_)
        case c6 => omega
        case c7 => simp; omega
        intro a3 c3 w3 ho3 hb3
        have HO3 := Lib.hid ho3
        have HB3 := Lib.hid hb3
        clear ho3 hb3
        go_wp2
        go_roundw
        case rel => exact ⟨a3, c3, _, j + 1, rfl, by go_num, by omega, by rw [HY.out]; exact HO3.out, HB.out.trans (((alloc_same _ _).mono hsw).trans HB3.out)⟩
        case measure => simp [intOf]; omega
      | false =>
        have HY := Lib.hid (common_no hx (of_decide_eq_false hq))
        rw [hq] at HV
        clear hq hx
        go_wp2_with fail
        refine HV.out.mono ?_
        rintro e w2 ⟨rfl, rfl⟩
        go_wp2
        go_roundw
        case rel => exact ⟨a', c', n', j + 1, rfl, by go_num, by omega, by rw [HY.out]; exact HO.out, HB.out⟩
        case measure => simp [intOf]; omega
    · obtain rfl : j = n := by omega
      have HY : Hid (common (l.take j) l' = common l l') := Lib.hid (by rw [← hl.out, List.take_length])
      go_wp2
      go_ret
      exact ⟨_, _, _, rfl, by rw [← HY.out]; exact HO.out, HB.out⟩
set_option maxHeartbeats 4000000 in
set_option maxRecDepth 100000 in
theorem without_any {a : Option Addr} {n c : Nat} {l : List Int} (v : Int) {w : World} (h : Nums .i64 w a n l) (hn : n ≤ 1048576000) :
    Calls Tryz.prog 147 #[.slice a n c, .int .i64 v] w (Made .i64 3 w.heap.size (without l v) w) := by
  have H := Lib.hid h
  have hl := Lib.hid h.len
  obtain ⟨i0, hi, hz0, hz1, hz2⟩ := info_parts infoIntS
  have HI := Lib.hid (And.intro hi (And.intro hz0 (And.intro hz1 hz2)))
  clear hi hz0 hz1 hz2
  unfold Made
  have KO := Lib.hid (Own.empty (k := .i64) (t := 3) (w := w) (B := w.heap.size) (Nat.le_refl _))
  clear h
  go_enter Tryz.func147, Tryz.ntmps147
  go_wp2_with fail
  go_loopw [5, 6] (fun s i wr => ∃ (a' : Option Addr) (c' n' j : Nat), s = .slice a' n' c' ∧ i = .int .i64 (j : Int) ∧ j ≤ n ∧ Own .i64 3 wr w.heap.size a' n' c' (without (l.take j) v) ∧ Below w.heap.size w wr) (fun _ i _ => n - (intOf i).toNat)
  case atStart => exact ⟨_, _, _, 0, rfl, rfl, Nat.zero_le _, by rw [List.take_zero]; exact KO.out, alloc_same _ _⟩
  case round =>
    obtain ⟨a', c', n', j, rfl, rfl, hj, ho, hb⟩ := hrel
    have HO := Lib.hid ho
    have HB := Lib.hid hb
    have hn9 : n' ≤ 1048576000 := by
      have h1 := ho.len
      have h2 := without_few (l.take j) v
      rw [List.length_take] at h2
      omega
    have hsw : w.heap.size ≤ wr.heap.size := hb.size
    clear ho hb
    by_cases hlt : j < n
    · obtain ⟨ad, z, rfl, hx, hc⟩ := (H.out.same HB.out).at_ hlt
      by_cases hq : z = v
      · have HY := Lib.hid (without_no hx hq)
        have hb0 : (z == v) = true := by simpa using hq
        have hb1 : (z != v) = false := by simp [hq]
        clear hq hx
        go_wp2
        go_roundw
        case rel => exact ⟨a', c', n', j + 1, rfl, by go_num, by omega, by rw [HY.out]; exact HO.out, HB.out⟩
        case measure => simp [intOf]; omega
      · have HY := Lib.hid (without_yes hx hq)
        have hb0 : (z == v) = false := by simpa using hq
        have hb1 : (z != v) = true := by simpa using hq
        clear hq hx
        go_wp2_with (at_builtin; refine wpl_app _ rfl (.tmp 20) (.tmp 25) 24 rfl .i64 3 i0 (.int .i64 0) 8 Tryz.underlying24 HI.out.1 HI.out.2.1 HI.out.2.2.1 HI.out.2.2.2 rfl rfl (HO.out.alloc _) rfl (nums_new _ _ _ _) (by omega) ?c6 ?c7 ?_)
        case c6 => omega
        case c7 => simp; omega
        intro a3 c3 w3 ho3 hb3
        have HO3 := Lib.hid ho3
        have HB3 := Lib.hid hb3
        clear ho3 hb3
        go_wp2
        go_roundw
        case rel => exact ⟨a3, c3, _, j + 1, rfl, by go_num, by omega, by rw [HY.out]; exact HO3.out, HB.out.trans (((alloc_same _ _).mono hsw).trans HB3.out)⟩
        case measure => simp [intOf]; omega
    · obtain rfl : j = n := by omega
      have HY : Hid (without (l.take j) v = without l v) := Lib.hid (by rw [← hl.out, List.take_length])
      go_wp2
      go_ret
      exact ⟨_, _, _, rfl, by rw [← HY.out]; exact HO.out, HB.out⟩
end Go.Proofs.YtcmjadfpifpknaaGreat
namespace Go.Proofs.YtcmjadfpifpknaaGreat
open Go.ChangeShapes Go.WideShapes Go.ChangeAt Go.RowKit
set_option linter.unusedVariables false
set_option linter.unusedSimpArgs false

theorem last_get {l : List Int} {k : Nat} (h : l.length = k + 1) : l[k]? = some (l.getLastD 0) := by
  rw [List.getLastD_eq_getLast?, List.getLast?_eq_getElem?, h]
  simp only [Nat.add_sub_cancel]
  rw [List.getElem?_eq_getElem (by omega)]
  rfl
set_option maxHeartbeats 4000000 in
set_option maxRecDepth 100000 in
theorem specBestCommon_any {a b : Option Addr} {n m c d : Nat} {l l' : List Int} {w : World} (h : Nums .i64 w a n l) (h' : Nums .i64 w b m l') (hn : n ≤ 1048576000) :
    Calls Tryz.prog 12 #[.slice a n c, .slice b m d] w (Told (.int .i64 (best l l' : Int)) w) := by
  have H := Lib.hid h
  have H' := Lib.hid h'
  have HC := Lib.hid (specCommonOf_any (c := c) (d := d) h h' hn)
  clear h h'
  unfold Made at HC
  by_cases ha : word l = 0
  · have HE : Hid (best l l' = 0) := best_off (.inl ha)
    have HA := fun (W : World) (q : Nums .i64 W a n l) => specAreVersions_any (c := c) q
    rw [areV_no ha] at HA
    clear ha
    have HA := Lib.hid HA
    go_enter Tryz.func12, Tryz.ntmps12
    go_wp2_with fail
    refine HC.out.mono ?_
    rintro e w1 ⟨q, k, r, rfl, ho, hb1⟩
    have HB1 := Lib.hid hb1
    clear ho hb1 HC
    go_wp2_with fail
    refine (HA.out _ (H.out.same HB1.out)).mono ?_
    rintro e w2 ⟨rfl, hb2⟩
    have HB2 := Lib.hid (HB1.out.trans (hb2.mono HB1.out.size))
    clear hb2
    go_wp2_with fail
    go_ret
    exact ⟨by rw [HE.out]; rfl, HB2.out⟩
  by_cases hb : word l' = 0
  · have HE : Hid (best l l' = 0) := best_off (.inr hb)
    have HA := fun (W : World) (q : Nums .i64 W a n l) => specAreVersions_any (c := c) q
    rw [areV_yes ha] at HA
    have HA' := fun (W : World) (q : Nums .i64 W b m l') => specAreVersions_any (c := d) q
    rw [areV_no hb] at HA'
    clear ha hb
    have HA := Lib.hid HA
    have HA' := Lib.hid HA'
    go_enter Tryz.func12, Tryz.ntmps12
    go_wp2_with fail
    refine HC.out.mono ?_
    rintro e w1 ⟨q, k, r, rfl, ho, hb1⟩
    have HB1 := Lib.hid hb1
    clear ho hb1 HC
    go_wp2_with fail
    refine (HA.out _ (H.out.same HB1.out)).mono ?_
    rintro e w2 ⟨rfl, hb2⟩
    have HB2 := Lib.hid (HB1.out.trans (hb2.mono HB1.out.size))
    clear hb2
    go_wp2_with fail
    refine (HA'.out _ (H'.out.same HB2.out)).mono ?_
    rintro e w3 ⟨rfl, hb3⟩
    have HB3 := Lib.hid (HB2.out.trans (hb3.mono HB2.out.size))
    clear hb3
    go_wp2_with fail
    go_ret
    exact ⟨by rw [HE.out]; rfl, HB3.out⟩
  have HA := fun (W : World) (q : Nums .i64 W a n l) => specAreVersions_any (c := c) q
  rw [areV_yes ha] at HA
  have HA' := fun (W : World) (q : Nums .i64 W b m l') => specAreVersions_any (c := d) q
  rw [areV_yes hb] at HA'
  have hlast := best_last ha hb
  have hnone := best_none ha hb
  clear ha hb
  have HA := Lib.hid HA
  have HA' := Lib.hid HA'
  by_cases hc : common l l' = []
  · have HE : Hid (best l l' = 0) := hnone.1 hc
    rw [hc] at HC
    clear hc hlast hnone
    go_enter Tryz.func12, Tryz.ntmps12
    go_wp2_with fail
    refine HC.out.mono ?_
    rintro e w1 ⟨q, k, r, rfl, ho, hb1⟩
    obtain rfl : 0 = k := ho.len
    have HB1 := Lib.hid hb1
    clear ho hb1 HC
    go_wp2_with fail
    refine (HA.out _ (H.out.same HB1.out)).mono ?_
    rintro e w2 ⟨rfl, hb2⟩
    have HB2 := Lib.hid (HB1.out.trans (hb2.mono HB1.out.size))
    clear hb2
    go_wp2_with fail
    refine (HA'.out _ (H'.out.same HB2.out)).mono ?_
    rintro e w3 ⟨rfl, hb3⟩
    have HB3 := Lib.hid (HB2.out.trans (hb3.mono HB2.out.size))
    clear hb3
    go_wp2_with fail
    go_ret
    exact ⟨by rw [HE.out]; rfl, HB3.out⟩
  · obtain ⟨k, hk⟩ : ∃ k, (common l l').length = k + 1 := ⟨(common l l').length - 1, by
      have : (common l l').length ≠ 0 := fun q => hc (List.eq_nil_of_length_eq_zero q)
      omega⟩
    have hg := last_get hk
    rw [hlast] at hg
    have HG := Lib.hid hg
    have HK := Lib.hid hk
    clear hc hlast hnone hg hk
    go_enter Tryz.func12, Tryz.ntmps12
    go_wp2_with fail
    refine HC.out.mono ?_
    rintro e w1 ⟨q, k1, r, rfl, ho, hb1⟩
    obtain rfl : k + 1 = k1 := by rw [← HK.out]; exact ho.len
    have HB1 := Lib.hid hb1
    have HO := Lib.hid ho
    clear ho hb1 HC
    go_wp2_with fail
    refine (HA.out _ (H.out.same HB1.out)).mono ?_
    rintro e w2 ⟨rfl, hb2⟩
    have HB2 := Lib.hid (HB1.out.trans (hb2.mono HB1.out.size))
    have HO2 := Lib.hid (HO.out.same hb2)
    clear hb2
    go_wp2_with fail
    refine (HA'.out _ (H'.out.same HB2.out)).mono ?_
    rintro e w3 ⟨rfl, hb3⟩
    have HB3 := Lib.hid (HB2.out.trans (hb3.mono HB2.out.size))
    obtain ⟨g, eg, _, _⟩ := HO.out.head (by omega)
    subst eg
    have ho3 := HO2.out.same hb3
    obtain ⟨ad, x, e3, hx, hcell⟩ := ho3.nums.at_ (show k < k + 1 by omega)
    cases e3
    rw [HG.out] at hx
    cases hx
    have hfit := ho3.room
    have hcell2 : w3.cell? ⟨g, k, none⟩ = some (.int .i64 (best l l' : Int)) := by
      have := hcell
      unfold Addr.add at this
      by_cases q : k = 0
      · subst q; simpa using this
      · simpa [q] using this
    have z1 : ((k + 1 : Nat) : Int) - 1 = (k : Int) := by omega
    have z2 : (((k + 1 : Nat) : Int) == 0) = false := beq_false_of_ne (by omega)
    have z3 : ((k : Int) + 1 == 0) = false := beq_false_of_ne (by omega)
    have z4 : (k + 1 == 0) = false := rfl
    clear hb3 hcell ho3
    go_wp2_with fail
    go_ret
    exact ⟨rfl, HB3.out⟩
end Go.Proofs.YtcmjadfpifpknaaGreat
namespace Go.Proofs.YtcmjadfpifpknaaGreat
open Go.ChangeShapes Go.WideShapes Go.ChangeAt Go.RowKit
set_option linter.unusedVariables false
set_option linter.unusedSimpArgs false

set_option maxHeartbeats 4000000 in
set_option maxRecDepth 100000 in
theorem specAddVersion_any {a : Option Addr} {n c : Nat} {l : List Int} (v : Int) {w : World} (h : Nums .i64 w a n l) (hh : 0 < n → ∃ g, a = some ⟨g, 0, none⟩) (hc : n ≤ c ∧ (c : Int) ≤ 9223372036854775807) (hn : n ≤ 1000000000) :
    Calls Tryz.prog 113 #[.slice a n c, .int .i64 v] w (MadeB 3 w.heap.size (addV l v) (addsV l v) w) := by
  have H := Lib.hid h
  have HA := fun (W : World) (q : Nums .i64 W a n l) => specAreVersions_any (c := c) q
  obtain ⟨i0, hi, hz0, hz1, hz2⟩ := info_parts infoIntS
  have HI := Lib.hid (And.intro hi (And.intro hz0 (And.intro hz1 hz2)))
  clear hi hz0 hz1 hz2
  unfold MadeB
  have HV := l1R_b v 1 9
  have hlen := h.len
  by_cases h0 : word l = 0
  · obtain ⟨e1, e2⟩ := addV_no (l := l) (v := v) (fun q => q.1 h0)
    rw [e1, e2]
    rw [areV_no h0] at HA
    have HA := Lib.hid HA
    clear h h0 e1 e2
    have HI0 := Lib.hid (Below.refl w.heap.size w)
    go_enter Tryz.func113, Tryz.ntmps113
    go_wp2_with fail
    refine (HA.out _ (H.out.same HI0.out)).mono ?_
    rintro e w1 ⟨rfl, hb1⟩
    have HB1 := Lib.hid (HI0.out.trans (hb1.mono HI0.out.size))
    clear hb1
    go_wp2_with (at_builtin; refine wpl_app _ rfl (.tmp 19) (.tmp 20) 24 rfl .i64 3 i0 (.int .i64 0) 8 Tryz.underlying24 HI.out.1 HI.out.2.1 HI.out.2.2.1 HI.out.2.2.2 rfl rfl (Own.empty (Nat.le_refl _)) rfl (H.out.same (HB1.out.trans ((alloc_same _ _).mono HB1.out.size))) (by omega) ?c1 ?c2 ?_)
    case c1 => omega
    case c2 => simp
    intro a9 c9 w9 ho9 hb9
    have HO9 := Lib.hid ho9
    have HB9 := Lib.hid (HB1.out.trans (((alloc_same _ _).trans hb9).mono HB1.out.size))
    have hs9 := HB1.out.size
    clear ho9 hb9
    go_wp2_with fail
    go_ret2
    refine ⟨_, _, _, rfl, ?_, HB9.out⟩
    simpa using HO9.out.lower hs9
  have hareV := areV_yes h0
  rw [hareV] at HA
  have HA := Lib.hid HA
  by_cases hr : 1 ≤ v ∧ v ≤ 9
  · rw [inBd_yes hr.1 hr.2] at HV
    by_cases hm : v ∈ l
    · obtain ⟨e1, e2⟩ := addV_no (l := l) (v := v) (fun q => q.2.2 hm)
      rw [e1, e2]
      have HH := fun (W : World) (q : Nums .i64 W a n l) => l9Has_any (c := c) v q
      rw [decide_eq_true hm] at HH
      have HH := Lib.hid HH
      clear h h0 e1 e2 hr hm hareV
      have HI0 := Lib.hid (Below.refl w.heap.size w)
      go_enter Tryz.func113, Tryz.ntmps113
      go_wp2_with fail
      refine (HA.out _ (H.out.same HI0.out)).mono ?_
      rintro e w1 ⟨rfl, hb1⟩
      have HB1 := Lib.hid (HI0.out.trans (hb1.mono HI0.out.size))
      clear hb1
      go_wp2_with fail
      refine (HV _).mono ?_
      rintro e w' ⟨rfl, rfl⟩
      go_wp2_with fail
      refine (HH.out _ (H.out.same HB1.out)).mono ?_
      rintro e w' ⟨rfl, rfl⟩
      go_wp2_with (at_builtin; refine wpl_app _ rfl (.tmp 19) (.tmp 20) 24 rfl .i64 3 i0 (.int .i64 0) 8 Tryz.underlying24 HI.out.1 HI.out.2.1 HI.out.2.2.1 HI.out.2.2.2 rfl rfl (Own.empty (Nat.le_refl _)) rfl (H.out.same (HB1.out.trans ((alloc_same _ _).mono HB1.out.size))) (by omega) ?c1 ?c2 ?_)
      case c1 => omega
      case c2 => simp
      intro a9 c9 w9 ho9 hb9
      have HO9 := Lib.hid ho9
      have HB9 := Lib.hid (HB1.out.trans (((alloc_same _ _).trans hb9).mono HB1.out.size))
      have hs9 := HB1.out.size
      clear ho9 hb9
      go_wp2_with fail
      go_ret2
      refine ⟨_, _, _, rfl, ?_, HB9.out⟩
      simpa using HO9.out.lower hs9
    · obtain ⟨e1, e2⟩ := addV_yes h0 hr hm
      rw [e1, e2, ← addV_put h0 hr]
      have HH := fun (W : World) (q : Nums .i64 W a n l) => l9Has_any (c := c) v q
      rw [decide_eq_false hm] at HH
      have HH := Lib.hid HH
      obtain ⟨g, rfl⟩ := hh (by have := areV_len h0; omega)
      clear h h0 e1 e2 hr hm hareV
      have HI0 := Lib.hid (Below.refl w.heap.size w)
      go_enter Tryz.func113, Tryz.ntmps113
      go_wp2_with fail
      refine (HA.out _ (H.out.same HI0.out)).mono ?_
      rintro e w1 ⟨rfl, hb1⟩
      have HB1 := Lib.hid (HI0.out.trans (hb1.mono HI0.out.size))
      clear hb1
      go_wp2_with fail
      refine (HV _).mono ?_
      rintro e w' ⟨rfl, rfl⟩
      go_wp2_with fail
      refine (HH.out _ (H.out.same HB1.out)).mono ?_
      rintro e w' ⟨rfl, rfl⟩
      go_wp2_with fail
      refine (specPut_any g n c l v _ (H.out.same HB1.out) hc hn).mono ?_
      rintro e w2 ⟨a9, n9, c9, rfl, ho9, hb9⟩
      have hs9 := HB1.out.size
      have HO9 := Lib.hid ho9
      have HB9 := Lib.hid (HB1.out.trans (hb9.mono hs9))
      clear ho9 hb9
      go_wp2_with fail
      go_ret2
      exact ⟨_, _, _, rfl, HO9.out.lower hs9, HB9.out⟩
  · obtain ⟨e1, e2⟩ := addV_no (l := l) (v := v) (fun q => hr q.2.1)
    rw [e1, e2]
    rw [inBd_no hr] at HV
    clear h h0 e1 e2 hr hareV
    have HI0 := Lib.hid (Below.refl w.heap.size w)
    go_enter Tryz.func113, Tryz.ntmps113
    go_wp2_with fail
    refine (HA.out _ (H.out.same HI0.out)).mono ?_
    rintro e w1 ⟨rfl, hb1⟩
    have HB1 := Lib.hid (HI0.out.trans (hb1.mono HI0.out.size))
    clear hb1
    go_wp2_with fail
    refine (HV _).mono ?_
    rintro e w' ⟨rfl, rfl⟩
    go_wp2_with (at_builtin; refine wpl_app _ rfl (.tmp 19) (.tmp 20) 24 rfl .i64 3 i0 (.int .i64 0) 8 Tryz.underlying24 HI.out.1 HI.out.2.1 HI.out.2.2.1 HI.out.2.2.2 rfl rfl (Own.empty (Nat.le_refl _)) rfl (H.out.same (HB1.out.trans ((alloc_same _ _).mono HB1.out.size))) (by omega) ?c1 ?c2 ?_)
    case c1 => omega
    case c2 => simp
    intro a9 c9 w9 ho9 hb9
    have HO9 := Lib.hid ho9
    have HB9 := Lib.hid (HB1.out.trans (((alloc_same _ _).trans hb9).mono HB1.out.size))
    have hs9 := HB1.out.size
    clear ho9 hb9
    go_wp2_with fail
    go_ret2
    refine ⟨_, _, _, rfl, ?_, HB9.out⟩
    simpa using HO9.out.lower hs9
set_option maxHeartbeats 4000000 in
set_option maxRecDepth 100000 in
theorem specDropVersion_any {a : Option Addr} {n c : Nat} {l : List Int} (v : Int) {w : World} (h : Nums .i64 w a n l) (hn : n ≤ 1000000000) :
    Calls Tryz.prog 112 #[.slice a n c, .int .i64 v] w (MadeB 3 w.heap.size (dropV l v) (dropsV l v) w) := by
  have H := Lib.hid h
  have HA := fun (W : World) (q : Nums .i64 W a n l) => specAreVersions_any (c := c) q
  obtain ⟨i0, hi, hz0, hz1, hz2⟩ := info_parts infoIntS
  have HI := Lib.hid (And.intro hi (And.intro hz0 (And.intro hz1 hz2)))
  clear hi hz0 hz1 hz2
  unfold MadeB
  have hlen := h.len
  by_cases h0 : word l = 0
  · obtain ⟨e1, e2⟩ := dropV_no (l := l) (v := v) (fun q => q.1 h0)
    rw [e1, e2]
    rw [areV_no h0] at HA
    have HA := Lib.hid HA
    clear h h0 e1 e2
    have HI0 := Lib.hid (Below.refl w.heap.size w)
    go_enter Tryz.func112, Tryz.ntmps112
    go_wp2_with fail
    refine (HA.out _ (H.out.same HI0.out)).mono ?_
    rintro e w1 ⟨rfl, hb1⟩
    have HB1 := Lib.hid (HI0.out.trans (hb1.mono HI0.out.size))
    clear hb1
    go_wp2_with (at_builtin; refine wpl_app _ rfl (.tmp 20) (.tmp 21) 24 rfl .i64 3 i0 (.int .i64 0) 8 Tryz.underlying24 HI.out.1 HI.out.2.1 HI.out.2.2.1 HI.out.2.2.2 rfl rfl (Own.empty (Nat.le_refl _)) rfl (H.out.same (HB1.out.trans ((alloc_same _ _).mono HB1.out.size))) (by omega) ?c1 ?c2 ?_)
    case c1 => omega
    case c2 => simp
    intro a9 c9 w9 ho9 hb9
    have HO9 := Lib.hid ho9
    have HB9 := Lib.hid (HB1.out.trans (((alloc_same _ _).trans hb9).mono HB1.out.size))
    have hs9 := HB1.out.size
    clear ho9 hb9
    go_wp2_with fail
    go_ret2
    refine ⟨_, _, _, rfl, ?_, HB9.out⟩
    simpa using HO9.out.lower hs9
  have hareV := areV_yes h0
  rw [hareV] at HA
  have HA := Lib.hid HA
  by_cases hm : v ∈ l
  · have HH := fun (W : World) (q : Nums .i64 W a n l) => l9Has_any (c := c) v q
    rw [decide_eq_true hm] at HH
    have HH := Lib.hid HH
    by_cases h1 : n = 1
    · obtain ⟨e1, e2⟩ := dropV_no (l := l) (v := v) (fun q => q.2.2 (by omega))
      rw [e1, e2]
      subst h1
      clear h h0 e1 e2 hm hareV hlen
      have HI0 := Lib.hid (Below.refl w.heap.size w)
      go_enter Tryz.func112, Tryz.ntmps112
      go_wp2_with fail
      refine (HA.out _ (H.out.same HI0.out)).mono ?_
      rintro e w1 ⟨rfl, hb1⟩
      have HB1 := Lib.hid (HI0.out.trans (hb1.mono HI0.out.size))
      clear hb1
      go_wp2_with fail
      refine (HH.out _ (H.out.same HB1.out)).mono ?_
      rintro e w' ⟨rfl, rfl⟩
      go_wp2_with (at_builtin; refine wpl_app _ rfl (.tmp 20) (.tmp 21) 24 rfl .i64 3 i0 (.int .i64 0) 8 Tryz.underlying24 HI.out.1 HI.out.2.1 HI.out.2.2.1 HI.out.2.2.2 rfl rfl (Own.empty (Nat.le_refl _)) rfl (H.out.same (HB1.out.trans ((alloc_same _ _).mono HB1.out.size))) (by omega) ?c1 ?c2 ?_)
      case c1 => omega
      case c2 => simp
      intro a9 c9 w9 ho9 hb9
      have HO9 := Lib.hid ho9
      have HB9 := Lib.hid (HB1.out.trans (((alloc_same _ _).trans hb9).mono HB1.out.size))
      have hs9 := HB1.out.size
      clear ho9 hb9
      go_wp2_with fail
      go_ret2
      refine ⟨_, _, _, rfl, ?_, HB9.out⟩
      simpa using HO9.out.lower hs9
    · obtain ⟨e1, e2⟩ := dropV_yes h0 hm (by omega)
      rw [e1, e2, ← dropV_without h0 hm]
      have z1 : ((n : Int) == 1) = false := beq_false_of_ne (by omega)
      have z2 : (n == 1) = false := beq_false_of_ne h1
      clear h h0 e1 e2 hm hareV
      have HI0 := Lib.hid (Below.refl w.heap.size w)
      go_enter Tryz.func112, Tryz.ntmps112
      go_wp2_with fail
      refine (HA.out _ (H.out.same HI0.out)).mono ?_
      rintro e w1 ⟨rfl, hb1⟩
      have HB1 := Lib.hid (HI0.out.trans (hb1.mono HI0.out.size))
      clear hb1
      go_wp2_with fail
      refine (HH.out _ (H.out.same HB1.out)).mono ?_
      rintro e w' ⟨rfl, rfl⟩
      go_wp2_with fail
      refine (without_any (c := c) v (H.out.same HB1.out) (by omega)).mono ?_
      rintro e w2 ⟨a9, n9, c9, rfl, ho9, hb9⟩
      have hs9 := HB1.out.size
      have HO9 := Lib.hid ho9
      have HB9 := Lib.hid (HB1.out.trans (hb9.mono hs9))
      clear ho9 hb9
      go_wp2_with fail
      go_ret2
      exact ⟨_, _, _, rfl, HO9.out.lower hs9, HB9.out⟩
  · obtain ⟨e1, e2⟩ := dropV_no (l := l) (v := v) (fun q => hm q.2.1)
    rw [e1, e2]
    have HH := fun (W : World) (q : Nums .i64 W a n l) => l9Has_any (c := c) v q
    rw [decide_eq_false hm] at HH
    have HH := Lib.hid HH
    clear h h0 e1 e2 hm hareV
    have HI0 := Lib.hid (Below.refl w.heap.size w)
    go_enter Tryz.func112, Tryz.ntmps112
    go_wp2_with fail
    refine (HA.out _ (H.out.same HI0.out)).mono ?_
    rintro e w1 ⟨rfl, hb1⟩
    have HB1 := Lib.hid (HI0.out.trans (hb1.mono HI0.out.size))
    clear hb1
    go_wp2_with fail
    refine (HH.out _ (H.out.same HB1.out)).mono ?_
    rintro e w' ⟨rfl, rfl⟩
    go_wp2_with (at_builtin; refine wpl_app _ rfl (.tmp 20) (.tmp 21) 24 rfl .i64 3 i0 (.int .i64 0) 8 Tryz.underlying24 HI.out.1 HI.out.2.1 HI.out.2.2.1 HI.out.2.2.2 rfl rfl (Own.empty (Nat.le_refl _)) rfl (H.out.same (HB1.out.trans ((alloc_same _ _).mono HB1.out.size))) (by omega) ?c1 ?c2 ?_)
    case c1 => omega
    case c2 => simp
    intro a9 c9 w9 ho9 hb9
    have HO9 := Lib.hid ho9
    have HB9 := Lib.hid (HB1.out.trans (((alloc_same _ _).trans hb9).mono HB1.out.size))
    have hs9 := HB1.out.size
    clear ho9 hb9
    go_wp2_with fail
    go_ret2
    refine ⟨_, _, _, rfl, ?_, HB9.out⟩
    simpa using HO9.out.lower hs9
theorem spnTo_yes {l : List Int} {j : Nat} (h : j = 0 ∨ l.getD (j - 1) 0 + 1 ≠ l.getD j 0) : spnTo l (j + 1) = spnTo l j + 1 := by rw [spnTo, if_pos h]
theorem spnTo_no {l : List Int} {j : Nat} (h : ¬ (j = 0 ∨ l.getD (j - 1) 0 + 1 ≠ l.getD j 0)) : spnTo l (j + 1) = spnTo l j := by rw [spnTo, if_neg h]; rfl
theorem getD_of {l : List Int} {j : Nat} {x : Int} (h : l[j]? = some x) : l.getD j 0 = x := by rw [List.getD, h]; rfl
end Go.Proofs.YtcmjadfpifpknaaGreat
namespace Go.Proofs.YtcmjadfpifpknaaGreat
open Go.ChangeShapes Go.WideShapes Go.ChangeAt Go.RowKit
set_option linter.unusedVariables false
set_option linter.unusedSimpArgs false

set_option maxHeartbeats 4000000 in
set_option maxRecDepth 100000 in
theorem specKnownOf_some {a b : Option Addr} {n c m d : Nat} {l : List Vl} {ts : List Int} {w : World} (h : Vals w a n l) (h' : Nums .i64 w b m ts) (hn : n ≤ 1048576) (hit : itemsOf l ≤ 1048576) :
    Calls Tryz.prog 116 #[.slice a n c, .slice b m d] w (fun e w' => ∃ g m d, e = .returned (.slice (some ⟨g, 0, none⟩) m d) ∧ OwnV 125 3 w' w.heap.size (some ⟨g, 0, none⟩) m d (knownOf l ts) ∧ Below w.heap.size w w') := by
  have H := Lib.hid h
  have HT := Lib.hid h'
  have hln := Lib.hid h.len
  obtain ⟨i0, hi, hz0, hz1, hz2⟩ := info_parts infoExtS
  have HI := Lib.hid (And.intro hi (And.intro hz0 (And.intro hz1 hz2)))
  obtain ⟨i1, ki, kz0, kz1, kz2⟩ := info_parts infoIntS
  have HJ := Lib.hid (And.intro ki (And.intro kz0 (And.intro kz1 kz2)))
  clear h h' hi hz0 hz1 hz2 ki kz0 kz1 kz2
  have HO : Hid (OwnV 125 3 (w.alloc (.cells #[] 125)) w.heap.size (some ⟨w.heap.size, 0, none⟩) 0 0 (knownOf (l.take 0) ts)) := Lib.hid (OwnV.empty (Nat.le_refl _))
  go_enter Tryz.func116, Tryz.ntmps116
  go_wp2_with fail
  go_loopw [5, 6] (fun v i wr => ∃ (j q r e : Nat), j ≤ n ∧ i = .int .i64 j ∧ v = .slice (some ⟨q, 0, none⟩) r e ∧ OwnV 125 3 wr w.heap.size (some ⟨q, 0, none⟩) r e (knownOf (l.take j) ts) ∧ Below w.heap.size w wr) (fun _ i _ => n - (intOf i).toNat)
  case atStart => exact ⟨0, _, _, _, Nat.zero_le _, rfl, rfl, HO.out, alloc_same _ _⟩
  case round =>
    obtain ⟨j, q, r, e, hj, rfl, rfl, hown, hb⟩ := hrel
    have HO2 := Lib.hid hown
    have HB2 := Lib.hid hb
    clear hown hb
    by_cases hlt : j < n
    · obtain ⟨bb, o, p, pm, pd, k, y, rfl, hx, hd0, hd1, hN, hr⟩ := H.out.at_ hlt
      have hsz := HB2.out.size
      have hym := hN.len
      have hyi := itemsOf_mem hx
      dsimp only at hyi
      have hrl : r ≤ 1048576 := by
        have h1 := HO2.out.len
        have h2 := known_few (l.take j) ts
        rw [List.length_take] at h2
        omega
      have hpm : pm ≤ 1048576 := by omega
      have HSK : Hid (∀ w9, Below w.heap.size w w9 → w9.cell? ⟨bb, o + j * 2, none⟩ = some (.int .i64 k) ∧ w9.cell? ⟨bb, o + j * 2 + 1, none⟩ = some (.slice p pm pd)) := Lib.hid (fun w9 h9 => ⟨cell_stay hd0 h9, cell_stay hd1 h9⟩)
      obtain ⟨hc0, hc1⟩ := HSK.out wr HB2.out
      have HN := Lib.hid (fun w9 (h9 : Below w.heap.size w w9) => hN.same h9)
      have KH := Lib.hid (l9Has_any (c := d) k (HT.out.same HB2.out))
      by_cases hk : k ∈ ts
      · have HK : Hid (knownOf (l.take (j + 1)) ts = knownOf (l.take j) ts ++ [⟨k, y⟩]) := Lib.hid (known_yes hx hk)
        rw [decide_eq_true hk] at KH
        clear hx hN hk hd0 hd1 hym hyi
        have HBd : Hid (Below w.heap.size w wr.drew) := Lib.hid HB2.out.drew
        have HQ : Hid (Below wr.heap.size wr (wr.alloc (.cells #[] 3)).drew) := Lib.hid (alloc_same _ _).drew
        have HBQ : Hid (Below w.heap.size w (wr.alloc (.cells #[] 3)).drew) := Lib.hid (HB2.out.trans (HQ.out.mono hsz))
        have HOQ : Hid (Own .i64 3 (wr.alloc (.cells #[] 3)).drew wr.heap.size (some ⟨wr.heap.size, 0, none⟩) 0 0 []) := Lib.hid ((Own.empty (Nat.le_refl _)).same (Below.refl _ _).drew)
        have hs2 : wr.heap.size ≤ (wr.alloc (.cells #[] 3)).drew.heap.size := HQ.out.size
        go_wp2_with (go_at_call 98; refine KH.out.mono ?_; rintro e9 w9 ⟨rfl, rfl⟩)
        go_region_held3 (fun w9 => w9.cell? ⟨bb, o + j * 2, none⟩ = some (.int .i64 k) ∧ w9.cell? ⟨bb, o + j * 2 + 1, none⟩ = some (.slice p pm pd)) (first | exact HSK.out _ HBd.out | exact HSK.out _ HBQ.out | exact HSK.out _ HB3.out | exact HSK.out _ HB4.out | exact HSK.out _ HB5.out) ((first | (refine step_app_g _ (by rfl) (.tmp 27) (.tmp 32) 24 (by rfl) .i64 3 i1 (.int .i64 0) 8 Tryz.underlying24 HJ.out.1 HJ.out.2.1 HJ.out.2.2.1 HJ.out.2.2.2 rfl (by rfl) HOQ.out (by rfl) (HN.out _ HBQ.out) (by omega) (by omega) hs2 ?_; intro a3 c3 w3 ho3 hg3 hl3; have HO3 := Lib.hid ho3; have HQ3 : Hid (Below wr.heap.size wr w3) := Lib.hid (grown_to hg3 HQ.out HOQ.out.span (Nat.le_refl _) hs2); have HB3 : Hid (Below w.heap.size w w3) := Lib.hid (HB2.out.trans (HQ3.out.mono hsz)); have hs3 := HQ3.out.size; have HB4 : Hid (Below w.heap.size w (w3.alloc (.cells #[.int .i64 k, .slice a3 pm c3] 125))) := Lib.hid (HB3.out.alloc HB3.out.size _); have HNN : Hid (Items Vh.enc 2 (w3.alloc (.cells #[.int .i64 k, .slice a3 pm c3] 125)) (some ⟨w3.heap.size, 0, none⟩) 1 [⟨k, a3, pm, c3⟩]) := Lib.hid (items_new Vh.enc_len w3 ⟨k, a3, pm, c3⟩ 125); have HO4 : Hid (Own .i64 3 (w3.alloc (.cells #[.int .i64 k, .slice a3 pm c3] 125)) w.heap.size a3 pm c3 y) := Lib.hid (by have h9 := (ho3.lower hsz).alloc (.cells #[.int .i64 k, .slice a3 pm c3] 125); rw [Nat.zero_add] at h9; exact h9); clear ho3 hg3 hl3) | (refine step_appV (S := wr.heap.size) (B := w.heap.size) _ (by rfl) (.tmp 21) (.tmp 35) 25 (by rfl) 125 3 i0 (.agg #[.int .i64 0, .slice none 0 0]) 32 Tryz.underlying25 HI.out.1 HI.out.2.1 HI.out.2.2.1 HI.out.2.2.2 rfl (by rfl) ((HO2.out.lim.same HQ3.out).same (alloc_same _ _)) (by rfl) HNN.out HO4.out (fun ad e => (HO3.out.span ad e).1) (by omega) (by omega) (by simp; omega) ?_; intro a5 c5 w5 ho5 hb5; obtain ⟨g5, rfl, _, _⟩ := ho5.head (by omega); have HO5 := Lib.hid ho5; have HB5 : Hid (Below w.heap.size w w5) := Lib.hid (HB4.out.trans hb5); clear ho5 hb5)))
        go_wp2_with fail
        go_roundw
        case rel => exact ⟨j + 1, g5, _, c5, by omega, by go_num, rfl, by rw [HK.out]; exact HO5.out, HB5.out⟩
        case measure => simp [intOf]; omega
      · have HK : Hid (knownOf (l.take (j + 1)) ts = knownOf (l.take j) ts) := Lib.hid (known_no hx hk)
        rw [decide_eq_false hk] at KH
        clear hx hN hk hd0 hd1 hym hyi
        go_wp2_with (go_at_call 98; refine KH.out.mono ?_; rintro e9 w9 ⟨rfl, rfl⟩)
        go_roundw
        case rel => exact ⟨j + 1, q, r, e, by omega, by go_num, rfl, by rw [HK.out]; exact HO2.out, HB2.out⟩
        case measure => simp [intOf]; omega
    · obtain rfl : j = n := by omega
      go_wp2
      go_ret
      have h1 := HO2.out
      rw [List.take_of_length_le (by rw [hln.out]; omega)] at h1
      exact ⟨_, _, _, rfl, h1, HB2.out⟩
set_option maxRecDepth 100000 in
theorem specCopy_any {a : Option Addr} {n c : Nat} {l : List Vl} {w : World} (h : Vals w a n l) (hn : n ≤ 1048576) (hit : itemsOf l ≤ 1048576) :
    Calls Tryz.prog 111 #[.slice a n c] w (fun e w' => ∃ g d, e = .returned (.slice (some ⟨g, 0, none⟩) n d) ∧ OwnV 125 3 w' w.heap.size (some ⟨g, 0, none⟩) n d l ∧ Below w.heap.size w w') := by
  have HT := Lib.hid (specTagsOf_any (c := c) h (by omega))
  have H := Lib.hid h
  have hln := h.len
  unfold Made at HT
  clear h
  go_enter Tryz.func111, Tryz.ntmps111
  go_wp2_with fail
  refine HT.out.mono ?_
  rintro e w1 ⟨q, m, d, rfl, ho, hb1⟩
  have HB1 := Lib.hid hb1
  have hs1 := hb1.size
  have HK := Lib.hid (specKnownOf_some (c := c) (d := d) (H.out.same hb1) ho.nums hn hit)
  rw [known_all] at HK
  clear ho hb1 HT
  go_wp2_with fail
  refine HK.out.mono ?_
  rintro e w2 ⟨g, m2, d2, rfl, ho2, hb2⟩
  obtain rfl : m2 = n := by rw [← ho2.len, hln]
  have HR := Lib.hid (And.intro (ho2.lower hs1) (HB1.out.trans (hb2.mono hs1)))
  clear ho2 hb2 HK
  go_wp2_with fail
  go_ret
  exact ⟨_, _, rfl, HR.out.1, HR.out.2⟩
end Go.Proofs.YtcmjadfpifpknaaGreat
