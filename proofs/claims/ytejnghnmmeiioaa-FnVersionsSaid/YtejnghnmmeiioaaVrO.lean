/- The greatest common version, a version added and taken away, the runs of a list: by the model. -/
import Derived.Test.YtejnghnmmeiioaaVrN
namespace Go.Proofs.Ytejnghnmmeiioaa
open Go.ChangeShapes Go.WideShapes Go.ChangeAt Go.RowKit
set_option linter.unusedVariables false
set_option linter.unusedSimpArgs false

theorem last_get {l : List Int} {k : Nat} (h : l.length = k + 1) : l[k]? = some (l.getLastD 0) := by
  rw [List.getLastD_eq_getLast?, List.getLast?_eq_getElem?, h]
  simp only [Nat.add_sub_cancel]
  rw [List.getElem?_eq_getElem (by omega)]
  rfl
set_option maxHeartbeats 4000000 in
set_option maxRecDepth 100000 in
theorem specBestCommon_any {a b : Option Addr} {n m c d : Nat} {l l' : List Int} {w : World} (h : Nums .i64 w a n l) (h' : Nums .i64 w b m l') (hn : n ≤ 1048576000) :
    Calls Try.prog 24 #[.slice a n c, .slice b m d] w (Told (.int .i64 (best l l' : Int)) w) := by
  have H := Lib.hid h
  have H' := Lib.hid h'
  have HC := Lib.hid (specCommonOf_any (c := c) (d := d) h h' hn)
  clear h h'
  unfold Made at HC
  by_cases ha : word l = 0
  · have HE : Hid (best l l' = 0) := best_off (.inl ha)
    have HA := fun (W : World) (q : Nums .i64 W a n l) => specAreVersions_any (c := c) q
    rw [areV_no ha] at HA
    clear ha
    have HA := Lib.hid HA
    go_enter Try.func24, Try.ntmps24
    go_wp2_with fail
    refine HC.out.mono ?_
    rintro e w1 ⟨q, k, r, rfl, ho, hb1⟩
    have HB1 := Lib.hid hb1
    clear ho hb1 HC
    go_wp2_with fail
    refine (HA.out _ (H.out.same HB1.out)).mono ?_
    rintro e w2 ⟨rfl, hb2⟩
    have HB2 := Lib.hid (HB1.out.trans (hb2.mono HB1.out.size))
    clear hb2
    go_wp2_with fail
    go_ret
    exact ⟨by rw [HE.out]; rfl, HB2.out⟩
  by_cases hb : word l' = 0
  · have HE : Hid (best l l' = 0) := best_off (.inr hb)
    have HA := fun (W : World) (q : Nums .i64 W a n l) => specAreVersions_any (c := c) q
    rw [areV_yes ha] at HA
    have HA' := fun (W : World) (q : Nums .i64 W b m l') => specAreVersions_any (c := d) q
    rw [areV_no hb] at HA'
    clear ha hb
    have HA := Lib.hid HA
    have HA' := Lib.hid HA'
    go_enter Try.func24, Try.ntmps24
    go_wp2_with fail
    refine HC.out.mono ?_
    rintro e w1 ⟨q, k, r, rfl, ho, hb1⟩
    have HB1 := Lib.hid hb1
    clear ho hb1 HC
    go_wp2_with fail
    refine (HA.out _ (H.out.same HB1.out)).mono ?_
    rintro e w2 ⟨rfl, hb2⟩
    have HB2 := Lib.hid (HB1.out.trans (hb2.mono HB1.out.size))
    clear hb2
    go_wp2_with fail
    refine (HA'.out _ (H'.out.same HB2.out)).mono ?_
    rintro e w3 ⟨rfl, hb3⟩
    have HB3 := Lib.hid (HB2.out.trans (hb3.mono HB2.out.size))
    clear hb3
    go_wp2_with fail
    go_ret
    exact ⟨by rw [HE.out]; rfl, HB3.out⟩
  have HA := fun (W : World) (q : Nums .i64 W a n l) => specAreVersions_any (c := c) q
  rw [areV_yes ha] at HA
  have HA' := fun (W : World) (q : Nums .i64 W b m l') => specAreVersions_any (c := d) q
  rw [areV_yes hb] at HA'
  have hlast := best_last ha hb
  have hnone := best_none ha hb
  clear ha hb
  have HA := Lib.hid HA
  have HA' := Lib.hid HA'
  by_cases hc : common l l' = []
  · have HE : Hid (best l l' = 0) := hnone.1 hc
    rw [hc] at HC
    clear hc hlast hnone
    go_enter Try.func24, Try.ntmps24
    go_wp2_with fail
    refine HC.out.mono ?_
    rintro e w1 ⟨q, k, r, rfl, ho, hb1⟩
    obtain rfl : 0 = k := ho.len
    have HB1 := Lib.hid hb1
    clear ho hb1 HC
    go_wp2_with fail
    refine (HA.out _ (H.out.same HB1.out)).mono ?_
    rintro e w2 ⟨rfl, hb2⟩
    have HB2 := Lib.hid (HB1.out.trans (hb2.mono HB1.out.size))
    clear hb2
    go_wp2_with fail
    refine (HA'.out _ (H'.out.same HB2.out)).mono ?_
    rintro e w3 ⟨rfl, hb3⟩
    have HB3 := Lib.hid (HB2.out.trans (hb3.mono HB2.out.size))
    clear hb3
    go_wp2_with fail
    go_ret
    exact ⟨by rw [HE.out]; rfl, HB3.out⟩
  · obtain ⟨k, hk⟩ : ∃ k, (common l l').length = k + 1 := ⟨(common l l').length - 1, by
      have : (common l l').length ≠ 0 := fun q => hc (List.eq_nil_of_length_eq_zero q)
      omega⟩
    have hg := last_get hk
    rw [hlast] at hg
    have HG := Lib.hid hg
    have HK := Lib.hid hk
    clear hc hlast hnone hg hk
    go_enter Try.func24, Try.ntmps24
    go_wp2_with fail
    refine HC.out.mono ?_
    rintro e w1 ⟨q, k1, r, rfl, ho, hb1⟩
    obtain rfl : k + 1 = k1 := by rw [← HK.out]; exact ho.len
    have HB1 := Lib.hid hb1
    have HO := Lib.hid ho
    clear ho hb1 HC
    go_wp2_with fail
    refine (HA.out _ (H.out.same HB1.out)).mono ?_
    rintro e w2 ⟨rfl, hb2⟩
    have HB2 := Lib.hid (HB1.out.trans (hb2.mono HB1.out.size))
    have HO2 := Lib.hid (HO.out.same hb2)
    clear hb2
    go_wp2_with fail
    refine (HA'.out _ (H'.out.same HB2.out)).mono ?_
    rintro e w3 ⟨rfl, hb3⟩
    have HB3 := Lib.hid (HB2.out.trans (hb3.mono HB2.out.size))
    obtain ⟨g, eg, _, _⟩ := HO.out.head (by omega)
    subst eg
    have ho3 := HO2.out.same hb3
    obtain ⟨ad, x, e3, hx, hcell⟩ := ho3.nums.at_ (show k < k + 1 by omega)
    cases e3
    rw [HG.out] at hx
    cases hx
    have hfit := ho3.room
    have hcell2 : w3.cell? ⟨g, k, none⟩ = some (.int .i64 (best l l' : Int)) := by
      have := hcell
      unfold Addr.add at this
      by_cases q : k = 0
      · subst q; simpa using this
      · simpa [q] using this
    have z1 : ((k + 1 : Nat) : Int) - 1 = (k : Int) := by omega
    have z2 : (((k + 1 : Nat) : Int) == 0) = false := beq_false_of_ne (by omega)
    have z3 : ((k : Int) + 1 == 0) = false := beq_false_of_ne (by omega)
    have z4 : (k + 1 == 0) = false := rfl
    clear hb3 hcell ho3
    go_wp2_with fail
    go_ret
    exact ⟨rfl, HB3.out⟩
end Go.Proofs.Ytejnghnmmeiioaa
