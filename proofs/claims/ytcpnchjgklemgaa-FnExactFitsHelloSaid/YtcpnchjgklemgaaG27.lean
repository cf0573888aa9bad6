/- The versions of a word as a list, by the program; a version added and one taken away. A version added to a list and one taken away, by the program. What two lists of numbers have in common, a list without a number, the greatest common version, a version added and taken away, the runs: by the model. The greatest common version, a version added and taken away, the runs of a list: by the model. -/
import Derived.Test.YtcpnchjgklemgaaG23
import Derived.Test.YtcpnchjgklemgaaG14
import Derived.Test.YtcpnchjgklemgaaG19
import Derived.Test.YtcpnchjgklemgaaG3
namespace Go.Proofs.Ytcpnchjgklemgaa
open Go.ChangeShapes Go.WideShapes Go.ChangeAt Go.RowKit
set_option linter.unusedVariables false
set_option linter.unusedSimpArgs false

theorem lwTo_len (k j : Nat) : (lwTo k j).length ≤ 9 := by
  unfold lwTo
  refine Nat.le_trans (List.length_filter_le _ _) ?_
  rw [List.length_take]
  exact Nat.min_le_right _ _
theorem lwTo_yes {k j : Nat} (hk : k < 512) (hj : j < 9) (h : decide (((j + 1 : Nat) : Int) ∈ lw k) = true) : lwTo k (j + 1) = lwTo k j ++ [((j + 1 : Nat) : Int)] := by
  have e : lwTo k (j + 1) = _ := t_step ⟨k, hk⟩ ⟨j, hj⟩
  have hm := (lw_mem.1 (of_decide_eq_true h)).2
  rw [show (((j + 1 : Nat) : Int)).toNat - 1 = j by omega] at hm
  rw [e]
  dsimp only
  rw [if_pos hm]
  rfl
theorem lwTo_no {k j : Nat} (hk : k < 512) (hj : j < 9) (h : decide (((j + 1 : Nat) : Int) ∈ lw k) = false) : lwTo k (j + 1) = lwTo k j := by
  have e : lwTo k (j + 1) = _ := t_step ⟨k, hk⟩ ⟨j, hj⟩
  have hm : ¬ k.testBit j = true := fun q => of_decide_eq_false h (lw_mem.2 ⟨by omega, by rw [show (((j + 1 : Nat) : Int)).toNat - 1 = j by omega]; exact q⟩)
  rw [e]
  dsimp only
  rw [if_neg hm]
end Go.Proofs.Ytcpnchjgklemgaa
namespace Go.Proofs.Ytcpnchjgklemgaa
open Go.ChangeShapes Go.WideShapes Go.ChangeAt Go.RowKit
set_option linter.unusedVariables false
set_option linter.unusedSimpArgs false

theorem addV_few (l : List Int) (v : Int) : (addV l v).length ≤ l.length + 9 := by
  unfold addV
  split
  · exact Nat.le_trans (lw_len _) (by omega)
  · omega
theorem dropV_few (l : List Int) (v : Int) : (dropV l v).length ≤ l.length + 9 := by
  unfold dropV
  split
  · exact Nat.le_trans (lw_len _) (by omega)
  · omega
/-- What a function leaves that makes a list of integers and says whether it is another one. -/
def MadeB (t : TypeId) (B : Nat) (l : List Int) (ok : Bool) (w : World) (e : Ending) (w' : World) : Prop :=
  ∃ a n c, e = .returned (.tuple #[.slice a n c, .bool ok]) ∧ Own .i64 t w' B a n c l ∧ Below B w w'
end Go.Proofs.Ytcpnchjgklemgaa
namespace Go.Proofs.Ytcpnchjgklemgaa
open Go.ChangeShapes Go.WideShapes Go.ChangeAt Go.RowKit
set_option linter.unusedVariables false
set_option linter.unusedSimpArgs false

set_option maxHeartbeats 4000000 in
set_option maxRecDepth 100000 in
theorem specCommonOf_any {a b : Option Addr} {n m c d : Nat} {l l' : List Int} {w : World} (h : Nums .i64 w a n l) (h' : Nums .i64 w b m l') (hn : n ≤ 1048576000) :
    Calls Try.prog 120 #[.slice a n c, .slice b m d] w (Made .i64 3 w.heap.size (common l l') w) := by
  have H := Lib.hid h
  have H' := Lib.hid h'
  have hl := Lib.hid h.len
  obtain ⟨i0, hi, hz0, hz1, hz2⟩ := info_parts infoIntS
  have HI := Lib.hid (And.intro hi (And.intro hz0 (And.intro hz1 hz2)))
  clear hi hz0 hz1 hz2
  unfold Made
  have KO := Lib.hid (Own.empty (k := .i64) (t := 3) (w := w) (B := w.heap.size) (Nat.le_refl _))
  clear h h'
  go_enter Try.func120, Try.ntmps120
  go_wp2_with fail
  go_loopw [5, 6] (fun s i wr => ∃ (a' : Option Addr) (c' n' j : Nat), s = .slice a' n' c' ∧ i = .int .i64 (j : Int) ∧ j ≤ n ∧ Own .i64 3 wr w.heap.size a' n' c' (common (l.take j) l') ∧ Below w.heap.size w wr) (fun _ i _ => n - (intOf i).toNat)
  case atStart => exact ⟨_, _, _, 0, rfl, rfl, Nat.zero_le _, by rw [List.take_zero]; exact KO.out, alloc_same _ _⟩
  case round =>
    obtain ⟨a', c', n', j, rfl, rfl, hj, ho, hb⟩ := hrel
    have HO := Lib.hid ho
    have HB := Lib.hid hb
    have hn9 : n' ≤ 1048576000 := by
      have h1 := ho.len
      have h2 := common_few (l.take j) l'
      rw [List.length_take] at h2
      omega
    have hsw : w.heap.size ≤ wr.heap.size := hb.size
    clear ho hb
    by_cases hlt : j < n
    · obtain ⟨ad, z, rfl, hx, hc⟩ := (H.out.same HB.out).at_ hlt
      have HV := Lib.hid (l9Has_any (c := d) z (H'.out.same HB.out))
      cases hq : decide (z ∈ l') with
      | true =>
        have HY := Lib.hid (common_yes hx (of_decide_eq_true hq))
        rw [hq] at HV
        clear hq hx
        go_wp2_with fail
        refine HV.out.mono ?_
        rintro e w2 ⟨rfl, rfl⟩
        go_wp2_with (at_builtin; refine wpl_app _ rfl (.tmp 20) (.tmp 25) 24 rfl .i64 3 i0 (.int .i64 0) 8 Try.underlying24 HI.out.1 HI.out.2.1 HI.out.2.2.1 HI.out.2.2.2 rfl rfl (HO.out.alloc _) rfl (nums_new _ _ _ _) (by omega) ?c6 ?c7 ?_)
        case c6 => omega
        case c7 => simp; omega
        intro a3 c3 w3 ho3 hb3
        have HO3 := Lib.hid ho3
        have HB3 := Lib.hid hb3
        clear ho3 hb3
        go_wp2
        go_roundw
        case rel => exact ⟨a3, c3, _, j + 1, rfl, by go_num, by omega, by rw [HY.out]; exact HO3.out, HB.out.trans (((alloc_same _ _).mono hsw).trans HB3.out)⟩
        case measure => simp [intOf]; omega
      | false =>
        have HY := Lib.hid (common_no hx (of_decide_eq_false hq))
        rw [hq] at HV
        clear hq hx
        go_wp2_with fail
        refine HV.out.mono ?_
        rintro e w2 ⟨rfl, rfl⟩
        go_wp2
        go_roundw
        case rel => exact ⟨a', c', n', j + 1, rfl, by go_num, by omega, by rw [HY.out]; exact HO.out, HB.out⟩
        case measure => simp [intOf]; omega
    · obtain rfl : j = n := by omega
      have HY : Hid (common (l.take j) l' = common l l') := Lib.hid (by rw [← hl.out, List.take_length])
      go_wp2
      go_ret
      exact ⟨_, _, _, rfl, by rw [← HY.out]; exact HO.out, HB.out⟩
end Go.Proofs.Ytcpnchjgklemgaa
namespace Go.Proofs.Ytcpnchjgklemgaa
open Go.ChangeShapes Go.WideShapes Go.ChangeAt Go.RowKit
set_option linter.unusedVariables false
set_option linter.unusedSimpArgs false

theorem last_get {l : List Int} {k : Nat} (h : l.length = k + 1) : l[k]? = some (l.getLastD 0) := by
  rw [List.getLastD_eq_getLast?, List.getLast?_eq_getElem?, h]
  simp only [Nat.add_sub_cancel]
  rw [List.getElem?_eq_getElem (by omega)]
  rfl
set_option maxHeartbeats 4000000 in
set_option maxRecDepth 100000 in
theorem specBestCommon_any {a b : Option Addr} {n m c d : Nat} {l l' : List Int} {w : World} (h : Nums .i64 w a n l) (h' : Nums .i64 w b m l') (hn : n ≤ 1048576000) :
    Calls Try.prog 87 #[.slice a n c, .slice b m d] w (Told (.int .i64 (best l l' : Int)) w) := by
  have H := Lib.hid h
  have H' := Lib.hid h'
  have HC := Lib.hid (specCommonOf_any (c := c) (d := d) h h' hn)
  clear h h'
  unfold Made at HC
  by_cases ha : word l = 0
  · have HE : Hid (best l l' = 0) := best_off (.inl ha)
    have HA := fun (W : World) (q : Nums .i64 W a n l) => specAreVersions_any (c := c) q
    rw [areV_no ha] at HA
    clear ha
    have HA := Lib.hid HA
    go_enter Try.func87, Try.ntmps87
    go_wp2_with fail
    refine HC.out.mono ?_
    rintro e w1 ⟨q, k, r, rfl, ho, hb1⟩
    have HB1 := Lib.hid hb1
    clear ho hb1 HC
    go_wp2_with fail
    refine (HA.out _ (H.out.same HB1.out)).mono ?_
    rintro e w2 ⟨rfl, hb2⟩
    have HB2 := Lib.hid (HB1.out.trans (hb2.mono HB1.out.size))
    clear hb2
    go_wp2_with fail
    go_ret
    exact ⟨by rw [HE.out]; rfl, HB2.out⟩
  by_cases hb : word l' = 0
  · have HE : Hid (best l l' = 0) := best_off (.inr hb)
    have HA := fun (W : World) (q : Nums .i64 W a n l) => specAreVersions_any (c := c) q
    rw [areV_yes ha] at HA
    have HA' := fun (W : World) (q : Nums .i64 W b m l') => specAreVersions_any (c := d) q
    rw [areV_no hb] at HA'
    clear ha hb
    have HA := Lib.hid HA
    have HA' := Lib.hid HA'
    go_enter Try.func87, Try.ntmps87
    go_wp2_with fail
    refine HC.out.mono ?_
    rintro e w1 ⟨q, k, r, rfl, ho, hb1⟩
    have HB1 := Lib.hid hb1
    clear ho hb1 HC
    go_wp2_with fail
    refine (HA.out _ (H.out.same HB1.out)).mono ?_
    rintro e w2 ⟨rfl, hb2⟩
    have HB2 := Lib.hid (HB1.out.trans (hb2.mono HB1.out.size))
    clear hb2
    go_wp2_with fail
    refine (HA'.out _ (H'.out.same HB2.out)).mono ?_
    rintro e w3 ⟨rfl, hb3⟩
    have HB3 := Lib.hid (HB2.out.trans (hb3.mono HB2.out.size))
    clear hb3
    go_wp2_with fail
    go_ret
    exact ⟨by rw [HE.out]; rfl, HB3.out⟩
  have HA := fun (W : World) (q : Nums .i64 W a n l) => specAreVersions_any (c := c) q
  rw [areV_yes ha] at HA
  have HA' := fun (W : World) (q : Nums .i64 W b m l') => specAreVersions_any (c := d) q
  rw [areV_yes hb] at HA'
  have hlast := best_last ha hb
  have hnone := best_none ha hb
  clear ha hb
  have HA := Lib.hid HA
  have HA' := Lib.hid HA'
  by_cases hc : common l l' = []
  · have HE : Hid (best l l' = 0) := hnone.1 hc
    rw [hc] at HC
    clear hc hlast hnone
    go_enter Try.func87, Try.ntmps87
    go_wp2_with fail
    refine HC.out.mono ?_
    rintro e w1 ⟨q, k, r, rfl, ho, hb1⟩
    obtain rfl : 0 = k := ho.len
    have HB1 := Lib.hid hb1
    clear ho hb1 HC
    go_wp2_with fail
    refine (HA.out _ (H.out.same HB1.out)).mono ?_
    rintro e w2 ⟨rfl, hb2⟩
    have HB2 := Lib.hid (HB1.out.trans (hb2.mono HB1.out.size))
    clear hb2
    go_wp2_with fail
    refine (HA'.out _ (H'.out.same HB2.out)).mono ?_
    rintro e w3 ⟨rfl, hb3⟩
    have HB3 := Lib.hid (HB2.out.trans (hb3.mono HB2.out.size))
    clear hb3
    go_wp2_with fail
    go_ret
    exact ⟨by rw [HE.out]; rfl, HB3.out⟩
  · obtain ⟨k, hk⟩ : ∃ k, (common l l').length = k + 1 := ⟨(common l l').length - 1, by
      have : (common l l').length ≠ 0 := fun q => hc (List.eq_nil_of_length_eq_zero q)
      omega⟩
    have hg := last_get hk
    rw [hlast] at hg
    have HG := Lib.hid hg
    have HK := Lib.hid hk
    clear hc hlast hnone hg hk
    go_enter Try.func87, Try.ntmps87
    go_wp2_with fail
    refine HC.out.mono ?_
    rintro e w1 ⟨q, k1, r, rfl, ho, hb1⟩
    obtain rfl : k + 1 = k1 := by rw [← HK.out]; exact ho.len
    have HB1 := Lib.hid hb1
    have HO := Lib.hid ho
    clear ho hb1 HC
    go_wp2_with fail
    refine (HA.out _ (H.out.same HB1.out)).mono ?_
    rintro e w2 ⟨rfl, hb2⟩
    have HB2 := Lib.hid (HB1.out.trans (hb2.mono HB1.out.size))
    have HO2 := Lib.hid (HO.out.same hb2)
    clear hb2
    go_wp2_with fail
    refine (HA'.out _ (H'.out.same HB2.out)).mono ?_
    rintro e w3 ⟨rfl, hb3⟩
    have HB3 := Lib.hid (HB2.out.trans (hb3.mono HB2.out.size))
    obtain ⟨g, eg, _, _⟩ := HO.out.head (by omega)
    subst eg
    have ho3 := HO2.out.same hb3
    obtain ⟨ad, x, e3, hx, hcell⟩ := ho3.nums.at_ (show k < k + 1 by omega)
    cases e3
    rw [HG.out] at hx
    cases hx
    have hfit := ho3.room
    have hcell2 : w3.cell? ⟨g, k, none⟩ = some (.int .i64 (best l l' : Int)) := by
      have := hcell
      unfold Addr.add at this
      by_cases q : k = 0
      · subst q; simpa using this
      · simpa [q] using this
    have z1 : ((k + 1 : Nat) : Int) - 1 = (k : Int) := by omega
    have z2 : (((k + 1 : Nat) : Int) == 0) = false := beq_false_of_ne (by omega)
    have z3 : ((k : Int) + 1 == 0) = false := beq_false_of_ne (by omega)
    have z4 : (k + 1 == 0) = false := rfl
    clear hb3 hcell ho3
    go_wp2_with fail
    go_ret
    exact ⟨rfl, HB3.out⟩
end Go.Proofs.Ytcpnchjgklemgaa
