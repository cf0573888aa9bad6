/- Whether a list of extensions is valid, and where a tag stands: by the program. -/
import Derived.Test.YtnjjfagokbbelaaTg
namespace Go.Proofs.Ytnjjfagokbbelaa
open Go.ChangeShapes Go.WideShapes Go.ChangeAt Go.RowKit
set_option linter.unusedVariables false

theorem okX_stop {l : List Vl} {j : Nat} {x : Vl} (hx : l[j]? = some x) (h : okX x = false) : areX l = false := by
  cases e : areX l with
  | false => rfl
  | true =>
    have := (areX_parts.1 e).2.1 x (List.mem_of_getElem? hx)
    rw [h] at this
    cases this
theorem areX_long {l : List Vl} (h : 6 < l.length) : areX l = false := by
  cases e : areX l with
  | false => rfl
  | true =>
    have := (areX_parts.1 e).1
    omega
theorem areX_all {l : List Vl} (h1 : l.length ≤ 6) (h2 : ∀ x ∈ l, okX x = true) : areX l = decide (tagsX l).Nodup := by
  by_cases h : (tagsX l).Nodup
  · rw [decide_eq_true h, areX_parts]; exact ⟨h1, h2, h⟩
  · rw [decide_eq_false h]
    cases e : areX l with
    | false => rfl
    | true => exact absurd (areX_parts.1 e).2.2 h
theorem tags_wf {l : List Vl} (h : ∀ x ∈ l, okX x = true) : ∀ z ∈ tagsX l, (Lit.int .i64 z).wf = true := by
  intro z hz
  obtain ⟨x, hx, rfl⟩ := List.mem_map.1 hz
  have := okX_tag (h x hx)
  exact WalkArith.wf_i64 (by omega)
theorem size_nodup (zs : List Int) : ((Maps.size (pl 0 zs) : Int) == (zs.length : Int)) = decide zs.Nodup := by
  have := pl_size 0 zs
  by_cases h : zs.Nodup
  · rw [decide_eq_true h, this.2 h]; simp
  · rw [decide_eq_false h]
    have h2 : ¬ Maps.size (pl 0 zs) = zs.length := fun e => h (this.1 e)
    simp
    omega
set_option maxHeartbeats 2000000 in
set_option maxRecDepth 100000 in
theorem areExts_any {a : Option Addr} {n c : Nat} {l : List Vl} {w : World} (h : Vals w a n l) :
    Calls Try.prog 14 #[.slice a n c] w (Told (.bool (areX l)) w) := by
  have H := Lib.hid h
  have hln := Lib.hid h.len
  have hfit := h.fits
  have hl := h.len
  clear h
  by_cases h6 : 6 < n
  · rw [areX_long (by omega)]
    clear hl
    go_enter Try.func14, Try.ntmps14
    go_wp2
    go_ret
    exact ⟨rfl, Below.refl _ _⟩
  · clear hl
    go_enter Try.func14, Try.ntmps14
    go_wp2_with fail
    go_loopw [10] (fun i wr => ∃ j : Nat, j ≤ n ∧ i = .int .i64 j ∧ (∀ x ∈ l.take j, okX x = true) ∧ Below w.heap.size w wr) (fun i _ => n - (intOf i).toNat)
    case atStart => exact ⟨0, Nat.zero_le _, rfl, by simp, Below.refl _ _⟩
    case round =>
      obtain ⟨j, hj, rfl, hok, hb⟩ := hrel
      have HB := Lib.hid hb
      have HK := Lib.hid hok
      clear hb hok
      by_cases hlt : j < n
      · obtain ⟨b, o, p, m, e, k, y, rfl, hx, hc0, hc1, hN, hr⟩ := (H.out.same HB.out).at_ hlt
        have HX := Lib.hid hx
        have HW : Hid (Below wr.heap.size wr (wr.alloc (.cells #[.int .i64 k, .slice p m e] 57))) := Lib.hid (alloc_same _ _)
        have KX := Lib.hid (isExt_any k p m e y _ (hN.same HW.out))
        clear hx hN
        cases hv : okX ⟨k, y⟩ with
        | true =>
          rw [hv] at KX
          have HV := Lib.hid hv
          clear hv
          go_wp2_with fail
          refine KX.out.mono ?_
          rintro e w3 ⟨rfl, hb3⟩
          have HB3 := Lib.hid ((HB.out.trans (HW.out.mono HB.out.size)).trans (hb3.mono (Nat.le_trans HB.out.size HW.out.size)))
          clear hb3 hc0 hc1 KX
          go_wp2_with fail
          go_roundw
          case rel =>
            refine ⟨j + 1, by omega, by go_num, fun x hx => ?_, HB3.out⟩
            rw [List.take_add_one, HX.out] at hx
            rcases List.mem_append.1 hx with q | q
            · exact HK.out x q
            · have : x = ⟨k, y⟩ := by simpa using q
              rw [this]; exact HV.out
          case measure => simp [intOf]; omega
        | false =>
          rw [hv] at KX
          rw [okX_stop HX.out hv]
          clear hv
          go_wp2_with fail
          refine KX.out.mono ?_
          rintro e w3 ⟨rfl, hb3⟩
          have HB3 := Lib.hid ((HB.out.trans (HW.out.mono HB.out.size)).trans (hb3.mono (Nat.le_trans HB.out.size HW.out.size)))
          clear hb3 hc0 hc1 KX
          go_wp2_with fail
          go_ret
          exact ⟨rfl, HB3.out⟩
      · obtain rfl : j = n := by omega
        have hall : ∀ x ∈ l, okX x = true := by
          have := HK.out
          rwa [List.take_of_length_le (by rw [hln.out]; omega)] at this
        have HE : Hid (areX l = ((Maps.size (pl 0 (tagsX l)) : Int) == (j : Int))) := Lib.hid (by rw [areX_all (by rw [hln.out]; omega) hall, ← size_nodup, tagsX_len, hln.out])
        have HT := Lib.hid (tagsOf_any (c := c) (H.out.same HB.out) (by omega))
        have HZ := Lib.hid (tags_wf hall)
        have HTL : Hid ((tagsX l).length = j) := Lib.hid (by rw [tagsX_len]; exact hln.out)
        clear hall
        unfold Made at HT
        go_wp2_with fail
        refine HT.out.mono ?_
        rintro e w3 ⟨q, qn, d, rfl, ho, hb3⟩
        have hq : qn = j := by rw [← ho.len]; exact HTL.out
        subst hq
        have HB3 := Lib.hid (HB.out.trans (hb3.mono HB.out.size))
        have HP := Lib.hid (placesOf_any q qn d (tagsX l) w3 ho.nums HZ.out (by omega))
        clear ho hb3 HT
        go_wp2_with fail
        refine HP.out.mono ?_
        rintro e w4 ⟨rfl, hown, hb4⟩
        have HB4 := Lib.hid (HB3.out.trans (hb4.mono HB3.out.size))
        clear hb4 HP
        go_wp2_with (at_len; refine wpList_len_own _ rfl _ 62 rfl 3 3 Try.underlying62 _ w3.heap.size qn (pl 0 (tagsX l)) rfl hown ?_)
        go_ret
        exact ⟨by rw [HE.out]; rfl, HB4.out⟩
set_option maxHeartbeats 2000000 in
set_option maxRecDepth 100000 in
theorem extOf_any {a : Option Addr} {n c : Nat} {l : List Vl} (t : Int) (ht : (Lit.int .i64 t).wf = true) {w : World} (h : Vals w a n l) (hz : ∀ z ∈ tagsX l, (Lit.int .i64 z).wf = true) (hn : n ≤ 1048576000) :
    Calls Try.prog 29 #[.slice a n c, .int .i64 t] w (Told (.int .i64 (extOf l t)) w) := by
  have hTL : (tagsX l).length = n := by rw [tagsX_len]; exact h.len
  have HT := Lib.hid (tagsOf_any (c := c) h hn)
  have HZ := Lib.hid hz
  have hkey := Maps.keyOf_int_mk Try.underlying3 ht
  have HTL := Lib.hid hTL
  clear h hz ht hTL
  unfold Made at HT
  by_cases hm : t ∈ tagsX l
  · rw [extOf_yes hm]
    have hhas : Maps.has (pl 0 (tagsX l)) (.int .i64 t) = true := by rw [pl_has]; exact decide_eq_true hm
    have hat := fun z => pl_at t z 0 (tagsX l) hm
    have HH := Lib.hid hhas
    have HA := Lib.hid hat
    clear hhas hat hm
    go_enter Try.func29, Try.ntmps29
    go_wp2_with fail
    refine HT.out.mono ?_
    rintro e w3 ⟨q, qn, d, rfl, ho, hb3⟩
    have hq : qn = n := by rw [← ho.len]; exact HTL.out
    subst hq
    have HB3 := Lib.hid hb3
    have HP := Lib.hid (placesOf_any q qn d (tagsX l) w3 ho.nums HZ.out hn)
    clear ho hb3 HT
    go_wp2_with fail
    refine HP.out.mono ?_
    rintro e w4 ⟨rfl, hown, hb4⟩
    have HB4 := Lib.hid (HB3.out.trans (hb4.mono HB3.out.size))
    clear hb4 HP
    go_wp2_with (at_lookup; refine wpList_lookup_own_ok_int _ rfl _ _ 62 rfl 3 3 .i64 int_keys Try.underlying62 Try.underlying3 (map_zero _) w3.heap.size qn (pl 0 (tagsX l)) rfl hown _ _ rfl hkey ?_; intro cc hcc _; rw [HH.out])
    have ec : cc = ((tagsX l).idxOf t : Int) := by
      rw [HA.out] at hcc
      injection hcc with e1
      injection e1 with _ e2
      rw [← e2]
      simp
    rw [ec]
    go_ret
    exact ⟨rfl, HB4.out⟩
  · rw [extOf_no hm]
    have HH : Hid (Maps.has (pl 0 (tagsX l)) (.int .i64 t) = false) := Lib.hid (by rw [pl_has]; exact decide_eq_false hm)
    clear hm
    go_enter Try.func29, Try.ntmps29
    go_wp2_with fail
    refine HT.out.mono ?_
    rintro e w3 ⟨q, qn, d, rfl, ho, hb3⟩
    have hq : qn = n := by rw [← ho.len]; exact HTL.out
    subst hq
    have HB3 := Lib.hid hb3
    have HP := Lib.hid (placesOf_any q qn d (tagsX l) w3 ho.nums HZ.out hn)
    clear ho hb3 HT
    go_wp2_with fail
    refine HP.out.mono ?_
    rintro e w4 ⟨rfl, hown, hb4⟩
    have HB4 := Lib.hid (HB3.out.trans (hb4.mono HB3.out.size))
    clear hb4 HP
    go_wp2_with (at_lookup; refine wpList_lookup_own_ok_int _ rfl _ _ 62 rfl 3 3 .i64 int_keys Try.underlying62 Try.underlying3 (map_zero _) w3.heap.size qn (pl 0 (tagsX l)) rfl hown _ _ rfl hkey ?_; intro cc hcc _; rw [HH.out])
    go_ret
    exact ⟨rfl, HB4.out⟩
end Go.Proofs.Ytnjjfagokbbelaa
