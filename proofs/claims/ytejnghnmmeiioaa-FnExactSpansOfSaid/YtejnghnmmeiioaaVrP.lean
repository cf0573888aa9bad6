/- A version added and taken away, the runs of a list: by the model. -/
import Derived.Test.YtejnghnmmeiioaaVrO
namespace Go.Proofs.Ytejnghnmmeiioaa
open Go.ChangeShapes Go.WideShapes Go.ChangeAt Go.RowKit
set_option linter.unusedVariables false
set_option linter.unusedSimpArgs false

set_option maxHeartbeats 4000000 in
set_option maxRecDepth 100000 in
theorem specAddVersion_any {a : Option Addr} {n c : Nat} {l : List Int} (v : Int) {w : World} (h : Nums .i64 w a n l) (hh : 0 < n → ∃ g, a = some ⟨g, 0, none⟩) (hc : n ≤ c ∧ (c : Int) ≤ 9223372036854775807) (hn : n ≤ 1000000000) :
    Calls Try.prog 28 #[.slice a n c, .int .i64 v] w (MadeB 3 w.heap.size (addV l v) (addsV l v) w) := by
  have H := Lib.hid h
  have HA := fun (W : World) (q : Nums .i64 W a n l) => specAreVersions_any (c := c) q
  obtain ⟨i0, hi, hz0, hz1, hz2⟩ := info_parts infoIntS
  have HI := Lib.hid (And.intro hi (And.intro hz0 (And.intro hz1 hz2)))
  clear hi hz0 hz1 hz2
  unfold MadeB
  have HV := l1R_b v 1 9
  have hlen := h.len
  by_cases h0 : word l = 0
  · obtain ⟨e1, e2⟩ := addV_no (l := l) (v := v) (fun q => q.1 h0)
    rw [e1, e2]
    rw [areV_no h0] at HA
    have HA := Lib.hid HA
    clear h h0 e1 e2
    have HI0 := Lib.hid (Below.refl w.heap.size w)
    go_enter Try.func28, Try.ntmps28
    go_wp2_with fail
    refine (HA.out _ (H.out.same HI0.out)).mono ?_
    rintro e w1 ⟨rfl, hb1⟩
    have HB1 := Lib.hid (HI0.out.trans (hb1.mono HI0.out.size))
    clear hb1
    go_wp2_with (at_builtin; refine wpl_app _ rfl (.tmp 19) (.tmp 20) 24 rfl .i64 3 i0 (.int .i64 0) 8 Try.underlying24 HI.out.1 HI.out.2.1 HI.out.2.2.1 HI.out.2.2.2 rfl rfl (Own.empty (Nat.le_refl _)) rfl (H.out.same (HB1.out.trans ((alloc_same _ _).mono HB1.out.size))) (by omega) ?c1 ?c2 ?_)
    case c1 => omega
    case c2 => simp
    intro a9 c9 w9 ho9 hb9
    have HO9 := Lib.hid ho9
    have HB9 := Lib.hid (HB1.out.trans (((alloc_same _ _).trans hb9).mono HB1.out.size))
    have hs9 := HB1.out.size
    clear ho9 hb9
    go_wp2_with fail
    go_ret2
    refine ⟨_, _, _, rfl, ?_, HB9.out⟩
    simpa using HO9.out.lower hs9
  have hareV := areV_yes h0
  rw [hareV] at HA
  have HA := Lib.hid HA
  by_cases hr : 1 ≤ v ∧ v ≤ 9
  · rw [inB_yes hr.1 hr.2] at HV
    by_cases hm : v ∈ l
    · obtain ⟨e1, e2⟩ := addV_no (l := l) (v := v) (fun q => q.2.2 hm)
      rw [e1, e2]
      have HH := fun (W : World) (q : Nums .i64 W a n l) => l9Has_any (c := c) v q
      rw [decide_eq_true hm] at HH
      have HH := Lib.hid HH
      clear h h0 e1 e2 hr hm hareV
      have HI0 := Lib.hid (Below.refl w.heap.size w)
      go_enter Try.func28, Try.ntmps28
      go_wp2_with fail
      refine (HA.out _ (H.out.same HI0.out)).mono ?_
      rintro e w1 ⟨rfl, hb1⟩
      have HB1 := Lib.hid (HI0.out.trans (hb1.mono HI0.out.size))
      clear hb1
      go_wp2_with fail
      refine (HV _).mono ?_
      rintro e w' ⟨rfl, rfl⟩
      go_wp2_with fail
      refine (HH.out _ (H.out.same HB1.out)).mono ?_
      rintro e w' ⟨rfl, rfl⟩
      go_wp2_with (at_builtin; refine wpl_app _ rfl (.tmp 19) (.tmp 20) 24 rfl .i64 3 i0 (.int .i64 0) 8 Try.underlying24 HI.out.1 HI.out.2.1 HI.out.2.2.1 HI.out.2.2.2 rfl rfl (Own.empty (Nat.le_refl _)) rfl (H.out.same (HB1.out.trans ((alloc_same _ _).mono HB1.out.size))) (by omega) ?c1 ?c2 ?_)
      case c1 => omega
      case c2 => simp
      intro a9 c9 w9 ho9 hb9
      have HO9 := Lib.hid ho9
      have HB9 := Lib.hid (HB1.out.trans (((alloc_same _ _).trans hb9).mono HB1.out.size))
      have hs9 := HB1.out.size
      clear ho9 hb9
      go_wp2_with fail
      go_ret2
      refine ⟨_, _, _, rfl, ?_, HB9.out⟩
      simpa using HO9.out.lower hs9
    · obtain ⟨e1, e2⟩ := addV_yes h0 hr hm
      rw [e1, e2, ← addV_put h0 hr]
      have HH := fun (W : World) (q : Nums .i64 W a n l) => l9Has_any (c := c) v q
      rw [decide_eq_false hm] at HH
      have HH := Lib.hid HH
      obtain ⟨g, rfl⟩ := hh (by have := areV_len h0; omega)
      clear h h0 e1 e2 hr hm hareV
      have HI0 := Lib.hid (Below.refl w.heap.size w)
      go_enter Try.func28, Try.ntmps28
      go_wp2_with fail
      refine (HA.out _ (H.out.same HI0.out)).mono ?_
      rintro e w1 ⟨rfl, hb1⟩
      have HB1 := Lib.hid (HI0.out.trans (hb1.mono HI0.out.size))
      clear hb1
      go_wp2_with fail
      refine (HV _).mono ?_
      rintro e w' ⟨rfl, rfl⟩
      go_wp2_with fail
      refine (HH.out _ (H.out.same HB1.out)).mono ?_
      rintro e w' ⟨rfl, rfl⟩
      go_wp2_with fail
      refine (specPut_any g n c l v _ (H.out.same HB1.out) hc hn).mono ?_
      rintro e w2 ⟨a9, n9, c9, rfl, ho9, hb9⟩
      have hs9 := HB1.out.size
      have HO9 := Lib.hid ho9
      have HB9 := Lib.hid (HB1.out.trans (hb9.mono hs9))
      clear ho9 hb9
      go_wp2_with fail
      go_ret2
      exact ⟨_, _, _, rfl, HO9.out.lower hs9, HB9.out⟩
  · obtain ⟨e1, e2⟩ := addV_no (l := l) (v := v) (fun q => hr q.2.1)
    rw [e1, e2]
    rw [inB_no hr] at HV
    clear h h0 e1 e2 hr hareV
    have HI0 := Lib.hid (Below.refl w.heap.size w)
    go_enter Try.func28, Try.ntmps28
    go_wp2_with fail
    refine (HA.out _ (H.out.same HI0.out)).mono ?_
    rintro e w1 ⟨rfl, hb1⟩
    have HB1 := Lib.hid (HI0.out.trans (hb1.mono HI0.out.size))
    clear hb1
    go_wp2_with fail
    refine (HV _).mono ?_
    rintro e w' ⟨rfl, rfl⟩
    go_wp2_with (at_builtin; refine wpl_app _ rfl (.tmp 19) (.tmp 20) 24 rfl .i64 3 i0 (.int .i64 0) 8 Try.underlying24 HI.out.1 HI.out.2.1 HI.out.2.2.1 HI.out.2.2.2 rfl rfl (Own.empty (Nat.le_refl _)) rfl (H.out.same (HB1.out.trans ((alloc_same _ _).mono HB1.out.size))) (by omega) ?c1 ?c2 ?_)
    case c1 => omega
    case c2 => simp
    intro a9 c9 w9 ho9 hb9
    have HO9 := Lib.hid ho9
    have HB9 := Lib.hid (HB1.out.trans (((alloc_same _ _).trans hb9).mono HB1.out.size))
    have hs9 := HB1.out.size
    clear ho9 hb9
    go_wp2_with fail
    go_ret2
    refine ⟨_, _, _, rfl, ?_, HB9.out⟩
    simpa using HO9.out.lower hs9
set_option maxHeartbeats 4000000 in
set_option maxRecDepth 100000 in
theorem specDropVersion_any {a : Option Addr} {n c : Nat} {l : List Int} (v : Int) {w : World} (h : Nums .i64 w a n l) (hn : n ≤ 1000000000) :
    Calls Try.prog 29 #[.slice a n c, .int .i64 v] w (MadeB 3 w.heap.size (dropV l v) (dropsV l v) w) := by
  have H := Lib.hid h
  have HA := fun (W : World) (q : Nums .i64 W a n l) => specAreVersions_any (c := c) q
  obtain ⟨i0, hi, hz0, hz1, hz2⟩ := info_parts infoIntS
  have HI := Lib.hid (And.intro hi (And.intro hz0 (And.intro hz1 hz2)))
  clear hi hz0 hz1 hz2
  unfold MadeB
  have hlen := h.len
  by_cases h0 : word l = 0
  · obtain ⟨e1, e2⟩ := dropV_no (l := l) (v := v) (fun q => q.1 h0)
    rw [e1, e2]
    rw [areV_no h0] at HA
    have HA := Lib.hid HA
    clear h h0 e1 e2
    have HI0 := Lib.hid (Below.refl w.heap.size w)
    go_enter Try.func29, Try.ntmps29
    go_wp2_with fail
    refine (HA.out _ (H.out.same HI0.out)).mono ?_
    rintro e w1 ⟨rfl, hb1⟩
    have HB1 := Lib.hid (HI0.out.trans (hb1.mono HI0.out.size))
    clear hb1
    go_wp2_with (at_builtin; refine wpl_app _ rfl (.tmp 20) (.tmp 21) 24 rfl .i64 3 i0 (.int .i64 0) 8 Try.underlying24 HI.out.1 HI.out.2.1 HI.out.2.2.1 HI.out.2.2.2 rfl rfl (Own.empty (Nat.le_refl _)) rfl (H.out.same (HB1.out.trans ((alloc_same _ _).mono HB1.out.size))) (by omega) ?c1 ?c2 ?_)
    case c1 => omega
    case c2 => simp
    intro a9 c9 w9 ho9 hb9
    have HO9 := Lib.hid ho9
    have HB9 := Lib.hid (HB1.out.trans (((alloc_same _ _).trans hb9).mono HB1.out.size))
    have hs9 := HB1.out.size
    clear ho9 hb9
    go_wp2_with fail
    go_ret2
    refine ⟨_, _, _, rfl, ?_, HB9.out⟩
    simpa using HO9.out.lower hs9
  have hareV := areV_yes h0
  rw [hareV] at HA
  have HA := Lib.hid HA
  by_cases hm : v ∈ l
  · have HH := fun (W : World) (q : Nums .i64 W a n l) => l9Has_any (c := c) v q
    rw [decide_eq_true hm] at HH
    have HH := Lib.hid HH
    by_cases h1 : n = 1
    · obtain ⟨e1, e2⟩ := dropV_no (l := l) (v := v) (fun q => q.2.2 (by omega))
      rw [e1, e2]
      subst h1
      clear h h0 e1 e2 hm hareV hlen
      have HI0 := Lib.hid (Below.refl w.heap.size w)
      go_enter Try.func29, Try.ntmps29
      go_wp2_with fail
      refine (HA.out _ (H.out.same HI0.out)).mono ?_
      rintro e w1 ⟨rfl, hb1⟩
      have HB1 := Lib.hid (HI0.out.trans (hb1.mono HI0.out.size))
      clear hb1
      go_wp2_with fail
      refine (HH.out _ (H.out.same HB1.out)).mono ?_
      rintro e w' ⟨rfl, rfl⟩
      go_wp2_with (at_builtin; refine wpl_app _ rfl (.tmp 20) (.tmp 21) 24 rfl .i64 3 i0 (.int .i64 0) 8 Try.underlying24 HI.out.1 HI.out.2.1 HI.out.2.2.1 HI.out.2.2.2 rfl rfl (Own.empty (Nat.le_refl _)) rfl (H.out.same (HB1.out.trans ((alloc_same _ _).mono HB1.out.size))) (by omega) ?c1 ?c2 ?_)
      case c1 => omega
      case c2 => simp
      intro a9 c9 w9 ho9 hb9
      have HO9 := Lib.hid ho9
      have HB9 := Lib.hid (HB1.out.trans (((alloc_same _ _).trans hb9).mono HB1.out.size))
      have hs9 := HB1.out.size
      clear ho9 hb9
      go_wp2_with fail
      go_ret2
      refine ⟨_, _, _, rfl, ?_, HB9.out⟩
      simpa using HO9.out.lower hs9
    · obtain ⟨e1, e2⟩ := dropV_yes h0 hm (by omega)
      rw [e1, e2, ← dropV_without h0 hm]
      have z1 : ((n : Int) == 1) = false := beq_false_of_ne (by omega)
      have z2 : (n == 1) = false := beq_false_of_ne h1
      clear h h0 e1 e2 hm hareV
      have HI0 := Lib.hid (Below.refl w.heap.size w)
      go_enter Try.func29, Try.ntmps29
      go_wp2_with fail
      refine (HA.out _ (H.out.same HI0.out)).mono ?_
      rintro e w1 ⟨rfl, hb1⟩
      have HB1 := Lib.hid (HI0.out.trans (hb1.mono HI0.out.size))
      clear hb1
      go_wp2_with fail
      refine (HH.out _ (H.out.same HB1.out)).mono ?_
      rintro e w' ⟨rfl, rfl⟩
      go_wp2_with fail
      refine (without_any (c := c) v (H.out.same HB1.out) (by omega)).mono ?_
      rintro e w2 ⟨a9, n9, c9, rfl, ho9, hb9⟩
      have hs9 := HB1.out.size
      have HO9 := Lib.hid ho9
      have HB9 := Lib.hid (HB1.out.trans (hb9.mono hs9))
      clear ho9 hb9
      go_wp2_with fail
      go_ret2
      exact ⟨_, _, _, rfl, HO9.out.lower hs9, HB9.out⟩
  · obtain ⟨e1, e2⟩ := dropV_no (l := l) (v := v) (fun q => hm q.2.1)
    rw [e1, e2]
    have HH := fun (W : World) (q : Nums .i64 W a n l) => l9Has_any (c := c) v q
    rw [decide_eq_false hm] at HH
    have HH := Lib.hid HH
    clear h h0 e1 e2 hm hareV
    have HI0 := Lib.hid (Below.refl w.heap.size w)
    go_enter Try.func29, Try.ntmps29
    go_wp2_with fail
    refine (HA.out _ (H.out.same HI0.out)).mono ?_
    rintro e w1 ⟨rfl, hb1⟩
    have HB1 := Lib.hid (HI0.out.trans (hb1.mono HI0.out.size))
    clear hb1
    go_wp2_with fail
    refine (HH.out _ (H.out.same HB1.out)).mono ?_
    rintro e w' ⟨rfl, rfl⟩
    go_wp2_with (at_builtin; refine wpl_app _ rfl (.tmp 20) (.tmp 21) 24 rfl .i64 3 i0 (.int .i64 0) 8 Try.underlying24 HI.out.1 HI.out.2.1 HI.out.2.2.1 HI.out.2.2.2 rfl rfl (Own.empty (Nat.le_refl _)) rfl (H.out.same (HB1.out.trans ((alloc_same _ _).mono HB1.out.size))) (by omega) ?c1 ?c2 ?_)
    case c1 => omega
    case c2 => simp
    intro a9 c9 w9 ho9 hb9
    have HO9 := Lib.hid ho9
    have HB9 := Lib.hid (HB1.out.trans (((alloc_same _ _).trans hb9).mono HB1.out.size))
    have hs9 := HB1.out.size
    clear ho9 hb9
    go_wp2_with fail
    go_ret2
    refine ⟨_, _, _, rfl, ?_, HB9.out⟩
    simpa using HO9.out.lower hs9
theorem spnTo_yes {l : List Int} {j : Nat} (h : j = 0 ∨ l.getD (j - 1) 0 + 1 ≠ l.getD j 0) : spnTo l (j + 1) = spnTo l j + 1 := by rw [spnTo, if_pos h]
theorem spnTo_no {l : List Int} {j : Nat} (h : ¬ (j = 0 ∨ l.getD (j - 1) 0 + 1 ≠ l.getD j 0)) : spnTo l (j + 1) = spnTo l j := by rw [spnTo, if_neg h]; rfl
theorem getD_of {l : List Int} {j : Nat} {x : Int} (h : l[j]? = some x) : l.getD j 0 = x := by rw [List.getD, h]; rfl
set_option maxHeartbeats 4000000 in
set_option maxRecDepth 100000 in
theorem specSpansOf_any {a : Option Addr} {n c : Nat} {l : List Int} {w : World} (h : Nums .i64 w a n l) (hn : n ≤ 1000000000) :
    Calls Try.prog 30 #[.slice a n c] w (Told (.int .i64 (spans l : Int)) w) := by
  have H := Lib.hid h
  have HL := Lib.hid h.len
  have HA := fun (W : World) (q : Nums .i64 W a n l) => specAreVersions_any (c := c) q
  have mixed : Try.prog.follows .mixedOrders = true := by rfl
  by_cases h0 : word l = 0
  · have HE : Hid (spans l = 0) := by unfold spans; rw [areV_no h0]; rfl
    rw [areV_no h0] at HA
    have HA := Lib.hid HA
    clear h h0
    go_enter Try.func30, Try.ntmps30
    go_wp2
    go_loopw [3, 4] (fun s i wr => s = .int .i64 0 ∧ i = .int .i64 0 ∧ wr = w) (fun _ _ _ => 0)
    case atStart => exact ⟨rfl, rfl, rfl⟩
    case round =>
      obtain ⟨rfl, rfl, rfl⟩ := hrel
      by_cases hz : n = 0
      · subst hz
        go_wp2
        go_ret
        exact ⟨by rw [HE.out]; rfl, Below.refl _ _⟩
      · have hz1 : (0 : Int) < (n : Int) := by omega
        have hz2 : decide (0 < n) = true := decide_eq_true (by omega)
        go_wp2_with fail
        refine (HA.out _ H.out).mono ?_
        rintro e w2 ⟨rfl, hb2⟩
        go_wp2_with fail
        go_ret
        exact ⟨by rw [HE.out]; rfl, hb2⟩
  · have HE : Hid (spans l = spn l) := by unfold spans; rw [areV_yes h0]; rfl
    have HW := Lib.hid (fun (x : Int) (q : x ∈ l) => in_range h0 q)
    rw [areV_yes h0] at HA
    have HA := Lib.hid HA
    clear h h0
    go_enter Try.func30, Try.ntmps30
    go_wp2
    go_loopw [3, 4] (fun s i wr => ∃ (j k : Nat), j ≤ n ∧ i = .int .i64 j ∧ s = .int .i64 k ∧ k ≤ j ∧ Hid (k = spnTo l j) ∧ Hid (Below w.heap.size w wr)) (fun _ i _ => n - (intOf i).toNat)
    case atStart => exact ⟨0, 0, Nat.zero_le _, rfl, rfl, Nat.le_refl _, rfl, Below.refl _ _⟩
    case round =>
      obtain ⟨j, k, hj, rfl, rfl, hkj, HK, HB⟩ := hrel
      by_cases hlt : j < n
      · go_wp2_with fail
        refine (HA.out _ (H.out.same HB.out)).mono ?_
        rintro e w2 ⟨rfl, hb2⟩
        have HB2 := Lib.hid (HB.out.trans (hb2.mono HB.out.size))
        clear hb2
        obtain ⟨ad, x, rfl, hx, hc⟩ := (H.out.same HB2.out).at_ hlt
        by_cases hj0 : j = 0
        · have HS := Lib.hid (spnTo_yes (l := l) (.inl hj0))
          have z1 : (j == 0) = true := by simpa using hj0
          have z2 : ((j : Int) == 0) = true := by rw [hj0]; rfl
          clear hx hj0
          go_wp2_with fail
          go_quiet (fail)
          go_wp2
          go_roundw
          case rel => exact ⟨j + 1, k + 1, by omega, by go_num, by go_num, by omega, Lib.hid (by rw [HS.out, ← HK.out]), HB2.out.trans (drewN_same _ _ |>.mono HB2.out.size)⟩
          case measure => simp [intOf]; omega
        · obtain ⟨i, rfl⟩ : ∃ i, j = i + 1 := ⟨j - 1, by omega⟩
          obtain ⟨ad2, y, eb, hy, hd⟩ := (H.out.same HB2.out).at_ (show i < n by omega)
          cases eb
          have hc2 : w2.cell? ⟨ad.block, ad.off + (i + 1), none⟩ = some (.int .i64 x) := by
            have := hc
            unfold Addr.add at this
            simpa using this
          have h0i : (0 : Int) ≤ (i : Int) + 1 := by omega
          have z1 : ((i + 1 : Nat) : Int) - 1 = (i : Int) := by omega
          have z2 : (((i + 1 : Nat) : Int) == 0) = false := beq_false_of_ne (by omega)
          have z3 : ((i : Int) + 1 == 0) = false := beq_false_of_ne (by omega)
          have z4 : (i + 1 == 0) = false := rfl
          have hyr := HW.out _ (List.mem_of_getElem? hy)
          have e1 : l.getD (i + 1) 0 = x := getD_of hx
          have e2 : l.getD (i + 1 - 1) 0 = y := getD_of (by simpa using hy)
          by_cases hq : y + 1 = x
          · have HS := Lib.hid (spnTo_no (l := l) (j := i + 1) (by rw [e1, e2]; omega))
            have z5 : (y + 1 != x) = false := by simpa using hq
            have z6 : (y + 1 == x) = true := by simpa using hq
            clear hx hy hj0 e1 e2 hq
            go_wp2_with fail
            go_quiet (fail)
            go_wp2
            go_roundw
            case rel => exact ⟨i + 1 + 1, k, by omega, by go_num, rfl, by omega, Lib.hid (by rw [HS.out, ← HK.out]), HB2.out.trans (drewN_same _ _ |>.mono HB2.out.size)⟩
            case measure => simp [intOf]; omega
          · have HS := Lib.hid (spnTo_yes (l := l) (j := i + 1) (.inr (by rw [e1, e2]; exact hq)))
            have z5 : (y + 1 != x) = true := by simpa using hq
            have z6 : (y + 1 == x) = false := by simpa using hq
            clear hx hy hj0 e1 e2 hq
            go_wp2_with fail
            go_quiet (fail)
            go_wp2
            go_roundw
            case rel => exact ⟨i + 1 + 1, k + 1, by omega, by go_num, by go_num, by omega, Lib.hid (by rw [HS.out, ← HK.out]), HB2.out.trans (drewN_same _ _ |>.mono HB2.out.size)⟩
            case measure => simp [intOf]; omega
      · obtain rfl : j = n := by omega
        have HE2 : Hid (spans l = k) := Lib.hid (by rw [HE.out, HK.out]; unfold spn; rw [HL.out])
        go_wp2
        go_ret
        exact ⟨by rw [HE2.out]; rfl, HB.out⟩
end Go.Proofs.Ytejnghnmmeiioaa
