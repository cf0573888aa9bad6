/- Whether a number is on a list, by the model. Lists of versions, by the model: whether a list is one, what two have in common, the greatest common version, the runs. Whether a list of extensions is valid, where a tag stands, the tags: by the model. Whether a list of extensions is valid, and its tags: by the model. -/
import Derived.Test.YtcmjadfpifpknaaGreatG1
import Derived.RegionTactic
import Derived.Handy
import Derived.Test.YtcmjadfpifpknaaGreatG15
import Derived.Test.YtcmjadfpifpknaaGreatG5
import Derived.Test.YtcmjadfpifpknaaGreatG9
import Derived.Test.YtcmjadfpifpknaaGreatG4
import Derived.Test.YtcmjadfpifpknaaGreatG10
namespace Go.Proofs.YtcmjadfpifpknaaGreat
open Go.ChangeShapes Go.WideShapes Go.ChangeAt Go.RowKit
set_option linter.unusedVariables false
set_option linter.unusedSimpArgs false

set_option maxRecDepth 100000 in
theorem l9Has_any {p : Option Addr} {m c : Nat} {y : List Int} (t : Int) {w : World} (h : Nums .i64 w p m y) :
    Calls Tryz.prog 98 #[.slice p m c, .int .i64 t] w fun e w' => e = .returned (.bool (decide (t ∈ y))) ∧ w = w' := by
  have H := Lib.hid h
  have hl := h.len
  have hfit := h.fits
  clear h
  go_enter Tryz.func98, Tryz.ntmps98
  go_wp2_with fail
  go_loop [5] (fun i => ∃ j : Nat, j ≤ m ∧ i = .int .i64 j ∧ ¬ t ∈ y.take j) (fun i => m - (intOf i).toNat)
  case atStart => exact ⟨0, Nat.zero_le _, rfl, by simp⟩
  case round =>
    obtain ⟨j, hj, rfl, hno⟩ := hrel
    have HN := Lib.hid hno
    clear hno
    by_cases hlt : j < m
    · obtain ⟨ad, z, rfl, hz, hc⟩ := H.out.at_ hlt
      by_cases hk : z = t
      · have HE : Hid (decide (t ∈ y) = true) := Lib.hid (decide_eq_true (by rw [← hk]; exact List.mem_of_getElem? hz))
        have hb : (z == t) = true := by simpa using hk
        clear hz hk
        go_wp2_with fail
        go_ret
        exact ⟨by rw [HE.out]; rfl, rfl⟩
      · have hb : (z == t) = false := by simpa using hk
        have HS : Hid (¬ t ∈ y.take (j + 1)) := Lib.hid (by
          rw [List.take_add_one, hz]
          intro hm
          rcases List.mem_append.1 hm with q | q
          · exact HN.out q
          · have : t = z := by simpa using q
            exact hk this.symm)
        clear hz hk
        go_wp2_with fail
        go_round
        case rel => exact ⟨j + 1, by omega, by go_num, HS.out⟩
        case measure => simp [intOf]; omega
    · obtain rfl : j = m := by omega
      have h1 := HN.out
      rw [List.take_of_length_le (by omega)] at h1
      have HE := Lib.hid (decide_eq_false h1)
      clear h1
      go_wp2_with fail
      go_ret
      exact ⟨by rw [HE.out]; rfl, rfl⟩
end Go.Proofs.YtcmjadfpifpknaaGreat
namespace Go.Proofs.YtcmjadfpifpknaaGreat
open Go.ChangeShapes Go.WideShapes Go.ChangeAt Go.RowKit
set_option linter.unusedVariables false
set_option linter.unusedSimpArgs false

theorem quiet_of12 {P : Program} {f : FuncId} {args : Array Value} {w : World} {n : Nat} {v : Value} (h : Calls P f args (w.drewN n) fun e w' => e = .returned v ∧ w' = w.drewN n) : Calls P f args (w.drewN n) fun e w' => e = .returned v ∧ ∃ m, w' = w.drewN m :=
  h.mono fun _ _ ⟨he, hw⟩ => ⟨he, n, hw⟩
set_option maxHeartbeats 4000000 in
set_option maxRecDepth 100000 in
theorem specAreVersions_any {a : Option Addr} {n c : Nat} {l : List Int} {w : World} (h : Nums .i64 w a n l) :
    Calls Tryz.prog 52 #[.slice a n c] w (Told (.bool (areV l)) w) := by
  have hn := h.fits
  have H := Lib.hid h
  have HL := Lib.hid h.len
  clear h
  have mixed : Tryz.prog.follows .mixedOrders = true := by rfl
  go_enter Tryz.func52, Tryz.ntmps52
  go_wp2
  go_loopw [3] (fun i wr => ∃ (j : Nat), j ≤ n ∧ i = .int .i64 j ∧ Hid (∃ k : Nat, k < 512 ∧ l.take j = lw k ∧ voW (l.drop j) k = word l) ∧ Hid (Below w.heap.size w wr)) (fun i _ => n - (intOf i).toNat)
  case atStart => exact ⟨0, Nat.zero_le _, rfl, ⟨0, by omega, by rw [List.take_zero]; decide, rfl⟩, Below.refl _ _⟩
  case round =>
    obtain ⟨j, hj, rfl, HQ, HB⟩ := hrel
    by_cases hlt : j < n
    · obtain ⟨ad, x, rfl, hx, hc⟩ := (H.out.same HB.out).at_ hlt
      have HX := Lib.hid hx
      obtain ⟨k, hk, ht, hv⟩ := HQ.out
      rw [voW_step hx] at hv
      have h1 := l1R_b x 1 9
      clear HQ
      by_cases hr : 1 ≤ x ∧ x ≤ 9
      · rw [inBd_yes hr.1 hr.2] at h1
        by_cases hj0 : j = 0
        · have hz : decide (0 < j) = false := decide_eq_false (by omega)
          have hk0 : k = 0 := by
            rw [hj0, List.take_zero] at ht
            exact (lw_zero hk).1 ht.symm
          have hs : (1 ≤ x ∧ x ≤ 9) ∧ k < 2 ^ (x.toNat - 1) := ⟨hr, by rw [hk0]; exact Nat.two_pow_pos _⟩
          rw [voW_yes hs] at hv
          have HE : Hid (∃ k : Nat, k < 512 ∧ l.take (j + 1) = lw k ∧ voW (l.drop (j + 1)) k = word l) := ⟨_, or_lt hk hr, take_lw HX.out hk hs ht, hv⟩
          clear hv ht hk0 hs hr hk hj0 hx
          go_wp2_with fail
          go_quiet (first | (go_at_call 99; exact quiet_of12 (h1 _)))
          go_wp2
          go_roundw
          case rel => exact ⟨j + 1, by omega, by go_num, HE, HB.out.trans (drewN_same _ _ |>.mono HB.out.size)⟩
          case measure => simp [intOf]; omega
        · obtain ⟨i, rfl⟩ : ∃ i, j = i + 1 := ⟨j - 1, by omega⟩
          have hz : (0 : Int) < (i : Int) + 1 := by omega
          obtain ⟨ad2, y, eb, hy, hd⟩ := (H.out.same HB.out).at_ (show i < n by omega)
          cases eb
          have hc2 : wr.cell? ⟨ad.block, ad.off + (i + 1), none⟩ = some (.int .i64 x) := by
            have := hc
            unfold Addr.add at this
            simpa using this
          have h0i : (0 : Int) ≤ (i : Int) + 1 := by omega
          have hlast := take_last hy hk hr ht
          have z1 : ((i + 1 : Nat) : Int) - 1 = (i : Int) := by omega
          clear hy
          by_cases hasc : y < x
          · have hge : ¬ x ≤ y := by omega
            have hs : (1 ≤ x ∧ x ≤ 9) ∧ k < 2 ^ (x.toNat - 1) := ⟨hr, hlast.1 hasc⟩
            rw [voW_yes hs] at hv
            have HE : Hid (∃ k : Nat, k < 512 ∧ l.take (i + 1 + 1) = lw k ∧ voW (l.drop (i + 1 + 1)) k = word l) := ⟨_, or_lt hk hr, take_lw HX.out hk hs ht, hv⟩
            clear hv ht hs hr hk hlast hx hj0
            go_wp2_with fail
            go_quiet (first | (go_at_call 99; exact quiet_of12 (h1 _)))
            go_wp2
            go_roundw
            case rel => exact ⟨i + 1 + 1, by omega, by go_num, HE, HB.out.trans (drewN_same _ _ |>.mono HB.out.size)⟩
            case measure => simp [intOf]; omega
          · have hge : x ≤ y := by omega
            rw [voW_no (fun q => hasc (hlast.2 q.2))] at hv
            have HE : Hid (areV l = false) := areV_no hv.symm
            clear hv ht hr hk hlast hx hj0
            go_wp2_with fail
            go_quiet (first | (go_at_call 99; exact quiet_of12 (h1 _)))
            go_wp2
            go_ret
            exact ⟨by rw [HE.out]; rfl, HB.out.trans (drewN_same _ _ |>.mono HB.out.size)⟩
      · rw [inBd_no hr] at h1
        rw [voW_no (fun q => hr q.1)] at hv
        have HE : Hid (areV l = false) := areV_no hv.symm
        clear hv ht hr hk hx
        go_wp2_with fail
        go_quiet (first | (go_at_call 99; exact quiet_of12 (h1 _)))
        go_wp2
        go_ret
        exact ⟨by rw [HE.out]; rfl, HB.out.trans (drewN_same _ _ |>.mono HB.out.size)⟩
    · obtain rfl : j = n := by omega
      obtain ⟨k, hk, ht, hv⟩ := HQ.out
      have hv2 : word l = k := by
        rw [← HL.out, drop_all] at hv
        exact hv.symm
      rw [← HL.out, List.take_length] at ht
      by_cases h0 : j = 0
      · have HE : Hid (areV l = false) := areV_no (by
          rw [hv2]
          exact (lw_zero hk).1 (by rw [← ht]; exact List.eq_nil_of_length_eq_zero (by rw [HL.out]; exact h0)))
        subst h0
        clear hv hv2 ht hk HQ
        go_wp2
        go_ret
        exact ⟨by rw [HE.out]; rfl, HB.out⟩
      · have HE : Hid (areV l = true) := areV_yes (by
          rw [hv2]
          intro q
          rw [(lw_zero hk).2 q] at ht
          have := HL.out
          rw [ht] at this
          simp at this
          omega)
        have hz : (0 : Int) < (j : Int) := by omega
        have hz2 : decide (0 < j) = true := decide_eq_true (by omega)
        clear hv hv2 ht hk HQ h0
        go_wp2
        go_ret
        exact ⟨by rw [HE.out]; rfl, HB.out⟩
end Go.Proofs.YtcmjadfpifpknaaGreat
namespace Go.Proofs.YtcmjadfpifpknaaGreat
open Go.ChangeShapes Go.WideShapes Go.ChangeAt Go.RowKit
set_option linter.unusedVariables false
set_option linter.unusedSimpArgs false

theorem first_at {zs : List Int} {j : Nat} {z : Int} (hz : zs[j]? = some z) (h : ¬ z ∈ zs.take j) : zs.idxOf z = j := by
  have h1 := idx_le hz
  rcases Nat.lt_or_ge (zs.idxOf z) j with q | q
  · exfalso
    have hj : j < zs.length := (List.getElem?_eq_some_iff.1 hz).1
    have hi : zs.idxOf z < zs.length := by omega
    have e1 := List.getElem_idxOf hi
    refine h (List.mem_of_getElem? (i := zs.idxOf z) ?_)
    rw [List.getElem?_take_of_lt q, List.getElem?_eq_getElem hi, e1]
  · omega
theorem tagsX_take (l : List Vl) (j : Nat) : tagsX (l.take j) = (tagsX l).take j := by simp [tagsX, List.map_take]
set_option maxRecDepth 100000 in
theorem l9Byte_any {p : Option Addr} {m c : Nat} {y : List Int} {w : World} (h : Nums .i64 w p m y) :
    Calls Tryz.prog 146 #[.slice p m c] w fun e w' => e = .returned (.bool (allIn y 255)) ∧ w = w' := by
  have H := Lib.hid h
  have hl := h.len
  have hfit := h.fits
  clear h
  go_enter Tryz.func146, Tryz.ntmps146
  go_wp2_with fail
  go_loop [3] (fun i => ∃ j : Nat, j ≤ m ∧ i = .int .i64 j ∧ allIn (y.take j) 255 = true) (fun i => m - (intOf i).toNat)
  case atStart => exact ⟨0, Nat.zero_le _, rfl, allIn_zero _ _⟩
  case round =>
    obtain ⟨j, hj, rfl, hall⟩ := hrel
    have HA := Lib.hid hall
    clear hall
    by_cases hlt : j < m
    · obtain ⟨ad, z, rfl, hz, hc⟩ := H.out.at_ hlt
      by_cases hi : 0 ≤ z ∧ z ≤ 255
      · have HS := Lib.hid (allIn_step HA.out hz hi)
        have K := Lib.hid (fun w0 => l1R_t (decide_eq_true hi) w0)
        clear hz hi
        go_wp2_with (go_at_call 99; refine (K.out _).mono ?_; rintro e w' ⟨rfl, rfl⟩)
        go_round
        case rel => exact ⟨j + 1, by omega, by go_num, HS.out⟩
        case measure => simp [intOf]; omega
      · have HE := Lib.hid (allIn_no hz hi)
        have K := Lib.hid (fun w0 => l1R_t (decide_eq_false hi) w0)
        clear hz hi
        go_wp2_with (go_at_call 99; refine (K.out _).mono ?_; rintro e w' ⟨rfl, rfl⟩)
        go_ret
        exact ⟨by rw [HE.out]; rfl, rfl⟩
    · obtain rfl : j = m := by omega
      have h2 := HA.out
      rw [List.take_of_length_le (by omega)] at h2
      have HE := Lib.hid h2
      clear h2
      go_wp2_with fail
      go_ret
      exact ⟨by rw [HE.out]; rfl, rfl⟩
set_option maxRecDepth 100000 in
theorem specExtOf_any {a : Option Addr} {n c : Nat} {l : List Vl} (t : Int) {w : World} (h : Vals w a n l) :
    Calls Tryz.prog 123 #[.slice a n c, .int .i64 t] w fun e w' => e = .returned (.int .i64 (extOf l t)) ∧ w = w' := by
  have H := Lib.hid h
  have hln := Lib.hid h.len
  have hfit := h.fits
  clear h
  go_enter Tryz.func123, Tryz.ntmps123
  go_wp2_with fail
  go_loop [5] (fun i => ∃ j : Nat, j ≤ n ∧ i = .int .i64 j ∧ ¬ t ∈ tagsX (l.take j)) (fun i => n - (intOf i).toNat)
  case atStart => exact ⟨0, Nat.zero_le _, rfl, by simp [tagsX]⟩
  case round =>
    obtain ⟨j, hj, rfl, hno⟩ := hrel
    have HN := Lib.hid hno
    clear hno
    by_cases hlt : j < n
    · obtain ⟨b, o, p, m, e, k, y, rfl, hx, hc0, hc1, hN, hr⟩ := H.out.at_ hlt
      by_cases hk : k = t
      · have HE : Hid (extOf l k = j) := Lib.hid (by
          rw [extOf_yes (tags_mem hx)]
          have := first_at (tags_at hx) (by rw [← tagsX_take]; rw [hk]; exact HN.out)
          rw [this])
        subst hk
        clear hx hN
        go_wp2_with fail
        go_ret
        exact ⟨by rw [HE.out]; rfl, rfl⟩
      · have hb : (k == t) = false := by simpa using hk
        have HS : Hid (¬ t ∈ tagsX (l.take (j + 1))) := Lib.hid (by
          rw [tags_take hx]
          intro hm
          rcases List.mem_append.1 hm with q | q
          · exact HN.out q
          · have : t = k := by simpa using q
            exact hk this.symm)
        clear hx hN hk
        go_wp2_with fail
        go_round
        case rel => exact ⟨j + 1, by omega, by go_num, HS.out⟩
        case measure => simp [intOf]; omega
    · obtain rfl : j = n := by omega
      have h1 := HN.out
      rw [List.take_of_length_le (by rw [hln.out]; omega)] at h1
      have HE := Lib.hid (extOf_no h1)
      clear h1
      go_wp2_with fail
      go_ret
      exact ⟨by rw [HE.out]; rfl, rfl⟩
end Go.Proofs.YtcmjadfpifpknaaGreat
namespace Go.Proofs.YtcmjadfpifpknaaGreat
open Go.ChangeShapes Go.WideShapes Go.ChangeAt Go.RowKit
set_option linter.unusedVariables false
set_option linter.unusedSimpArgs false

theorem areX_twice {l : List Vl} {j : Nat} {x : Vl} (hx : l[j]? = some x) (h : (tagsX l).idxOf x.num < j) : areX l = false := by
  cases e : areX l with
  | false => rfl
  | true => exact absurd h (nodup_first.1 (areX_parts.1 e).2.2 j x.num (tags_at hx))
theorem areX_end {l : List Vl} (h : ∀ q x, l[q]? = some x → okX x = true ∧ ¬ (tagsX l).idxOf x.num < q) : areX l = decide (l.length ≤ 6) := by
  by_cases h6 : l.length ≤ 6
  · rw [decide_eq_true h6, areX_parts]
    refine ⟨h6, fun x hx => ?_, nodup_first.2 fun q z hz => ?_⟩
    · obtain ⟨q, hq⟩ := List.mem_iff_getElem?.1 hx
      exact (h q x hq).1
    · have hq : q < l.length := by
        have := (List.getElem?_eq_some_iff.1 hz).1
        rwa [tagsX_len] at this
      have e := tags_at (List.getElem?_eq_getElem hq)
      rw [hz] at e
      cases e
      exact (h q _ (List.getElem?_eq_getElem hq)).2
  · rw [decide_eq_false h6]
    exact areX_long (by omega)
set_option maxHeartbeats 4000000 in
set_option maxRecDepth 100000 in
theorem specAreExts_any {a : Option Addr} {n c : Nat} {l : List Vl} {w : World} (h : Vals w a n l) :
    Calls Tryz.prog 110 #[.slice a n c] w fun e w' => e = .returned (.bool (areX l)) ∧ w = w' := by
  have H := Lib.hid h
  have hln := Lib.hid h.len
  have hfit := h.fits
  clear h
  go_enter Tryz.func110, Tryz.ntmps110
  go_wp2_with fail
  go_loop [3] (fun i => ∃ j : Nat, j ≤ n ∧ i = .int .i64 j ∧ (∀ q x, q < j → l[q]? = some x → okX x = true ∧ ¬ (tagsX l).idxOf x.num < q)) (fun i => n - (intOf i).toNat)
  case atStart => exact ⟨0, Nat.zero_le _, rfl, fun q x hq => by omega⟩
  case round =>
    obtain ⟨j, hj, rfl, hok⟩ := hrel
    have HK := Lib.hid hok
    clear hok
    by_cases hlt : j < n
    · obtain ⟨b, o, p, m, e, k, y, rfl, hx, hc0, hc1, hN, hr⟩ := H.out.at_ hlt
      have hm := hN.len
      have hmf := hN.fits
      have HX := Lib.hid hx
      have KB := Lib.hid (fun w0 (hb : w = w0) => by subst hb; exact l9Byte_any (c := e) hN)
      have KE := Lib.hid (specExtOf_any (c := c) k H.out)
      rw [extOf_yes (tags_mem hx)] at KE
      by_cases hk : 0 ≤ k ∧ k ≤ 255
      · have KI := Lib.hid (fun w0 => l1R_t (decide_eq_true hk) w0)
        by_cases h4 : 4 < m
        · have HE : Hid (areX l = false) := Lib.hid (okX_stop HX.out (by
            unfold okX fitIts; dsimp only
            rw [decide_eq_false (show ¬ (y.length : Int) ≤ 4 by omega)]
            simp))
          clear hx hN hk hm KB KE
          go_wp2_with (go_at_call 99; refine (KI.out _).mono ?_; rintro e w' ⟨rfl, rfl⟩)
          go_ret
          exact ⟨by rw [HE.out]; rfl, rfl⟩
        · cases ha : allIn y 255 with
          | false =>
            have HE : Hid (areX l = false) := Lib.hid (okX_stop HX.out (by
              unfold okX fitIts; dsimp only
              rw [ha]
              simp))
            rw [ha] at KB
            clear hx hN hk hm KE ha
            go_wp2_with (first | (go_at_call 99; refine (KI.out _).mono ?_; rintro e w' ⟨rfl, rfl⟩) | (go_at_call 146; refine (KB.out _ rfl).mono ?_; rintro e w' ⟨rfl, rfl⟩))
            go_ret
            exact ⟨by rw [HE.out]; rfl, rfl⟩
          | true =>
            have HO : Hid (okX ⟨k, y⟩ = true) := Lib.hid (by
              unfold okX fitIts; dsimp only
              rw [ha, decide_eq_true hk, decide_eq_true (show (y.length : Int) ≤ 4 by omega)]
              rfl)
            rw [ha] at KB
            obtain ⟨r, hr2⟩ : ∃ r, r = (tagsX l).idxOf k := ⟨_, rfl⟩
            rw [← hr2] at KE
            by_cases hlo : r < j
            · have HE : Hid (areX l = false) := Lib.hid (areX_twice HX.out (by rw [← hr2]; exact hlo))
              clear hx hN hk hm ha hr2
              go_wp2_with (first | (go_at_call 99; refine (KI.out _).mono ?_; rintro e w' ⟨rfl, rfl⟩) | (go_at_call 146; refine (KB.out _ rfl).mono ?_; rintro e w' ⟨rfl, rfl⟩) | (go_at_call 123; refine KE.out.mono ?_; rintro e w' ⟨rfl, rfl⟩))
              go_ret
              exact ⟨by rw [HE.out]; rfl, rfl⟩
            · have HS : Hid (∀ q x, q < j + 1 → l[q]? = some x → okX x = true ∧ ¬ (tagsX l).idxOf x.num < q) := Lib.hid (fun q x hq hxq => by
                by_cases e : q = j
                · subst e
                  rw [HX.out] at hxq
                  cases hxq
                  exact ⟨HO.out, by rw [← hr2]; exact hlo⟩
                · exact HK.out q x (by omega) hxq)
              clear hx hN hk hm ha hr2
              go_wp2_with (first | (go_at_call 99; refine (KI.out _).mono ?_; rintro e w' ⟨rfl, rfl⟩) | (go_at_call 146; refine (KB.out _ rfl).mono ?_; rintro e w' ⟨rfl, rfl⟩) | (go_at_call 123; refine KE.out.mono ?_; rintro e w' ⟨rfl, rfl⟩))
              go_round
              case rel => exact ⟨j + 1, by omega, by go_num, HS.out⟩
              case measure => simp [intOf]; omega
      · have KI := Lib.hid (fun w0 => l1R_t (decide_eq_false hk) w0)
        have HE : Hid (areX l = false) := Lib.hid (okX_stop HX.out (by unfold okX; dsimp only; rw [decide_eq_false hk]; rfl))
        clear hx hN hk hm KB KE
        go_wp2_with (go_at_call 99; refine (KI.out _).mono ?_; rintro e w' ⟨rfl, rfl⟩)
        go_ret
        exact ⟨by rw [HE.out]; rfl, rfl⟩
    · obtain rfl : j = n := by omega
      have HE : Hid (areX l = decide ((j : Int) ≤ 6)) := Lib.hid (by
        rw [areX_end (fun q x hx => HK.out q x (by have := lt_of_some hx; rw [hln.out] at this; exact this) hx), hln.out]
        by_cases h : j ≤ 6
        · rw [decide_eq_true h, decide_eq_true (by omega)]
        · rw [decide_eq_false h, decide_eq_false (by omega)])
      go_wp2_with fail
      go_ret
      exact ⟨by rw [HE.out]; rfl, rfl⟩
set_option maxHeartbeats 2000000 in
set_option maxRecDepth 100000 in
theorem specTagsOf_any {a : Option Addr} {n c : Nat} {l : List Vl} {w : World} (h : Vals w a n l) (hn : n ≤ 1048576000) :
    Calls Tryz.prog 76 #[.slice a n c] w (Made .i64 3 w.heap.size (tagsX l) w) := by
  have H := Lib.hid h
  have hln := Lib.hid h.len
  clear h
  obtain ⟨i0, hi, hz0, hz1, hz2⟩ := info_parts infoIntS
  have HI := Lib.hid (And.intro hi (And.intro hz0 (And.intro hz1 hz2)))
  clear hi hz0 hz1 hz2
  have HO : Hid (Own .i64 3 (w.alloc (.cells #[] 3)) w.heap.size (some ⟨w.heap.size, 0, none⟩) 0 0 (tagsX (l.take 0))) := Lib.hid (by rw [List.take_zero]; exact Own.empty (Nat.le_refl _))
  have HB : Hid (Below w.heap.size w (w.alloc (.cells #[] 3))) := Lib.hid (alloc_same _ _)
  go_enter Tryz.func76, Tryz.ntmps76
  go_wp2_with fail
  go_loopw [3, 4] (fun v i wr => ∃ (j : Nat) (q : Option Addr) (d : Nat), j ≤ n ∧ i = .int .i64 j ∧ v = .slice q j d ∧ Own .i64 3 wr w.heap.size q j d (tagsX (l.take j)) ∧ Below w.heap.size w wr) (fun _ i _ => n - (intOf i).toNat)
  case atStart => exact ⟨0, _, _, Nat.zero_le _, rfl, rfl, HO.out, HB.out⟩
  case round =>
    obtain ⟨j, q, d, hj, rfl, rfl, hown, hb⟩ := hrel
    have HO2 := Lib.hid hown
    have HB2 := Lib.hid hb
    clear hown hb
    by_cases hlt : j < n
    · obtain ⟨b, o, p, m, e, k, y, rfl, hx, hc0, hc1, hN, hr⟩ := (H.out.same HB2.out).at_ hlt
      have HX : Hid (tagsX (l.take (j + 1)) = tagsX (l.take j) ++ [k]) := Lib.hid (tags_take hx)
      have hsz := HB2.out.size
      clear hx hN
      go_wp2_with (at_builtin; refine wpl_app _ rfl (.tmp 12) (.tmp 18) 24 rfl .i64 3 i0 (.int .i64 0) 8 Tryz.underlying24 HI.out.1 HI.out.2.1 HI.out.2.2.1 HI.out.2.2.2 rfl rfl (HO2.out.alloc _) rfl (nums_new _ _ _ _) (by omega) ?c1 ?c2 ?_)
      case c1 => omega
      case c2 => simp; omega
      intro a3 c3 w3 ho3 hb3
      have HO3 : Hid (Own .i64 3 w3 w.heap.size a3 (j + 1) c3 (tagsX (l.take (j + 1)))) := Lib.hid (by rw [HX.out]; exact ho3)
      have HB3 : Hid (Below w.heap.size w w3) := Lib.hid (HB2.out.trans (((alloc_same wr _).mono hsz).trans hb3))
      clear ho3 hb3 hc0 hc1
      go_wp2_with fail
      go_roundw
      case rel => exact ⟨j + 1, a3, c3, by omega, by go_num, rfl, HO3.out, HB3.out⟩
      case measure => simp [intOf]; omega
    · obtain rfl : j = n := by omega
      go_wp2
      go_ret
      have h1 := HO2.out
      rw [List.take_of_length_le (by rw [hln.out]; omega)] at h1
      exact ⟨_, _, _, rfl, h1, HB2.out⟩
end Go.Proofs.YtcmjadfpifpknaaGreat
