/- Lists of integers are compared: by the program. Lists of versions, by the model: whether a list is one, what two have in common, the greatest common version, the runs. Lists of integers are compared: by the model. Lists of values are compared: by the model. -/
import Derived.Test.YtcpnchjgklemgaaG6
import Derived.Test.YtcpnchjgklemgaaG18
import Derived.Test.YtcpnchjgklemgaaG11
import Derived.Test.YtcpnchjgklemgaaG2
import Derived.Test.YtcpnchjgklemgaaG1
import Derived.Deep.QuietTactic
import Derived.BigQuiet
import Derived.RegionTactic
import Derived.Deep.RegionHeld3
namespace Go.Proofs.Ytcpnchjgklemgaa
open Go.ChangeShapes Go.WideShapes Go.ChangeAt Go.RowKit
set_option linter.unusedVariables false

set_option maxRecDepth 100000 in
theorem equalInts_yes {a b : Option Addr} {n m c d : Nat} {l : List Int} {w : World} (h : Nums .i64 w a n l) (h' : Nums .i64 w b m l) :
    Calls Try.prog 20 #[.slice a n c, .slice b m d] w (Told (.bool true) w) := by
  have H := Lib.hid h
  have H' := Lib.hid h'
  clear h h'
  go_enter Try.func20, Try.ntmps20
  go_wp2_with fail
  refine (slicesEqual_yes H.out H'.out).mono ?_
  rintro e w1 ⟨rfl, hb1⟩
  have HB1 := Lib.hid hb1
  clear hb1
  go_wp2
  go_ret
  exact ⟨rfl, HB1.out⟩
set_option maxRecDepth 100000 in
theorem equalInts_no {a b : Option Addr} {n m c d : Nat} {l l' : List Int} {w : World} (h : Nums .i64 w a n l) (h' : Nums .i64 w b m l') (hne : l ≠ l') :
    Calls Try.prog 20 #[.slice a n c, .slice b m d] w (Told (.bool false) w) := by
  have H := Lib.hid h
  have H' := Lib.hid h'
  have HE := Lib.hid hne
  clear h h' hne
  go_enter Try.func20, Try.ntmps20
  go_wp2_with fail
  refine (slicesEqual_no H.out H'.out HE.out).mono ?_
  rintro e w1 ⟨rfl, hb1⟩
  have HB1 := Lib.hid hb1
  clear hb1
  go_wp2
  go_ret
  exact ⟨rfl, HB1.out⟩
end Go.Proofs.Ytcpnchjgklemgaa
namespace Go.Proofs.Ytcpnchjgklemgaa
open Go.ChangeShapes Go.WideShapes Go.ChangeAt Go.RowKit
set_option linter.unusedVariables false
set_option linter.unusedSimpArgs false

theorem quiet_of12 {P : Program} {f : FuncId} {args : Array Value} {w : World} {n : Nat} {v : Value} (h : Calls P f args (w.drewN n) fun e w' => e = .returned v ∧ w' = w.drewN n) : Calls P f args (w.drewN n) fun e w' => e = .returned v ∧ ∃ m, w' = w.drewN m :=
  h.mono fun _ _ ⟨he, hw⟩ => ⟨he, n, hw⟩
set_option maxHeartbeats 4000000 in
set_option maxRecDepth 100000 in
theorem specAreVersions_any {a : Option Addr} {n c : Nat} {l : List Int} {w : World} (h : Nums .i64 w a n l) :
    Calls Try.prog 58 #[.slice a n c] w (Told (.bool (areV l)) w) := by
  have hn := h.fits
  have H := Lib.hid h
  have HL := Lib.hid h.len
  clear h
  have mixed : Try.prog.follows .mixedOrders = true := by rfl
  go_enter Try.func58, Try.ntmps58
  go_wp2
  go_loopw [3] (fun i wr => ∃ (j : Nat), j ≤ n ∧ i = .int .i64 j ∧ Hid (∃ k : Nat, k < 512 ∧ l.take j = lw k ∧ voW (l.drop j) k = word l) ∧ Hid (Below w.heap.size w wr)) (fun i _ => n - (intOf i).toNat)
  case atStart => exact ⟨0, Nat.zero_le _, rfl, ⟨0, by omega, by rw [List.take_zero]; decide, rfl⟩, Below.refl _ _⟩
  case round =>
    obtain ⟨j, hj, rfl, HQ, HB⟩ := hrel
    by_cases hlt : j < n
    · obtain ⟨ad, x, rfl, hx, hc⟩ := (H.out.same HB.out).at_ hlt
      have HX := Lib.hid hx
      obtain ⟨k, hk, ht, hv⟩ := HQ.out
      rw [voW_step hx] at hv
      have h1 := l1R_b x 1 9
      clear HQ
      by_cases hr : 1 ≤ x ∧ x ≤ 9
      · rw [inBd_yes hr.1 hr.2] at h1
        by_cases hj0 : j = 0
        · have hz : decide (0 < j) = false := decide_eq_false (by omega)
          have hk0 : k = 0 := by
            rw [hj0, List.take_zero] at ht
            exact (lw_zero hk).1 ht.symm
          have hs : (1 ≤ x ∧ x ≤ 9) ∧ k < 2 ^ (x.toNat - 1) := ⟨hr, by rw [hk0]; exact Nat.two_pow_pos _⟩
          rw [voW_yes hs] at hv
          have HE : Hid (∃ k : Nat, k < 512 ∧ l.take (j + 1) = lw k ∧ voW (l.drop (j + 1)) k = word l) := ⟨_, or_lt hk hr, take_lw HX.out hk hs ht, hv⟩
          clear hv ht hk0 hs hr hk hj0 hx
          go_wp2_with fail
          go_quiet (first | (go_at_call 81; exact quiet_of12 (h1 _)))
          go_wp2
          go_roundw
          case rel => exact ⟨j + 1, by omega, by go_num, HE, HB.out.trans (drewN_same _ _ |>.mono HB.out.size)⟩
          case measure => simp [intOf]; omega
        · obtain ⟨i, rfl⟩ : ∃ i, j = i + 1 := ⟨j - 1, by omega⟩
          have hz : (0 : Int) < (i : Int) + 1 := by omega
          obtain ⟨ad2, y, eb, hy, hd⟩ := (H.out.same HB.out).at_ (show i < n by omega)
          cases eb
          have hc2 : wr.cell? ⟨ad.block, ad.off + (i + 1), none⟩ = some (.int .i64 x) := by
            have := hc
            unfold Addr.add at this
            simpa using this
          have h0i : (0 : Int) ≤ (i : Int) + 1 := by omega
          have hlast := take_last hy hk hr ht
          have z1 : ((i + 1 : Nat) : Int) - 1 = (i : Int) := by omega
          clear hy
          by_cases hasc : y < x
          · have hge : ¬ x ≤ y := by omega
            have hs : (1 ≤ x ∧ x ≤ 9) ∧ k < 2 ^ (x.toNat - 1) := ⟨hr, hlast.1 hasc⟩
            rw [voW_yes hs] at hv
            have HE : Hid (∃ k : Nat, k < 512 ∧ l.take (i + 1 + 1) = lw k ∧ voW (l.drop (i + 1 + 1)) k = word l) := ⟨_, or_lt hk hr, take_lw HX.out hk hs ht, hv⟩
            clear hv ht hs hr hk hlast hx hj0
            go_wp2_with fail
            go_quiet (first | (go_at_call 81; exact quiet_of12 (h1 _)))
            go_wp2
            go_roundw
            case rel => exact ⟨i + 1 + 1, by omega, by go_num, HE, HB.out.trans (drewN_same _ _ |>.mono HB.out.size)⟩
            case measure => simp [intOf]; omega
          · have hge : x ≤ y := by omega
            rw [voW_no (fun q => hasc (hlast.2 q.2))] at hv
            have HE : Hid (areV l = false) := areV_no hv.symm
            clear hv ht hr hk hlast hx hj0
            go_wp2_with fail
            go_quiet (first | (go_at_call 81; exact quiet_of12 (h1 _)))
            go_wp2
            go_ret
            exact ⟨by rw [HE.out]; rfl, HB.out.trans (drewN_same _ _ |>.mono HB.out.size)⟩
      · rw [inBd_no hr] at h1
        rw [voW_no (fun q => hr q.1)] at hv
        have HE : Hid (areV l = false) := areV_no hv.symm
        clear hv ht hr hk hx
        go_wp2_with fail
        go_quiet (first | (go_at_call 81; exact quiet_of12 (h1 _)))
        go_wp2
        go_ret
        exact ⟨by rw [HE.out]; rfl, HB.out.trans (drewN_same _ _ |>.mono HB.out.size)⟩
    · obtain rfl : j = n := by omega
      obtain ⟨k, hk, ht, hv⟩ := HQ.out
      have hv2 : word l = k := by
        rw [← HL.out, drop_all] at hv
        exact hv.symm
      rw [← HL.out, List.take_length] at ht
      by_cases h0 : j = 0
      · have HE : Hid (areV l = false) := areV_no (by
          rw [hv2]
          exact (lw_zero hk).1 (by rw [← ht]; exact List.eq_nil_of_length_eq_zero (by rw [HL.out]; exact h0)))
        subst h0
        clear hv hv2 ht hk HQ
        go_wp2
        go_ret
        exact ⟨by rw [HE.out]; rfl, HB.out⟩
      · have HE : Hid (areV l = true) := areV_yes (by
          rw [hv2]
          intro q
          rw [(lw_zero hk).2 q] at ht
          have := HL.out
          rw [ht] at this
          simp at this
          omega)
        have hz : (0 : Int) < (j : Int) := by omega
        have hz2 : decide (0 < j) = true := decide_eq_true (by omega)
        clear hv hv2 ht hk HQ h0
        go_wp2
        go_ret
        exact ⟨by rw [HE.out]; rfl, HB.out⟩
end Go.Proofs.Ytcpnchjgklemgaa
namespace Go.Proofs.Ytcpnchjgklemgaa
open Go.ChangeShapes Go.WideShapes Go.ChangeAt Go.RowKit
set_option linter.unusedVariables false

set_option maxRecDepth 100000 in
theorem specEqualInts_yes {a b : Option Addr} {n m c d : Nat} {l : List Int} {w : World} (h : Nums .i64 w a n l) (h' : Nums .i64 w b m l) :
    Calls Try.prog 90 #[.slice a n c, .slice b m d] w (Told (.bool true) w) := by
  obtain rfl : n = m := by rw [← h.len, ← h'.len]
  have hn := h.fits
  have H := Lib.hid h
  have H' := Lib.hid h'
  clear h h'
  go_enter Try.func90, Try.ntmps90
  go_wp2
  go_loopw [5] (fun i wr => ∃ j : Nat, j ≤ n ∧ i = .int .i64 j ∧ Below w.heap.size w wr) (fun i _ => n - (intOf i).toNat)
  case atStart => exact ⟨0, Nat.zero_le _, rfl, Below.refl _ _⟩
  case round =>
    obtain ⟨j, hj, rfl, hb⟩ := hrel
    have HB := Lib.hid hb
    clear hb
    by_cases hlt : j < n
    · obtain ⟨ad, x, rfl, hx, hc⟩ := (H.out.same HB.out).at_ hlt
      obtain ⟨be, y, rfl, hy, hc'⟩ := (H'.out.same HB.out).at_ hlt
      rw [hx] at hy
      cases hy
      clear hx
      go_wp2
      go_quiet (fail)
      go_wp2
      go_roundw
      case rel => exact ⟨j + 1, by omega, by go_num, HB.out.trans ((drewN_same _ _).mono HB.out.size)⟩
      case measure => simp [intOf]; omega
    · go_wp2
      go_ret
      exact ⟨rfl, HB.out⟩
set_option maxRecDepth 100000 in
theorem specEqualInts_no {a b : Option Addr} {n m c d : Nat} {l l' : List Int} {w : World} (h : Nums .i64 w a n l) (h' : Nums .i64 w b m l') (hne : l ≠ l') :
    Calls Try.prog 90 #[.slice a n c, .slice b m d] w (Told (.bool false) w) := by
  have hn := h.fits
  have hm := h'.fits
  have H := Lib.hid h
  have H' := Lib.hid h'
  have HE := Lib.hid hne
  clear h h' hne
  by_cases hnm : n = m
  · subst hnm
    go_enter Try.func90, Try.ntmps90
    go_wp2
    go_loopw [5] (fun i wr => ∃ j : Nat, j ≤ n ∧ i = .int .i64 j ∧ l.take j = l'.take j ∧ Below w.heap.size w wr) (fun i _ => n - (intOf i).toNat)
    case atStart => exact ⟨0, Nat.zero_le _, rfl, rfl, Below.refl _ _⟩
    case round =>
      obtain ⟨j, hj, rfl, ht, hb⟩ := hrel
      have HB := Lib.hid hb
      have HT := Lib.hid ht
      clear hb ht
      by_cases hlt : j < n
      · obtain ⟨ad, x, rfl, hx, hc⟩ := (H.out.same HB.out).at_ hlt
        obtain ⟨be, y, rfl, hy, hc'⟩ := (H'.out.same HB.out).at_ hlt
        have HX := Lib.hid hx
        have HY := Lib.hid hy
        clear hx hy
        by_cases hxy : x = y
        · subst hxy
          go_wp2
          go_quiet (fail)
          go_wp2
          go_roundw
          case rel => exact ⟨j + 1, by omega, by go_num, by rw [List.take_add_one, List.take_add_one, HX.out, HY.out, HT.out], HB.out.trans ((drewN_same _ _).mono HB.out.size)⟩
          case measure => simp [intOf]; omega
        · have hq : (x != y) = true := by simp [hxy]
          clear hxy
          go_wp2
          go_quiet (fail)
          go_wp2
          go_ret
          exact ⟨rfl, HB.out.trans ((drewN_same _ _).mono HB.out.size)⟩
      · exfalso
        have h1 := HT.out
        rw [List.take_of_length_le (by rw [H.out.len]; omega), List.take_of_length_le (by rw [H'.out.len]; omega)] at h1
        exact HE.out h1
  · have hq : ((n : Int) != (m : Int)) = true := by simp; omega
    clear hnm
    go_enter Try.func90, Try.ntmps90
    go_wp2
    go_ret
    exact ⟨rfl, Below.refl _ _⟩
end Go.Proofs.Ytcpnchjgklemgaa
namespace Go.Proofs.Ytcpnchjgklemgaa
open Go.ChangeShapes Go.WideShapes Go.ChangeAt Go.RowKit
set_option linter.unusedVariables false
set_option linter.unusedSimpArgs false

end Go.Proofs.Ytcpnchjgklemgaa
