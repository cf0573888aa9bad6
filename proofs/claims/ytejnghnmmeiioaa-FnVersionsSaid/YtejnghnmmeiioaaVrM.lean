/- Lists of versions, by the model: whether a list is one, what two have in common, the greatest common version, the runs. -/
import Derived.Test.YtejnghnmmeiioaaWd
import Derived.Test.YtejnghnmmeiioaaHas9
import Derived.Test.YtejnghnmmeiioaaIntI
namespace Go.Proofs.Ytejnghnmmeiioaa
open Go.ChangeShapes Go.WideShapes Go.ChangeAt Go.RowKit
set_option linter.unusedVariables false
set_option linter.unusedSimpArgs false

theorem quiet_of12 {P : Program} {f : FuncId} {args : Array Value} {w : World} {n : Nat} {v : Value} (h : Calls P f args (w.drewN n) fun e w' => e = .returned v ∧ w' = w.drewN n) : Calls P f args (w.drewN n) fun e w' => e = .returned v ∧ ∃ m, w' = w.drewN m :=
  h.mono fun _ _ ⟨he, hw⟩ => ⟨he, n, hw⟩
set_option maxHeartbeats 4000000 in
set_option maxRecDepth 100000 in
theorem specAreVersions_any {a : Option Addr} {n c : Nat} {l : List Int} {w : World} (h : Nums .i64 w a n l) :
    Calls Try.prog 14 #[.slice a n c] w (Told (.bool (areV l)) w) := by
  have hn := h.fits
  have H := Lib.hid h
  have HL := Lib.hid h.len
  clear h
  have mixed : Try.prog.follows .mixedOrders = true := by rfl
  go_enter Try.func14, Try.ntmps14
  go_wp2
  go_loopw [3] (fun i wr => ∃ (j : Nat), j ≤ n ∧ i = .int .i64 j ∧ Hid (∃ k : Nat, k < 512 ∧ l.take j = lw k ∧ voW (l.drop j) k = word l) ∧ Hid (Below w.heap.size w wr)) (fun i _ => n - (intOf i).toNat)
  case atStart => exact ⟨0, Nat.zero_le _, rfl, ⟨0, by omega, by rw [List.take_zero]; decide, rfl⟩, Below.refl _ _⟩
  case round =>
    obtain ⟨j, hj, rfl, HQ, HB⟩ := hrel
    by_cases hlt : j < n
    · obtain ⟨ad, x, rfl, hx, hc⟩ := (H.out.same HB.out).at_ hlt
      have HX := Lib.hid hx
      obtain ⟨k, hk, ht, hv⟩ := HQ.out
      rw [voW_step hx] at hv
      have h1 := l1R_b x 1 9
      clear HQ
      by_cases hr : 1 ≤ x ∧ x ≤ 9
      · rw [inB_yes hr.1 hr.2] at h1
        by_cases hj0 : j = 0
        · have hz : decide (0 < j) = false := decide_eq_false (by omega)
          have hk0 : k = 0 := by
            rw [hj0, List.take_zero] at ht
            exact (lw_zero hk).1 ht.symm
          have hs : (1 ≤ x ∧ x ≤ 9) ∧ k < 2 ^ (x.toNat - 1) := ⟨hr, by rw [hk0]; exact Nat.two_pow_pos _⟩
          rw [voW_yes hs] at hv
          have HE : Hid (∃ k : Nat, k < 512 ∧ l.take (j + 1) = lw k ∧ voW (l.drop (j + 1)) k = word l) := ⟨_, or_lt hk hr, take_lw HX.out hk hs ht, hv⟩
          clear hv ht hk0 hs hr hk hj0 hx
          go_wp2_with fail
          go_quiet (first | (go_at_call 35; exact quiet_of12 (h1 _)))
          go_wp2
          go_roundw
          case rel => exact ⟨j + 1, by omega, by go_num, HE, HB.out.trans (drewN_same _ _ |>.mono HB.out.size)⟩
          case measure => simp [intOf]; omega
        · obtain ⟨i, rfl⟩ : ∃ i, j = i + 1 := ⟨j - 1, by omega⟩
          have hz : (0 : Int) < (i : Int) + 1 := by omega
          obtain ⟨ad2, y, eb, hy, hd⟩ := (H.out.same HB.out).at_ (show i < n by omega)
          cases eb
          have hc2 : wr.cell? ⟨ad.block, ad.off + (i + 1), none⟩ = some (.int .i64 x) := by
            have := hc
            unfold Addr.add at this
            simpa using this
          have h0i : (0 : Int) ≤ (i : Int) + 1 := by omega
          have hlast := take_last hy hk hr ht
          have z1 : ((i + 1 : Nat) : Int) - 1 = (i : Int) := by omega
          clear hy
          by_cases hasc : y < x
          · have hge : ¬ x ≤ y := by omega
            have hs : (1 ≤ x ∧ x ≤ 9) ∧ k < 2 ^ (x.toNat - 1) := ⟨hr, hlast.1 hasc⟩
            rw [voW_yes hs] at hv
            have HE : Hid (∃ k : Nat, k < 512 ∧ l.take (i + 1 + 1) = lw k ∧ voW (l.drop (i + 1 + 1)) k = word l) := ⟨_, or_lt hk hr, take_lw HX.out hk hs ht, hv⟩
            clear hv ht hs hr hk hlast hx hj0
            go_wp2_with fail
            go_quiet (first | (go_at_call 35; exact quiet_of12 (h1 _)))
            go_wp2
            go_roundw
            case rel => exact ⟨i + 1 + 1, by omega, by go_num, HE, HB.out.trans (drewN_same _ _ |>.mono HB.out.size)⟩
            case measure => simp [intOf]; omega
          · have hge : x ≤ y := by omega
            rw [voW_no (fun q => hasc (hlast.2 q.2))] at hv
            have HE : Hid (areV l = false) := areV_no hv.symm
            clear hv ht hr hk hlast hx hj0
            go_wp2_with fail
            go_quiet (first | (go_at_call 35; exact quiet_of12 (h1 _)))
            go_wp2
            go_ret
            exact ⟨by rw [HE.out]; rfl, HB.out.trans (drewN_same _ _ |>.mono HB.out.size)⟩
      · rw [inB_no hr] at h1
        rw [voW_no (fun q => hr q.1)] at hv
        have HE : Hid (areV l = false) := areV_no hv.symm
        clear hv ht hr hk hx
        go_wp2_with fail
        go_quiet (first | (go_at_call 35; exact quiet_of12 (h1 _)))
        go_wp2
        go_ret
        exact ⟨by rw [HE.out]; rfl, HB.out.trans (drewN_same _ _ |>.mono HB.out.size)⟩
    · obtain rfl : j = n := by omega
      obtain ⟨k, hk, ht, hv⟩ := HQ.out
      have hv2 : word l = k := by
        rw [← HL.out, drop_all] at hv
        exact hv.symm
      rw [← HL.out, List.take_length] at ht
      by_cases h0 : j = 0
      · have HE : Hid (areV l = false) := areV_no (by
          rw [hv2]
          exact (lw_zero hk).1 (by rw [← ht]; exact List.eq_nil_of_length_eq_zero (by rw [HL.out]; exact h0)))
        subst h0
        clear hv hv2 ht hk HQ
        go_wp2
        go_ret
        exact ⟨by rw [HE.out]; rfl, HB.out⟩
      · have HE : Hid (areV l = true) := areV_yes (by
          rw [hv2]
          intro q
          rw [(lw_zero hk).2 q] at ht
          have := HL.out
          rw [ht] at this
          simp at this
          omega)
        have hz : (0 : Int) < (j : Int) := by omega
        have hz2 : decide (0 < j) = true := decide_eq_true (by omega)
        clear hv hv2 ht hk HQ h0
        go_wp2
        go_ret
        exact ⟨by rw [HE.out]; rfl, HB.out⟩
end Go.Proofs.Ytejnghnmmeiioaa
