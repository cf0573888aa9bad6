/- A list of versions as a word, by the program: one version's bit, whether it is there, the whole list. Lists of values are compared: by the program. Lists of extensions are compared: by the program. Lists of integers are compared: by the program. -/
import Derived.Test.YtcmjadfpifpknaaGreatG13
import Derived.Test.YtcmjadfpifpknaaGreatG11
import Derived.RegionTactic
import Derived.Handy
import Derived.Test.YtcmjadfpifpknaaGreatG3
namespace Go.Proofs.YtcmjadfpifpknaaGreat
open Go.ChangeShapes Go.WideShapes Go.ChangeAt Go.RowKit
set_option linter.unusedVariables false
set_option linter.unusedSimpArgs false

theorem told_is {f : Nat} {args : Array Value} {v : Value} {w : World} (h : Calls Tryz.prog f args w fun e w' => e = .returned v ∧ w = w') : Calls Tryz.prog f args w (Told v w) :=
  h.mono fun _ _ ⟨h1, h2⟩ => ⟨h1, h2 ▸ Below.refl _ _⟩
theorem isVersion_any (n : Int) (w : World) : Calls Tryz.prog 62 #[.int .i64 n] w fun e w' => e = .returned (.bool (inBd n 1 9)) ∧ w' = w := by
  have H := inR_b n 1 9
  go_enter Tryz.func62, Tryz.ntmps62
  go_wp2_with (go_at_call 55; refine (H _).mono ?_; rintro e w' ⟨rfl, rfl⟩)
  go_ret
  exact ⟨rfl, rfl⟩
theorem bitOf_any (v : Int) (h : 1 ≤ v ∧ v ≤ 9) (w : World) : Calls Tryz.prog 96 #[.int .i64 v] w fun e w' => e = .returned (.int .u16 ((2 ^ (v.toNat - 1) : Nat) : Int)) ∧ w' = w := by
  have h9 : v = 1 ∨ v = 2 ∨ v = 3 ∨ v = 4 ∨ v = 5 ∨ v = 6 ∨ v = 7 ∨ v = 8 ∨ v = 9 := by omega
  clear h
  rcases h9 with rfl | rfl | rfl | rfl | rfl | rfl | rfl | rfl | rfl <;> (go_enter Tryz.func96, Tryz.ntmps96; go_wp2; go_ret; exact ⟨rfl, rfl⟩)
theorem bitOf_val {v : Int} {p : Nat} (h : 1 ≤ v ∧ v ≤ 9) (hp : 2 ^ (v.toNat - 1) = p) (w : World) : Calls Tryz.prog 96 #[.int .i64 v] w fun e w' => e = .returned (.int .u16 (p : Int)) ∧ w' = w := by
  rw [← hp]; exact bitOf_any v h w
set_option maxRecDepth 100000 in
theorem has_any {k : Nat} (hk : k < 512) (n : Int) (w : World) : Calls Tryz.prog 161 #[.int .u16 (k : Int), .int .i64 n] w fun e w' => e = .returned (.bool (decide (n ∈ lw k))) ∧ w' = w := by
  have H := isVersion_any n
  by_cases h : 1 ≤ n ∧ n ≤ 9
  · rw [inBd_yes h.1 h.2] at H
    have HW := Lib.hid (word_has hk h)
    obtain ⟨p, hp⟩ : ∃ p : Nat, 2 ^ (n.toNat - 1) = p := ⟨_, rfl⟩
    rw [hp] at HW
    have HB := Lib.hid (bitOf_val h hp)
    clear h hp
    go_enter Tryz.func161, Tryz.ntmps161
    go_wp2_with (go_at_call 62; refine (H _).mono ?_; rintro e w' ⟨rfl, rfl⟩)
    go_wp2_with (go_at_call 96; refine (HB.out _).mono ?_; rintro e w' ⟨rfl, rfl⟩)
    go_ret
    exact ⟨by rw [← HW.out]; rfl, rfl⟩
  · rw [inBd_no h] at H
    have HW : Hid (decide (n ∈ lw k) = false) := Lib.hid (decide_eq_false fun q => h (lw_mem.1 q).1)
    clear h
    go_enter Tryz.func161, Tryz.ntmps161
    go_wp2_with (go_at_call 62; refine (H _).mono ?_; rintro e w' ⟨rfl, rfl⟩)
    go_ret
    exact ⟨by rw [HW.out]; rfl, rfl⟩
set_option maxRecDepth 100000 in
set_option maxHeartbeats 1000000 in
theorem versionsOf_any {a : Option Addr} {n c : Nat} {l : List Int} {w : World} (h : Nums .i64 w a n l) :
    Calls Tryz.prog 49 #[.slice a n c] w fun e w' => e = .returned (.int .u16 (word l : Int)) ∧ w = w' := by
  have H := Lib.hid h
  have hl := Lib.hid h.len
  have hfit := h.fits
  clear h
  go_enter Tryz.func49, Tryz.ntmps49
  go_wp2_with fail
  go_loop [3, 5, 8] (fun s _ i => ∃ j k : Nat, j ≤ n ∧ i = .int .i64 j ∧ s = .int .u16 k ∧ k < 512 ∧ voW (l.drop j) k = word l) (fun _ _ i => n - (intOf i).toNat)
  case atStart => exact ⟨0, 0, Nat.zero_le _, rfl, rfl, by omega, rfl⟩
  case round =>
    obtain ⟨j, k, hj, rfl, rfl, hk, hw⟩ := hrel
    have HK := Lib.hid hk
    have HW := Lib.hid hw
    clear hk hw
    by_cases hlt : j < n
    · obtain ⟨ad, z, rfl, hz, hc⟩ := H.out.at_ hlt
      have HV := isVersion_any z
      have HS := Lib.hid (voW_step hz (w := k))
      clear hz
      by_cases hr : 1 ≤ z ∧ z ≤ 9
      · rw [inBd_yes hr.1 hr.2] at HV
        obtain ⟨p, hp⟩ : ∃ p : Nat, 2 ^ (z.toNat - 1) = p := ⟨_, rfl⟩
        have HB := Lib.hid (bitOf_val hr hp)
        by_cases hs : k < p
        · have HO := Lib.hid (word_or HK.out hr)
          rw [hp] at HO
          have HL := Lib.hid (or_lt HK.out hr)
          rw [hp] at HL
          have HY : Hid (voW (l.drop (j + 1)) (k ||| p) = word l) := Lib.hid (by
            rw [← HW.out, HS.out, voW_yes ⟨hr, by rw [hp]; exact hs⟩, hp])
          have hd : decide (p ≤ k) = false := decide_eq_false (by omega)
          obtain ⟨q, hq⟩ : ∃ q : Nat, q = (k ||| p) := ⟨_, rfl⟩
          rw [← hq] at HO HL HY
          have ho := HO.out
          clear hr hp hq hs
          go_wp2_with (go_at_call 62; refine (HV _).mono ?_; rintro e w' ⟨rfl, rfl⟩)
          go_wp2_with (go_at_call 96; refine (HB.out _).mono ?_; rintro e w' ⟨rfl, rfl⟩)
          go_wp2_with (go_at_call 96; refine (HB.out _).mono ?_; rintro e w' ⟨rfl, rfl⟩)
          go_round
          case rel => exact ⟨j + 1, q, by omega, by go_num, rfl, HL.out, HY.out⟩
          case measure => simp [intOf]; omega
        · have HY : Hid (word l = 0) := Lib.hid (by
            rw [← HW.out, HS.out, voW_no (by rw [hp]; exact fun q => hs q.2)])
          have hd : decide (p ≤ k) = true := decide_eq_true (by omega)
          clear hr hp hs
          go_wp2_with (go_at_call 62; refine (HV _).mono ?_; rintro e w' ⟨rfl, rfl⟩)
          go_wp2_with (go_at_call 96; refine (HB.out _).mono ?_; rintro e w' ⟨rfl, rfl⟩)
          go_ret
          exact ⟨by rw [HY.out]; rfl, rfl⟩
      · rw [inBd_no hr] at HV
        have HY : Hid (word l = 0) := Lib.hid (by
          rw [← HW.out, HS.out, voW_no (fun q => hr q.1)])
        clear hr
        go_wp2_with (go_at_call 62; refine (HV _).mono ?_; rintro e w' ⟨rfl, rfl⟩)
        go_ret
        exact ⟨by rw [HY.out]; rfl, rfl⟩
    · obtain rfl : j = n := by omega
      have HY : Hid (word l = k) := Lib.hid (by
        have := HW.out
        rw [← hl.out, drop_all] at this
        exact this.symm)
      go_wp2_with fail
      go_ret
      exact ⟨by rw [HY.out]; rfl, rfl⟩
theorem areVersions_any {a : Option Addr} {n c : Nat} {l : List Int} {w : World} (h : Nums .i64 w a n l) :
    Calls Tryz.prog 53 #[.slice a n c] w fun e w' => e = .returned (.bool (areV l)) ∧ w = w' := by
  have H := Lib.hid (versionsOf_any (c := c) h)
  clear h
  by_cases q : word l = 0
  · rw [areV_no q]
    rw [q] at H
    clear q
    go_enter Tryz.func53, Tryz.ntmps53
    go_wp2_with (go_at_call 49; refine H.out.mono ?_; rintro e w' ⟨rfl, rfl⟩)
    go_ret
    exact ⟨rfl, rfl⟩
  · rw [areV_yes q]
    have hq : ((word l : Int) != 0) = true := by simpa using q
    clear q
    go_enter Tryz.func53, Tryz.ntmps53
    go_wp2_with (go_at_call 49; refine H.out.mono ?_; rintro e w' ⟨rfl, rfl⟩)
    go_ret
    exact ⟨by simp, rfl⟩
end Go.Proofs.YtcmjadfpifpknaaGreat
namespace Go.Proofs.YtcmjadfpifpknaaGreat
open Go.ChangeShapes Go.WideShapes Go.ChangeAt Go.RowKit
set_option linter.unusedVariables false

theorem vl_ne {x y : Vl} (h : x ≠ y) : ¬ (x.num = y.num ∧ x.items = y.items) := fun e => h (by
  obtain ⟨a, b⟩ := x
  obtain ⟨c, d⟩ := y
  simp only at e
  rw [e.1, e.2])
end Go.Proofs.YtcmjadfpifpknaaGreat

namespace Go.Proofs.YtcmjadfpifpknaaGreat
open Go.ChangeShapes Go.WideShapes Go.ChangeAt Go.RowKit
set_option linter.unusedVariables false

end Go.Proofs.YtcmjadfpifpknaaGreat
namespace Go.Proofs.YtcmjadfpifpknaaGreat
open Go.ChangeShapes Go.WideShapes Go.ChangeAt Go.RowKit
set_option linter.unusedVariables false

set_option maxRecDepth 100000 in
theorem equalInts_yes {a b : Option Addr} {n m c d : Nat} {l : List Int} {w : World} (h : Nums .i64 w a n l) (h' : Nums .i64 w b m l) :
    Calls Tryz.prog 48 #[.slice a n c, .slice b m d] w (Told (.bool true) w) := by
  have H := Lib.hid h
  have H' := Lib.hid h'
  clear h h'
  go_enter Tryz.func48, Tryz.ntmps48
  go_wp2_with fail
  refine (slicesEqual_yes H.out H'.out).mono ?_
  rintro e w1 ⟨rfl, hb1⟩
  have HB1 := Lib.hid hb1
  clear hb1
  go_wp2
  go_ret
  exact ⟨rfl, HB1.out⟩
set_option maxRecDepth 100000 in
theorem equalInts_no {a b : Option Addr} {n m c d : Nat} {l l' : List Int} {w : World} (h : Nums .i64 w a n l) (h' : Nums .i64 w b m l') (hne : l ≠ l') :
    Calls Tryz.prog 48 #[.slice a n c, .slice b m d] w (Told (.bool false) w) := by
  have H := Lib.hid h
  have H' := Lib.hid h'
  have HE := Lib.hid hne
  clear h h' hne
  go_enter Tryz.func48, Tryz.ntmps48
  go_wp2_with fail
  refine (slicesEqual_no H.out H'.out HE.out).mono ?_
  rintro e w1 ⟨rfl, hb1⟩
  have HB1 := Lib.hid hb1
  clear hb1
  go_wp2
  go_ret
  exact ⟨rfl, HB1.out⟩
end Go.Proofs.YtcmjadfpifpknaaGreat
