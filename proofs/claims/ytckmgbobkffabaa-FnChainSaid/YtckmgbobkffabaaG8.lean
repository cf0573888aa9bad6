/- Ranges as facts, and which tags are reserved: by the program and by the model. A list of versions as a word, by the program: one version's bit, whether it is there, the whole list. -/
import Derived.Test.YtckmgbobkffabaaG7
import Derived.Deep.RegionHeld3
import Derived.Deep.QuietTactic
import Derived.BigQuiet
import Derived.StillTailTactics
import Derived.Handy
import Derived.Test.YtckmgbobkffabaaG6
import Derived.RegionTactic
import Derived.Test.YtckmgbobkffabaaG1
namespace Go.Proofs.Ytckmgbobkffabaa
open Go.ChangeShapes Go.WideShapes Go.ChangeAt Go.RowKit
set_option linter.unusedVariables false

def inBd (n l h : Int) : Bool := decide (l ≤ n ∧ n ≤ h)
theorem inBd_yes {n l h : Int} (h1 : l ≤ n) (h2 : n ≤ h) : inBd n l h = true := decide_eq_true ⟨h1, h2⟩
theorem inBd_no {n l h : Int} (h1 : ¬ (l ≤ n ∧ n ≤ h)) : inBd n l h = false := decide_eq_false h1
theorem inBd_iff {n l h : Int} : inBd n l h = true ↔ l ≤ n ∧ n ≤ h := by unfold inBd; exact decide_eq_true_iff
/-- A reserved tag. -/
def resv (t : Int) : Bool := inBd t 0 255 && (t % 16 == 10)
theorem resv_in {t : Int} (h : resv t = true) : 0 ≤ t ∧ t ≤ 255 := by
 unfold resv at h
 rw [Bool.and_eq_true] at h
 exact inBd_iff.1 h.1
theorem inR_b (n l h : Int) (w : World) : Calls Try.prog 51 #[.int .i64 n, .int .i64 l, .int .i64 h] w fun e w' => e = .returned (.bool (inBd n l h)) ∧ w' = w := (inR_any n l h w).mono fun e' w' ⟨h1, h2⟩ => ⟨h1, h2.symm⟩
theorem l1R_b (n l h : Int) (w : World) : Calls Try.prog 55 #[.int .i64 n, .int .i64 l, .int .i64 h] w fun e w' => e = .returned (.bool (inBd n l h)) ∧ w' = w := (l1R_any n l h w).mono fun e' w' ⟨h1, h2⟩ => ⟨h1, h2.symm⟩
end Go.Proofs.Ytckmgbobkffabaa
namespace Go.Proofs.Ytckmgbobkffabaa
open Go.ChangeShapes Go.WideShapes Go.ChangeAt Go.RowKit
set_option linter.unusedVariables false
set_option linter.unusedSimpArgs false

theorem told_is {f : Nat} {args : Array Value} {v : Value} {w : World} (h : Calls Try.prog f args w fun e w' => e = .returned v ∧ w = w') : Calls Try.prog f args w (Told v w) :=
 h.mono fun _ _ ⟨h1, h2⟩ => ⟨h1, h2 ▸ Below.refl _ _⟩
theorem isVersion_any (n : Int) (w : World) : Calls Try.prog 146 #[.int .i64 n] w fun e w' => e = .returned (.bool (inBd n 1 9)) ∧ w' = w := by
 have H := inR_b n 1 9
 go_enter Try.func146, Try.ntmps146
 go_wp2_with (go_at_call 51; refine (H _).mono ?_; rintro e w' ⟨rfl, rfl⟩)
 go_ret
 exact ⟨rfl, rfl⟩
theorem bitOf_any (v : Int) (h : 1 ≤ v ∧ v ≤ 9) (w : World) : Calls Try.prog 147 #[.int .i64 v] w fun e w' => e = .returned (.int .u16 ((2 ^ (v.toNat - 1) : Nat) : Int)) ∧ w' = w := by
 have h9 : v = 1 ∨ v = 2 ∨ v = 3 ∨ v = 4 ∨ v = 5 ∨ v = 6 ∨ v = 7 ∨ v = 8 ∨ v = 9 := by omega
 clear h
 rcases h9 with rfl | rfl | rfl | rfl | rfl | rfl | rfl | rfl | rfl <;> (go_enter Try.func147, Try.ntmps147; go_wp2; go_ret; exact ⟨rfl, rfl⟩)
theorem bitOf_val {v : Int} {p : Nat} (h : 1 ≤ v ∧ v ≤ 9) (hp : 2 ^ (v.toNat - 1) = p) (w : World) : Calls Try.prog 147 #[.int .i64 v] w fun e w' => e = .returned (.int .u16 (p : Int)) ∧ w' = w := by
 rw [← hp]; exact bitOf_any v h w
set_option maxRecDepth 100000 in
theorem has_any {k : Nat} (hk : k < 512) (n : Int) (w : World) : Calls Try.prog 167 #[.int .u16 (k : Int), .int .i64 n] w fun e w' => e = .returned (.bool (decide (n ∈ lw k))) ∧ w' = w := by
 have H := isVersion_any n
 by_cases h : 1 ≤ n ∧ n ≤ 9
 ·rw [inBd_yes h.1 h.2] at H
  have HW := Lib.hid (word_has hk h)
  obtain ⟨p, hp⟩ : ∃ p : Nat, 2 ^ (n.toNat - 1) = p := ⟨_, rfl⟩
  rw [hp] at HW
  have HB := Lib.hid (bitOf_val h hp)
  clear h hp
  go_enter Try.func167, Try.ntmps167
  go_wp2_with (go_at_call 146; refine (H _).mono ?_; rintro e w' ⟨rfl, rfl⟩)
  go_wp2_with (go_at_call 147; refine (HB.out _).mono ?_; rintro e w' ⟨rfl, rfl⟩)
  go_ret
  exact ⟨by rw [← HW.out]; rfl, rfl⟩
 ·rw [inBd_no h] at H
  have HW : Hid (decide (n ∈ lw k) = false) := Lib.hid (decide_eq_false fun q => h (lw_mem.1 q).1)
  clear h
  go_enter Try.func167, Try.ntmps167
  go_wp2_with (go_at_call 146; refine (H _).mono ?_; rintro e w' ⟨rfl, rfl⟩)
  go_ret
  exact ⟨by rw [HW.out]; rfl, rfl⟩
set_option maxRecDepth 100000 in
set_option maxHeartbeats 1000000 in
theorem versionsOf_any {a : Option Addr} {n c : Nat} {l : List Int} {w : World} (h : Nums .i64 w a n l) :
  Calls Try.prog 138 #[.slice a n c] w fun e w' => e = .returned (.int .u16 (word l : Int)) ∧ w = w' := by
 have H := Lib.hid h
 have hl := Lib.hid h.len
 have hfit := h.fits
 clear h
 go_enter Try.func138, Try.ntmps138
 go_wp2_with fail
 go_loop [3, 5, 8] (fun s _ i => ∃ j k : Nat, j ≤ n ∧ i = .int .i64 j ∧ s = .int .u16 k ∧ k < 512 ∧ voW (l.drop j) k = word l) (fun _ _ i => n - (intOf i).toNat)
 case atStart => exact ⟨0, 0, Nat.zero_le _, rfl, rfl, by omega, rfl⟩
 case round =>
  obtain ⟨j, k, hj, rfl, rfl, hk, hw⟩ := hrel
  have HK := Lib.hid hk
  have HW := Lib.hid hw
  clear hk hw
  by_cases hlt : j < n
  ·obtain ⟨ad, z, rfl, hz, hc⟩ := H.out.at_ hlt
   have HV := isVersion_any z
   have HS := Lib.hid (voW_step hz (w := k))
   clear hz
   by_cases hr : 1 ≤ z ∧ z ≤ 9
   ·rw [inBd_yes hr.1 hr.2] at HV
    obtain ⟨p, hp⟩ : ∃ p : Nat, 2 ^ (z.toNat - 1) = p := ⟨_, rfl⟩
    have HB := Lib.hid (bitOf_val hr hp)
    by_cases hs : k < p
    ·have HO := Lib.hid (word_or HK.out hr)
     rw [hp] at HO
     have HL := Lib.hid (or_lt HK.out hr)
     rw [hp] at HL
     have HY : Hid (voW (l.drop (j + 1)) (k ||| p) = word l) := Lib.hid (by
      rw [← HW.out, HS.out, voW_yes ⟨hr, by rw [hp]; exact hs⟩, hp])
     have hd : decide (p ≤ k) = false := decide_eq_false (by omega)
     obtain ⟨q, hq⟩ : ∃ q : Nat, q = (k ||| p) := ⟨_, rfl⟩
     rw [← hq] at HO HL HY
     have ho := HO.out
     clear hr hp hq hs
     go_wp2_with (go_at_call 146; refine (HV _).mono ?_; rintro e w' ⟨rfl, rfl⟩)
     go_wp2_with (go_at_call 147; refine (HB.out _).mono ?_; rintro e w' ⟨rfl, rfl⟩)
     go_wp2_with (go_at_call 147; refine (HB.out _).mono ?_; rintro e w' ⟨rfl, rfl⟩)
     go_round
     case rel => exact ⟨j + 1, q, by omega, by go_num, rfl, HL.out, HY.out⟩
     case measure => simp [intOf]; omega
    ·have HY : Hid (word l = 0) := Lib.hid (by
      rw [← HW.out, HS.out, voW_no (by rw [hp]; exact fun q => hs q.2)])
     have hd : decide (p ≤ k) = true := decide_eq_true (by omega)
     clear hr hp hs
     go_wp2_with (go_at_call 146; refine (HV _).mono ?_; rintro e w' ⟨rfl, rfl⟩)
     go_wp2_with (go_at_call 147; refine (HB.out _).mono ?_; rintro e w' ⟨rfl, rfl⟩)
     go_ret
     exact ⟨by rw [HY.out]; rfl, rfl⟩
   ·rw [inBd_no hr] at HV
    have HY : Hid (word l = 0) := Lib.hid (by
     rw [← HW.out, HS.out, voW_no (fun q => hr q.1)])
    clear hr
    go_wp2_with (go_at_call 146; refine (HV _).mono ?_; rintro e w' ⟨rfl, rfl⟩)
    go_ret
    exact ⟨by rw [HY.out]; rfl, rfl⟩
  ·obtain rfl : j = n := by omega
   have HY : Hid (word l = k) := Lib.hid (by
    have := HW.out
    rw [← hl.out, drop_all] at this
    exact this.symm)
   go_wp2_with fail
   go_ret
   exact ⟨by rw [HY.out]; rfl, rfl⟩
end Go.Proofs.Ytckmgbobkffabaa
