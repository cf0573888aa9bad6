/- The hash of the program and that of its model: fold, fold over a list, Hash, KeyedHash. -/
import Derived.Test.YtiaknjeeonlbcaaMem
import Derived.Test.YtiaknjeeonlbcaaHv
import Derived.Deep.QuietTactic
import Derived.BigQuiet
namespace Go.Proofs.Ytiaknjeeonlbcaa
open Go.ChangeShapes Go.WideShapes Go.ChangeAt Go.RowKit
set_option linter.unusedVariables false

/-- A number that an int holds. -/
abbrev Fit64 (x : Int) : Prop := (Lit.int .i64 x).wf = true
theorem fit_mk {x : Int} (h1 : -9223372036854775808 ≤ x) (h2 : x ≤ 9223372036854775807) : Fit64 x := by
  unfold Fit64
  simp [Lit.wf, IntKind.min, IntKind.max, IntKind.signed, IntKind.bits]
  exact ⟨by omega, by omega⟩

theorem tmod_bounds (p q : Int) (h : 1 ≤ q) : -q < p.tmod q ∧ p.tmod q < q := by
  have h1 := Int.tmod_lt_of_pos p (show 0 < q by omega)
  have h2 := Int.tmod_lt_of_pos (-p) (show 0 < q by omega)
  rw [Int.neg_tmod] at h2
  omega
theorem tmod_sub_emod (p q : Int) : p.tmod q - p % q = q * (p / q - p.tdiv q) := by
  have h1 := Int.tmod_def p q
  have h2 := Int.emod_def p q
  rw [Int.mul_sub]
  omega
theorem tmod_neg_emod (p q : Int) (h : 1 ≤ q) (hn : p.tmod q < 0) : p.tmod q + q = p % q := by
  have h1 := Int.emod_nonneg p (show q ≠ 0 by omega)
  have h2 := Int.emod_lt_of_pos p (show 0 < q by omega)
  have b := tmod_bounds p q h
  have h4 := tmod_sub_emod p q
  have h5 : p / q - p.tdiv q = -1 := by
    generalize p / q - p.tdiv q = t at h4
    rcases Int.lt_trichotomy t (-1) with ht | ht | ht
    · have : q * t ≤ q * (-2) := Int.mul_le_mul_of_nonneg_left (by omega) (by omega)
      omega
    · exact ht
    · have : q * 0 ≤ q * t := Int.mul_le_mul_of_nonneg_left (by omega) (by omega)
      omega
  rw [h5] at h4
  omega
theorem tmod_pos_emod (p q : Int) (h : 1 ≤ q) (hn : 0 ≤ p.tmod q) : p.tmod q = p % q := by
  have h1 := Int.emod_nonneg p (show q ≠ 0 by omega)
  have h2 := Int.emod_lt_of_pos p (show 0 < q by omega)
  have b := tmod_bounds p q h
  have h4 := tmod_sub_emod p q
  have h5 : p / q - p.tdiv q = 0 := by
    generalize p / q - p.tdiv q = t at h4
    rcases Int.lt_trichotomy t 0 with ht | ht | ht
    · have : q * t ≤ q * (-1) := Int.mul_le_mul_of_nonneg_left (by omega) (by omega)
      omega
    · exact ht
    · have : q * 1 ≤ q * t := Int.mul_le_mul_of_nonneg_left (by omega) (by omega)
      omega
  rw [h5] at h4
  omega
set_option maxHeartbeats 400000 in
/-- The remainder, in the program and in its model, at a divisor in range. -/
theorem mod_in (p q : Int) (h1 : 1 ≤ q) (h2 : q ≤ 1000000000000) (w0 : Fit64 p) (w : World) :
    Calls Try.prog 56 #[.int .i64 p, .int .i64 q] w fun e w' => e = .returned (.int .i64 (p % q)) ∧ w = w' := by
  have b0 := bounds_i64 w0
  clear w0
  obtain ⟨b1, b2⟩ := tmod_bounds p q h1
  by_cases hn : p.tmod q < 0
  · rw [← tmod_neg_emod p q h1 hn]
    go_enter Try.func56, Try.ntmps56
    go_wp2
    go_ret
    exact ⟨rfl, rfl⟩
  · rw [← tmod_pos_emod p q h1 (by omega)]
    go_enter Try.func56, Try.ntmps56
    go_wp2
    go_ret
    exact ⟨rfl, rfl⟩
set_option maxHeartbeats 400000 in
theorem specMod_in (p q : Int) (h1 : 1 ≤ q) (h2 : q ≤ 1000000000000) (w0 : Fit64 p) (w : World) :
    Calls Try.prog 52 #[.int .i64 p, .int .i64 q] w fun e w' => e = .returned (.int .i64 (p % q)) ∧ w = w' := by
  have b0 := bounds_i64 w0
  clear w0
  obtain ⟨b1, b2⟩ := tmod_bounds p q h1
  have e : (p.tmod q + q) % q = p % q := by
    by_cases hn : p.tmod q < 0
    · rw [tmod_neg_emod p q h1 hn, Int.emod_emod_of_dvd p (Int.dvd_refl q)]
    · rw [tmod_pos_emod p q h1 (by omega), Int.add_emod_right, Int.emod_emod_of_dvd p (Int.dvd_refl q)]
  rw [← e]
  clear e
  go_enter Try.func52, Try.ntmps52
  go_wp2
  go_ret
  exact ⟨rfl, rfl⟩

theorem ret_i64 {a b : Int} (h : a = b) : Ending.returned (.int .i64 a) = .returned (.int .i64 b) := by rw [h]
theorem fold_any (a v : Int) (h0 : 0 ≤ a) (h1 : a < 2147483647) (hv : Fit64 v) (w : World) :
    Calls Try.prog 47 #[.int .i64 a, .int .i64 v] w fun e w' => e = .returned (.int .i64 (hstep a v)) ∧ w = w' := by
  have b1 : 0 ≤ v % 2147483647 := by omega
  have b2 : v % 2147483647 < 2147483647 := by omega
  have HV := Lib.hid hv
  clear hv
  go_enter Try.func47, Try.ntmps47
  go_wp2_with (go_at_call 56; refine (mod_in _ _ (by omega) (by omega) HV.out _).mono ?_; rintro e w' ⟨rfl, rfl⟩)
  go_ret
  exact ⟨rfl, rfl⟩

/-- Every number of a list is one that an int holds. -/
abbrev Fits64 (l : List Int) : Prop := ∀ x ∈ l, Fit64 x
theorem Fits64.get {l : List Int} (h : Fits64 l) {j : Nat} {x : Int} (hx : l[j]? = some x) : Fit64 x := h x (List.mem_of_getElem? hx)

theorem foldAll_any (acc : Int) (a : Option Addr) (n c : Nat) (l : List Int) (w : World) (h0 : 0 ≤ acc) (h1 : acc < 2147483647) (h : Nums .i64 w a n l) (hl : Fits64 l) :
    Calls Try.prog 48 #[.int .i64 acc, .slice a n c] w fun e w' => e = .returned (.int .i64 (hashFrom acc l)) ∧ w = w' := by
  have hn := h.fits
  have H := Lib.hid h
  have HL := Lib.hid hl
  clear h hl
  go_enter Try.func48, Try.ntmps48
  go_wp2
  go_loop [0, 9] (fun v i => ∃ j : Nat, j ≤ n ∧ i = .int .i64 j ∧ v = .int .i64 (hashFrom acc (l.take j))) (fun _ i => n - (intOf i).toNat)
  case atStart => exact ⟨0, Nat.zero_le _, rfl, rfl⟩
  case round =>
    obtain ⟨j, hj, rfl, rfl⟩ := hrel
    obtain ⟨hb0, hb1⟩ := hashFrom_bd (l.take j) acc h0 h1
    by_cases hlt : j < n
    · obtain ⟨ad, x, rfl, hx, hc⟩ := H.out.at_ hlt
      have HX := Lib.hid hx
      clear hx
      go_wp2_with (go_at_call 47; refine (fold_any _ _ hb0 hb1 (HL.out.get HX.out) _).mono ?_; rintro e w' ⟨rfl, rfl⟩)
      go_round
      case rel => exact ⟨j + 1, by omega, by go_num, by rw [hashFrom_take _ _ _ _ HX.out]⟩
      case measure => simp [intOf]; omega
    · obtain rfl : j = n := by omega
      go_wp2
      go_ret
      exact ⟨ret_i64 (by rw [List.take_of_length_le (by have := H.out.len; omega)]), rfl⟩
theorem hash_any (a : Option Addr) (n c : Nat) (l : List Int) (w : World) (h : Nums .i64 w a n l) (hl : Fits64 l) :
    Calls Try.prog 54 #[.slice a n c] w (Told (.int .i64 (hashOf l)) w) := by
  go_enter Try.func54, Try.ntmps54
  go_wp2_with (go_at_call 48; refine (foldAll_any _ _ _ _ _ _ (by omega) (by omega) h hl).mono ?_; rintro e w' ⟨rfl, rfl⟩)
  go_ret
  exact ⟨rfl, Below.refl _ _⟩
theorem keyedHash_same (k : Int) (a : Option Addr) (n c : Nat) (l : List Int) (w : World) (hk : Fit64 k) (h : Nums .i64 w a n l) (hl : Fits64 l) :
    Calls Try.prog 29 #[.int .i64 k, .slice a n c] w fun e w' => e = .returned (.int .i64 (khash k l)) ∧ w = w' := by
  have HK := Lib.hid hk
  have H := Lib.hid h
  have HL := Lib.hid hl
  clear hk h hl
  have b1 := hstep_bd 11 k
  have b2 := hashFrom_bd l (hstep 11 k) b1.1 b1.2
  have B1 := Lib.hid b1
  have B2 := Lib.hid b2
  clear b1 b2
  go_enter Try.func29, Try.ntmps29
  go_wp2_with fail
  refine (fold_any _ _ (by omega) (by omega) HK.out _).mono ?_
  rintro e w' ⟨rfl, rfl⟩
  go_wp2_with fail
  refine (foldAll_any _ _ _ _ _ _ B1.out.1 B1.out.2 H.out HL.out).mono ?_
  rintro e w' ⟨rfl, rfl⟩
  go_wp2_with fail
  refine (fold_any _ _ B2.out.1 B2.out.2 HK.out _).mono ?_
  rintro e w' ⟨rfl, rfl⟩
  go_wp2_with fail
  go_ret
  exact ⟨rfl, rfl⟩
theorem keyedHash_any (k : Int) (a : Option Addr) (n c : Nat) (l : List Int) (w : World) (hk : Fit64 k) (h : Nums .i64 w a n l) (hl : Fits64 l) :
    Calls Try.prog 29 #[.int .i64 k, .slice a n c] w (Told (.int .i64 (khash k l)) w) :=
  (keyedHash_same k a n c l w hk h hl).mono fun e w' ⟨he, hw⟩ => ⟨he, hw ▸ Below.refl _ _⟩
end Go.Proofs.Ytiaknjeeonlbcaa
