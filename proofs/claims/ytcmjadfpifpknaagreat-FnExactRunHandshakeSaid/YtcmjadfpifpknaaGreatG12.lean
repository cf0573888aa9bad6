/- The hash of the program and that of its model: fold, fold over a list, Hash, KeyedHash. The helpers of the exact laws at slices of bytes: copied, compared, marked, looked at. The helpers of the exact laws at slices of integers: marked, looked at. The hash of the model; valid keys; bytes as integers, in the program and in its model. -/
import Derived.Test.YtcmjadfpifpknaaGreatG1
import Derived.Test.YtcmjadfpifpknaaGreatG11
import Derived.Deep.QuietTactic
import Derived.BigQuiet
import Derived.RegionTactic
import Derived.Test.YtcmjadfpifpknaaGreatG5
namespace Go.Proofs.YtcmjadfpifpknaaGreat
open Go.ChangeShapes Go.WideShapes Go.ChangeAt Go.RowKit
set_option linter.unusedVariables false

/-- A number that an int holds. -/
abbrev Fit64 (x : Int) : Prop := (Lit.int .i64 x).wf = true
theorem fit_mk {x : Int} (h1 : -9223372036854775808 ≤ x) (h2 : x ≤ 9223372036854775807) : Fit64 x := by
  unfold Fit64
  simp [Lit.wf, IntKind.min, IntKind.max, IntKind.signed, IntKind.bits]
  exact ⟨by omega, by omega⟩

theorem tmod_bounds (p q : Int) (h : 1 ≤ q) : -q < p.tmod q ∧ p.tmod q < q := by
  have h1 := Int.tmod_lt_of_pos p (show 0 < q by omega)
  have h2 := Int.tmod_lt_of_pos (-p) (show 0 < q by omega)
  rw [Int.neg_tmod] at h2
  omega
theorem tmod_sub_emod (p q : Int) : p.tmod q - p % q = q * (p / q - p.tdiv q) := by
  have h1 := Int.tmod_def p q
  have h2 := Int.emod_def p q
  rw [Int.mul_sub]
  omega
theorem tmod_neg_emod (p q : Int) (h : 1 ≤ q) (hn : p.tmod q < 0) : p.tmod q + q = p % q := by
  have h1 := Int.emod_nonneg p (show q ≠ 0 by omega)
  have h2 := Int.emod_lt_of_pos p (show 0 < q by omega)
  have b := tmod_bounds p q h
  have h4 := tmod_sub_emod p q
  have h5 : p / q - p.tdiv q = -1 := by
    generalize p / q - p.tdiv q = t at h4
    rcases Int.lt_trichotomy t (-1) with ht | ht | ht
    · have : q * t ≤ q * (-2) := Int.mul_le_mul_of_nonneg_left (by omega) (by omega)
      omega
    · exact ht
    · have : q * 0 ≤ q * t := Int.mul_le_mul_of_nonneg_left (by omega) (by omega)
      omega
  rw [h5] at h4
  omega
theorem tmod_pos_emod (p q : Int) (h : 1 ≤ q) (hn : 0 ≤ p.tmod q) : p.tmod q = p % q := by
  have h1 := Int.emod_nonneg p (show q ≠ 0 by omega)
  have h2 := Int.emod_lt_of_pos p (show 0 < q by omega)
  have b := tmod_bounds p q h
  have h4 := tmod_sub_emod p q
  have h5 : p / q - p.tdiv q = 0 := by
    generalize p / q - p.tdiv q = t at h4
    rcases Int.lt_trichotomy t 0 with ht | ht | ht
    · have : q * t ≤ q * (-1) := Int.mul_le_mul_of_nonneg_left (by omega) (by omega)
      omega
    · exact ht
    · have : q * 1 ≤ q * t := Int.mul_le_mul_of_nonneg_left (by omega) (by omega)
      omega
  rw [h5] at h4
  omega
set_option maxHeartbeats 400000 in
/-- The remainder, in the program and in its model, at a divisor in range. -/
theorem mod_in (p q : Int) (h1 : 1 ≤ q) (h2 : q ≤ 1000000000000) (w0 : Fit64 p) (w : World) :
    Calls Tryz.prog 166 #[.int .i64 p, .int .i64 q] w fun e w' => e = .returned (.int .i64 (p % q)) ∧ w = w' := by
  have b0 := bounds_i64 w0
  clear w0
  obtain ⟨b1, b2⟩ := tmod_bounds p q h1
  by_cases hn : p.tmod q < 0
  · rw [← tmod_neg_emod p q h1 hn]
    go_enter Tryz.func166, Tryz.ntmps166
    go_wp2
    go_ret
    exact ⟨rfl, rfl⟩
  · rw [← tmod_pos_emod p q h1 (by omega)]
    go_enter Tryz.func166, Tryz.ntmps166
    go_wp2
    go_ret
    exact ⟨rfl, rfl⟩
set_option maxHeartbeats 400000 in
theorem specMod_in (p q : Int) (h1 : 1 ≤ q) (h2 : q ≤ 1000000000000) (w0 : Fit64 p) (w : World) :
    Calls Tryz.prog 163 #[.int .i64 p, .int .i64 q] w fun e w' => e = .returned (.int .i64 (p % q)) ∧ w = w' := by
  have b0 := bounds_i64 w0
  clear w0
  obtain ⟨b1, b2⟩ := tmod_bounds p q h1
  have e : (p.tmod q + q) % q = p % q := by
    by_cases hn : p.tmod q < 0
    · rw [tmod_neg_emod p q h1 hn, Int.emod_emod_of_dvd p (Int.dvd_refl q)]
    · rw [tmod_pos_emod p q h1 (by omega), Int.add_emod_right, Int.emod_emod_of_dvd p (Int.dvd_refl q)]
  rw [← e]
  clear e
  go_enter Tryz.func163, Tryz.ntmps163
  go_wp2
  go_ret
  exact ⟨rfl, rfl⟩

theorem ret_i64 {a b : Int} (h : a = b) : Ending.returned (.int .i64 a) = .returned (.int .i64 b) := by rw [h]
theorem fold_any (a v : Int) (h0 : 0 ≤ a) (h1 : a < 2147483647) (hv : Fit64 v) (w : World) :
    Calls Tryz.prog 151 #[.int .i64 a, .int .i64 v] w fun e w' => e = .returned (.int .i64 (hstep a v)) ∧ w = w' := by
  have b1 : 0 ≤ v % 2147483647 := by omega
  have b2 : v % 2147483647 < 2147483647 := by omega
  have HV := Lib.hid hv
  clear hv
  go_enter Tryz.func151, Tryz.ntmps151
  go_wp2_with (go_at_call 166; refine (mod_in _ _ (by omega) (by omega) HV.out _).mono ?_; rintro e w' ⟨rfl, rfl⟩)
  go_ret
  exact ⟨rfl, rfl⟩

/-- Every number of a list is one that an int holds. -/
abbrev Fits64 (l : List Int) : Prop := ∀ x ∈ l, Fit64 x
theorem Fits64.get {l : List Int} (h : Fits64 l) {j : Nat} {x : Int} (hx : l[j]? = some x) : Fit64 x := h x (List.mem_of_getElem? hx)

theorem foldAll_any (acc : Int) (a : Option Addr) (n c : Nat) (l : List Int) (w : World) (h0 : 0 ≤ acc) (h1 : acc < 2147483647) (h : Nums .i64 w a n l) (hl : Fits64 l) :
    Calls Tryz.prog 152 #[.int .i64 acc, .slice a n c] w fun e w' => e = .returned (.int .i64 (hashFrom acc l)) ∧ w = w' := by
  have hn := h.fits
  have H := Lib.hid h
  have HL := Lib.hid hl
  clear h hl
  go_enter Tryz.func152, Tryz.ntmps152
  go_wp2
  go_loop [0, 9] (fun v i => ∃ j : Nat, j ≤ n ∧ i = .int .i64 j ∧ v = .int .i64 (hashFrom acc (l.take j))) (fun _ i => n - (intOf i).toNat)
  case atStart => exact ⟨0, Nat.zero_le _, rfl, rfl⟩
  case round =>
    obtain ⟨j, hj, rfl, rfl⟩ := hrel
    obtain ⟨hb0, hb1⟩ := hashFrom_bd (l.take j) acc h0 h1
    by_cases hlt : j < n
    · obtain ⟨ad, x, rfl, hx, hc⟩ := H.out.at_ hlt
      have HX := Lib.hid hx
      clear hx
      go_wp2_with (go_at_call 151; refine (fold_any _ _ hb0 hb1 (HL.out.get HX.out) _).mono ?_; rintro e w' ⟨rfl, rfl⟩)
      go_round
      case rel => exact ⟨j + 1, by omega, by go_num, by rw [hashFrom_take _ _ _ _ HX.out]⟩
      case measure => simp [intOf]; omega
    · obtain rfl : j = n := by omega
      go_wp2
      go_ret
      exact ⟨ret_i64 (by rw [List.take_of_length_le (by have := H.out.len; omega)]), rfl⟩
theorem hash_any (a : Option Addr) (n c : Nat) (l : List Int) (w : World) (h : Nums .i64 w a n l) (hl : Fits64 l) :
    Calls Tryz.prog 168 #[.slice a n c] w (Told (.int .i64 (hashOf l)) w) := by
  go_enter Tryz.func168, Tryz.ntmps168
  go_wp2_with (go_at_call 152; refine (foldAll_any _ _ _ _ _ _ (by omega) (by omega) h hl).mono ?_; rintro e w' ⟨rfl, rfl⟩)
  go_ret
  exact ⟨rfl, Below.refl _ _⟩
theorem keyedHash_same (k : Int) (a : Option Addr) (n c : Nat) (l : List Int) (w : World) (hk : Fit64 k) (h : Nums .i64 w a n l) (hl : Fits64 l) :
    Calls Tryz.prog 133 #[.int .i64 k, .slice a n c] w fun e w' => e = .returned (.int .i64 (khash k l)) ∧ w = w' := by
  have HK := Lib.hid hk
  have H := Lib.hid h
  have HL := Lib.hid hl
  clear hk h hl
  have b1 := hstep_bd 11 k
  have b2 := hashFrom_bd l (hstep 11 k) b1.1 b1.2
  have B1 := Lib.hid b1
  have B2 := Lib.hid b2
  clear b1 b2
  go_enter Tryz.func133, Tryz.ntmps133
  go_wp2_with fail
  refine (fold_any _ _ (by omega) (by omega) HK.out _).mono ?_
  rintro e w' ⟨rfl, rfl⟩
  go_wp2_with fail
  refine (foldAll_any _ _ _ _ _ _ B1.out.1 B1.out.2 H.out HL.out).mono ?_
  rintro e w' ⟨rfl, rfl⟩
  go_wp2_with fail
  refine (fold_any _ _ B2.out.1 B2.out.2 HK.out _).mono ?_
  rintro e w' ⟨rfl, rfl⟩
  go_wp2_with fail
  go_ret
  exact ⟨rfl, rfl⟩
theorem keyedHash_any (k : Int) (a : Option Addr) (n c : Nat) (l : List Int) (w : World) (hk : Fit64 k) (h : Nums .i64 w a n l) (hl : Fits64 l) :
    Calls Tryz.prog 133 #[.int .i64 k, .slice a n c] w (Told (.int .i64 (khash k l)) w) :=
  (keyedHash_same k a n c l w hk h hl).mono fun e w' ⟨he, hw⟩ => ⟨he, hw ▸ Below.refl _ _⟩
end Go.Proofs.YtcmjadfpifpknaaGreat
namespace Go.Proofs.YtcmjadfpifpknaaGreat
open Go.ChangeShapes Go.WideShapes Go.ChangeAt Go.RowKit
set_option linter.unusedVariables false

theorem infoByteS : (Tryz.prog.info? 5).map (fun i => (i.zero, i.size, i.bytes)) = some (some (.int .u8 0), 1, 1) := by kernel_rfl

/-- k elements are copied, the others are 0 still. -/
def fillByteS (l : List Int) (j n : Nat) : List Value := ((l.take j ++ List.replicate (n - j) 0).map (Value.int .u8))
theorem fillByteS_zero (l : List Int) (n : Nat) : fillByteS l 0 n = List.replicate n (.int .u8 0) := by unfold fillByteS; simp
theorem fillByteS_all (l : List Int) : fillByteS l l.length l.length = l.map (Value.int .u8) := by unfold fillByteS; simp
theorem fillByteS_step {l : List Int} {j : Nat} {x : Int} (hj : l[j]? = some x) {n : Nat} (hn : l.length = n) : (fillByteS l j n).set j (.int .u8 x) = fillByteS l (j + 1) n := by
  have hlt : j < l.length := by
    rcases Nat.lt_or_ge j l.length with h | h
    · exact h
    · rw [List.getElem?_eq_none h] at hj; cases hj
  unfold fillByteS
  rw [← List.map_set]
  congr 1
  have hl : (l.take j).length = j := by rw [List.length_take]; omega
  rw [List.set_append_right _ _ (by omega), hl, Nat.sub_self, show n - j = (n - (j + 1)) + 1 by omega, List.replicate_succ, List.set_cons_zero, List.take_add_one, hj]
  simp

/-- The marks that are laid: each one more than the one before. -/
def marksByteS (j n : Nat) : List Int := (List.range n).map fun i => (((j + i) % 256 : Nat) : Int)
theorem marksByteS_len (j n : Nat) : (marksByteS j n).length = n := by simp [marksByteS]
theorem marksByteS_get {j n i : Nat} (h : i < n) : (marksByteS j n)[i]? = some ((((j + i) % 256 : Nat) : Int)) := by unfold marksByteS; simp [h]
def partByteS (j0 j n : Nat) (l : List Int) : List Value := ((marksByteS j0 j ++ l.drop j).map (Value.int .u8))
theorem partByteS_zero (j0 n : Nat) (l : List Int) : partByteS j0 0 n l = l.map (Value.int .u8) := by simp [partByteS, marksByteS]
theorem partByteS_all (j0 n : Nat) (l : List Int) (h : l.length = n) : partByteS j0 n n l = (marksByteS j0 n).map (Value.int .u8) := by
  unfold partByteS
  rw [List.drop_eq_nil_of_le (by omega), List.append_nil]
theorem partByteS_step {l : List Int} {i n : Nat} (j : Nat) (hi : i < n) (hn : l.length = n) : (partByteS j i n l).set i (.int .u8 ((((j + i) % 256 : Nat) : Int))) = partByteS j (i + 1) n l := by
  unfold partByteS
  rw [← List.map_set]
  congr 1
  rw [List.set_append_right _ _ (by rw [marksByteS_len]; omega), marksByteS_len, Nat.sub_self, List.drop_eq_getElem_cons (by omega), List.set_cons_zero]
  simp [marksByteS, List.range_succ]

end Go.Proofs.YtcmjadfpifpknaaGreat
namespace Go.Proofs.YtcmjadfpifpknaaGreat
open Go.ChangeShapes Go.WideShapes Go.ChangeAt Go.RowKit
set_option linter.unusedVariables false

/-- The marks that are laid: each one more than the one before. -/
def marksIntS (j n : Nat) : List Int := (List.range n).map fun i => ((j + i : Nat) : Int)
theorem marksIntS_len (j n : Nat) : (marksIntS j n).length = n := by simp [marksIntS]
theorem marksIntS_get {j n i : Nat} (h : i < n) : (marksIntS j n)[i]? = some (((j + i : Nat) : Int)) := by unfold marksIntS; simp [h]
def partIntS (j0 j n : Nat) (l : List Int) : List Value := ((marksIntS j0 j ++ l.drop j).map (Value.int .i64))
theorem partIntS_zero (j0 n : Nat) (l : List Int) : partIntS j0 0 n l = l.map (Value.int .i64) := by simp [partIntS, marksIntS]
theorem partIntS_all (j0 n : Nat) (l : List Int) (h : l.length = n) : partIntS j0 n n l = (marksIntS j0 n).map (Value.int .i64) := by
  unfold partIntS
  rw [List.drop_eq_nil_of_le (by omega), List.append_nil]
theorem partIntS_step {l : List Int} {i n : Nat} (j : Nat) (hi : i < n) (hn : l.length = n) : (partIntS j i n l).set i (.int .i64 (((j + i : Nat) : Int))) = partIntS j (i + 1) n l := by
  unfold partIntS
  rw [← List.map_set]
  congr 1
  rw [List.set_append_right _ _ (by rw [marksIntS_len]; omega), marksIntS_len, Nat.sub_self, List.drop_eq_getElem_cons (by omega), List.set_cons_zero]
  simp [marksIntS, List.range_succ]

set_option maxRecDepth 100000 in
theorem markIntS_any (B : Nat) (a : Option Addr) (n c j0 : Nat) (l : List Int) (w : World) (h : Own .i64 3 w B a n c l) (h0 : j0 ≤ 1000000000000) (hn : n ≤ 1000000000000) :
    Calls Tryz.prog 32 #[.slice a n c, .int .i64 j0] w fun e w' => e = .returned (.int .i64 ((j0 + n : Nat) : Int)) ∧ Own .i64 3 w' B a n c (marksIntS j0 n) ∧ w.grownBy w' (Value.ownBlock (.slice a n c)) := by
  have H := Lib.hid h
  clear h
  go_enter Tryz.func32, Tryz.ntmps32
  go_wp2
  go_loopw [1, 5] (fun q i wr => ∃ j : Nat, j ≤ n ∧ i = .int .i64 j ∧ q = .int .i64 ((j0 + j : Nat) : Int) ∧ wr.ownsRow B 3 1 (.slice a n c) n (partIntS j0 j n l) ∧ w.grownBy wr (Value.ownBlock (.slice a n c))) (fun _ i _ => n - (intOf i).toNat)
  case atStart => exact ⟨0, Nat.zero_le _, rfl, rfl, by rw [partIntS_zero]; exact H.out.2, grown_below (Below.refl _ _) _⟩
  case round =>
    obtain ⟨i, hi, rfl, rfl, hown, hg⟩ := hrel
    have HO := Lib.hid hown
    have HG := Lib.hid hg
    clear hown hg
    by_cases hlt : i < n
    · obtain ⟨g, e, _, _⟩ := H.out.head (by omega)
      subst e
      have hf := HO.out.frozenAt i
      obtain ⟨u, hu⟩ : ∃ u, wr.cell? ⟨g, i, none⟩ = some u := by
        rw [HO.out.cellAt i (by omega)]
        have : i < (partIntS j0 i n l).length := by rw [HO.out.1]; omega
        exact ⟨_, List.getElem?_eq_getElem this⟩
      go_wp2
      go_roundw
      case rel =>
        have hs := HO.out.stored i (.int .i64 (((j0 + i : Nat) : Int)))
        rw [partIntS_step _ hlt H.out.len] at hs
        exact ⟨i + 1, by omega, by go_num, by go_num, hs.1, HG.out.trans hs.2⟩
      case measure => simp [intOf]; omega
    · obtain rfl : i = n := by omega
      go_wp2
      go_ret
      have h1 := HO.out
      rw [partIntS_all _ _ _ H.out.len] at h1
      exact ⟨rfl, ⟨marksIntS_len _ _, h1⟩, HG.out⟩

set_option maxRecDepth 100000 in
theorem heldIntS_any (a : Option Addr) (n c j0 : Nat) (w : World) (h : Nums .i64 w a n (marksIntS j0 n)) (h0 : j0 ≤ 1000000000000) (hn : n ≤ 1000000000000) :
    Calls Tryz.prog 82 #[.slice a n c, .int .i64 j0] w (Told (.int .i64 ((j0 + n : Nat) : Int)) w) := by
  have H := Lib.hid h
  clear h
  go_enter Tryz.func82, Tryz.ntmps82
  go_wp2
  go_loop [1, 5] (fun q i => ∃ j : Nat, j ≤ n ∧ i = .int .i64 j ∧ q = .int .i64 ((j0 + j : Nat) : Int)) (fun _ i => n - (intOf i).toNat)
  case atStart => exact ⟨0, Nat.zero_le _, rfl, rfl⟩
  case round =>
    obtain ⟨i, hi, rfl, rfl⟩ := hrel
    by_cases hlt : i < n
    · obtain ⟨ad, x, rfl, hx, hc⟩ := H.out.at_ hlt
      rw [marksIntS_get hlt] at hx
      cases hx
      go_wp2
      go_round
      case rel => exact ⟨i + 1, by omega, by go_num, by go_num⟩
      case measure => simp [intOf]; omega
    · obtain rfl : i = n := by omega
      go_wp2
      go_ret
      exact ⟨rfl, Below.refl _ _⟩
end Go.Proofs.YtcmjadfpifpknaaGreat
namespace Go.Proofs.YtcmjadfpifpknaaGreat
open Go.ChangeShapes Go.WideShapes Go.ChangeAt Go.RowKit
set_option linter.unusedVariables false

theorem specHash_same (a : Option Addr) (n c : Nat) (l : List Int) (w : World) (h : Nums .i64 w a n l) (hl : Fits64 l) :
    Calls Tryz.prog 148 #[.slice a n c] w fun e w' => e = .returned (.int .i64 (hashOf l)) ∧ w = w' := by
  have hn := h.fits
  have H := Lib.hid h
  have HL := Lib.hid hl
  clear h hl
  go_enter Tryz.func148, Tryz.ntmps148
  go_wp2
  go_loop [3, 4] (fun v i => ∃ j : Nat, j ≤ n ∧ i = .int .i64 j ∧ v = .int .i64 (hashFrom 11 (l.take j))) (fun _ i => n - (intOf i).toNat)
  case atStart => exact ⟨0, Nat.zero_le _, rfl, rfl⟩
  case round =>
    obtain ⟨j, hj, rfl, rfl⟩ := hrel
    obtain ⟨hb0, hb1⟩ := hashFrom_bd (l.take j) 11 (by omega) (by omega)
    by_cases hlt : j < n
    · obtain ⟨ad, x, rfl, hx, hc⟩ := H.out.at_ hlt
      have b1 : 0 ≤ x % 2147483647 := by omega
      have b2 : x % 2147483647 < 2147483647 := by omega
      have HX := Lib.hid hx
      clear hx
      go_wp2_with (go_at_call 163; refine (specMod_in _ _ (by omega) (by omega) (HL.out.get HX.out) _).mono ?_; rintro e w' ⟨rfl, rfl⟩)
      go_round
      case rel => exact ⟨j + 1, by omega, by go_num, by rw [hashFrom_take _ _ _ _ HX.out]; rfl⟩
      case measure => simp [intOf]; omega
    · obtain rfl : j = n := by omega
      go_wp2
      go_ret
      exact ⟨ret_i64 (by rw [List.take_of_length_le (by have := H.out.len; omega)]; rfl), rfl⟩
theorem specHash_any (a : Option Addr) (n c : Nat) (l : List Int) (w : World) (h : Nums .i64 w a n l) (hl : Fits64 l) :
    Calls Tryz.prog 148 #[.slice a n c] w (Told (.int .i64 (hashOf l)) w) :=
  (specHash_same a n c l w h hl).mono fun e w' ⟨he, hw⟩ => ⟨he, hw ▸ Below.refl _ _⟩

theorem fits_cons {x : Int} {l : List Int} (hx : Fit64 x) (hl : Fits64 l) : Fits64 ([x] ++ l) := by
  intro y hy
  rcases List.mem_append.1 hy with h | h
  · rw [List.mem_singleton.1 h]; exact hx
  · exact hl y h
theorem fits_snoc {x : Int} {l : List Int} (hl : Fits64 l) (hx : Fit64 x) : Fits64 (l ++ [x]) := by
  intro y hy
  rcases List.mem_append.1 hy with h | h
  · exact hl y h
  · rw [List.mem_singleton.1 h]; exact hx
theorem own_one (w : World) (x : Int) (B : Nat) (hB : B ≤ w.heap.size) : Own .i64 3 (w.alloc (.cells #[.int .i64 x] 3)) B (some ⟨w.heap.size, 0, none⟩) 1 1 [x] :=
  ⟨rfl, World.ownsRow_lit w #[.int .i64 x] 1 hB (by unfold maxLen; omega) rfl⟩

set_option maxRecDepth 100000 in
theorem specKeyedHash_any (k : Int) (a : Option Addr) (n c : Nat) (l : List Int) (w : World) (hk : Fit64 k) (h : Nums .i64 w a n l) (hn : n ≤ 1000000000000) (hl : Fits64 l) :
    Calls Tryz.prog 119 #[.int .i64 k, .slice a n c] w (Told (.int .i64 (khash k l)) w) := by
  have HK := Lib.hid hk
  have H := Lib.hid h
  have HL := Lib.hid hl
  clear hk h hl
  obtain ⟨i0, hi, hz0, hz1, hz2⟩ := info_parts infoIntS
  have HI := Lib.hid (And.intro hi (And.intro hz0 (And.intro hz1 hz2)))
  clear hi hz0 hz1 hz2
  go_enter Tryz.func119, Tryz.ntmps119
  go_wp2_with (at_builtin; refine wpl_app _ rfl (.tmp 6) (.tmp 7) 24 rfl .i64 3 i0 (.int .i64 0) 8 Tryz.underlying24 HI.out.1 HI.out.2.1 HI.out.2.2.1 HI.out.2.2.2 rfl rfl (own_one _ k w.heap.size (Nat.le_refl _)) rfl (H.out.same (alloc_same _ _)) (by omega) ?c1 ?c2 ?_)
  case c1 => omega
  case c2 => simp
  intro a1 c1 w1 ho1 hb1
  have HO1 := Lib.hid ho1
  have HB1 := Lib.hid ((alloc_same w (.cells #[.int .i64 k] 3)).trans hb1)
  clear ho1 hb1
  go_wp2_with (at_builtin; refine wpl_app _ rfl (.tmp 8) (.tmp 10) 24 rfl .i64 3 i0 (.int .i64 0) 8 Tryz.underlying24 HI.out.1 HI.out.2.1 HI.out.2.2.1 HI.out.2.2.2 rfl rfl (HO1.out.alloc _) rfl (nums_new _ _ _ _) (by omega) ?c3 ?c4 ?_)
  case c3 => omega
  case c4 => have := HB1.out.size; simp; omega
  intro a2 c2 w2 ho2 hb2
  have HO2 := Lib.hid ho2
  have HB2 := Lib.hid (HB1.out.trans (((alloc_same _ _).mono HB1.out.size).trans hb2))
  clear ho2 hb2
  go_wp2_with fail
  refine (specHash_same _ _ _ _ _ HO2.out.nums (fits_snoc (fits_cons HK.out HL.out) HK.out)).mono ?_
  rintro e w' ⟨rfl, rfl⟩
  go_wp2_with fail
  go_ret
  exact ⟨ret_i64 (khash_eq k l), HB2.out⟩

theorem isValidKey_any (k : Int) (w : World) :
    Calls Tryz.prog 14 #[.int .i64 k] w fun e w' => e = .returned (.bool (decide (1 ≤ k) && decide (k ≤ 2147483646))) ∧ w = w' := by
  by_cases h1 : 1 ≤ k <;> by_cases h2 : k ≤ 2147483646 <;> (go_enter Tryz.func14, Tryz.ntmps14; go_wp2; go_ret; exact ⟨by simp [h1, h2], rfl⟩)
theorem specIsValidKey_any (k : Int) (w : World) :
    Calls Tryz.prog 117 #[.int .i64 k] w fun e w' => e = .returned (.bool (decide (1 ≤ k) && decide (k ≤ 2147483646))) ∧ w = w' := by
  by_cases h1 : 1 ≤ k <;> by_cases h2 : k ≤ 2147483646 <;> (go_enter Tryz.func117, Tryz.ntmps117; go_wp2; go_ret; exact ⟨by simp [h1, h2], rfl⟩)

/-- The length, then each byte. -/
def b2i (l : List Int) : List Int := (l.length : Int) :: l
theorem b2i_len (l : List Int) : (b2i l).length = l.length + 1 := rfl
def b2iTo (l : List Int) (j : Nat) : List Int := [(l.length : Int)] ++ l.take j
theorem b2iTo_zero (l : List Int) : b2iTo l 0 = [(l.length : Int)] := by simp [b2iTo]
theorem b2iTo_step {l : List Int} {j : Nat} {x : Int} (h : l[j]? = some x) : b2iTo l j ++ [x] = b2iTo l (j + 1) := by unfold b2iTo; rw [take_step l j x h]; simp
theorem b2iTo_all (l : List Int) (n : Nat) (h : l.length ≤ n) : b2iTo l n = b2i l := by unfold b2iTo b2i; rw [List.take_of_length_le h]; rfl

end Go.Proofs.YtcmjadfpifpknaaGreat
