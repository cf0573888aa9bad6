/- The mathematics of the hash: a fold of numbers modulo a prime, one factor and two terms. No function of the program is spoken of. The hash of the program and that of its model: fold, fold over a list, Hash, KeyedHash. The helpers of the exact laws at slices of bytes: copied, compared, marked, looked at. The hash of the model; valid keys; bytes as integers, in the program and in its model. A number that is picked by a seed, a place and a bound, in the program and in its model. -/
import Derived.Test.YtnjjfagokbbelaaG1
import Derived.Deep.QuietTactic
import Derived.BigQuiet
import Derived.RegionTactic
namespace Go.Proofs.Ytnjjfagokbbelaa
set_option linter.unusedVariables false

/-- One value is taken into the hash. -/
def hstep (a v : Int) : Int := (a * 1000003 + v % 2147483647 + 13) % 2147483647
def hashFrom (a : Int) (l : List Int) : Int := l.foldl hstep a
def hashOf (l : List Int) : Int := hashFrom 11 l
def khash (k : Int) (l : List Int) : Int := hstep (hashFrom (hstep 11 k) l) k
theorem hstep_bd (a v : Int) : 0 ≤ hstep a v ∧ hstep a v < 2147483647 := by unfold hstep; omega
theorem hashFrom_nil (a : Int) : hashFrom a [] = a := rfl
theorem hashFrom_snoc (a : Int) (l : List Int) (x : Int) : hashFrom a (l ++ [x]) = hstep (hashFrom a l) x := by unfold hashFrom; rw [List.foldl_append]; rfl
theorem hashFrom_bd (l : List Int) : ∀ a : Int, 0 ≤ a → a < 2147483647 → 0 ≤ hashFrom a l ∧ hashFrom a l < 2147483647 := by
  induction l with
  | nil => intro a h1 h2; exact ⟨h1, h2⟩
  | cons x r ih => intro a _ _; exact ih _ (hstep_bd a x).1 (hstep_bd a x).2
theorem hashOf_bd (l : List Int) : 0 ≤ hashOf l ∧ hashOf l < 2147483647 := hashFrom_bd l 11 (by omega) (by omega)
theorem khash_bd (k : Int) (l : List Int) : 0 ≤ khash k l ∧ khash k l < 2147483647 := hstep_bd _ _
theorem khash_eq (k : Int) (l : List Int) : hashOf (([k] ++ l) ++ [k]) = khash k l := by
  unfold hashOf khash
  rw [hashFrom_snoc]
  rfl
theorem take_step (l : List Int) (j : Nat) (x : Int) (h : l[j]? = some x) : l.take (j + 1) = l.take j ++ [x] := by rw [List.take_add_one, h]; rfl
theorem hashFrom_take (a : Int) (l : List Int) (j : Nat) (x : Int) (h : l[j]? = some x) : hashFrom a (l.take (j + 1)) = hstep (hashFrom a (l.take j)) x := by rw [take_step l j x h, hashFrom_snoc]

/-- What comes in differently goes out differently: the factor is no multiple of the modulus, which is prime. -/
theorem acc_dvd {a b r : Int} (h : (a * 1000003 + r + 13) % 2147483647 = (b * 1000003 + r + 13) % 2147483647) : (2147483647 : Int) ∣ (a - b) * 1000003 := by
  have h2 : (2147483647 : Int) ∣ (a * 1000003 + r + 13) - (b * 1000003 + r + 13) := Int.dvd_of_emod_eq_zero (Int.emod_eq_emod_iff_emod_sub_eq_zero.1 h)
  have e : (a - b) * 1000003 = a * 1000003 + r + 13 - (b * 1000003 + r + 13) := by rw [Int.sub_mul]; omega
  rw [e]
  exact h2
theorem acc_abs (d : Int) (h : (2147483647 : Int) ∣ d * 1000003) : (2147483647 : Nat) ∣ d.natAbs * 1000003 := by
  have h3 := Int.natAbs_dvd_natAbs.2 h
  rw [Int.natAbs_mul] at h3
  simpa using h3
theorem acc_apart : Nat.Coprime 2147483647 1000003 := by decide +kernel
theorem acc_zero (n : Nat) (h : (2147483647 : Nat) ∣ n * 1000003) (hn : n < 2147483647) : n = 0 := Nat.eq_zero_of_dvd_of_lt (Nat.Coprime.dvd_of_dvd_mul_right acc_apart h) hn
theorem hstep_acc {a b v : Int} (h : hstep a v = hstep b v) (ha : 0 ≤ a) (ha' : a < 2147483647) (hb : 0 ≤ b) (hb' : b < 2147483647) : a = b := by
  have h4 := acc_zero _ (acc_abs _ (acc_dvd h)) (by omega)
  omega
theorem hstep_val {a v v' : Int} (h : hstep a v = hstep a v') : v % 2147483647 = v' % 2147483647 := by
  unfold hstep at h
  generalize a * 1000003 = r at h
  omega
theorem hashFrom_acc (l : List Int) : ∀ {a b : Int}, hashFrom a l = hashFrom b l → 0 ≤ a → a < 2147483647 → 0 ≤ b → b < 2147483647 → a = b := by
  induction l with
  | nil => intro a b h _ _ _ _; exact h
  | cons x r ih =>
    intro a b h h1 h2 h3 h4
    exact hstep_acc (ih (a := hstep a x) (b := hstep b x) h (hstep_bd _ _).1 (hstep_bd _ _).2 (hstep_bd _ _).1 (hstep_bd _ _).2) h1 h2 h3 h4
theorem hashFrom_append (a : Int) (l r : List Int) : hashFrom a (l ++ r) = hashFrom (hashFrom a l) r := by unfold hashFrom; rw [List.foldl_append]
theorem khash_mid {k x y : Int} {l r : List Int} (h : khash k (l ++ y :: r) = khash k (l ++ x :: r)) : y % 2147483647 = x % 2147483647 := by
  have hs := hstep_bd 11 k
  have hl := hashFrom_bd l _ hs.1 hs.2
  unfold khash at h
  have e : ∀ z, hashFrom (hstep 11 k) (l ++ z :: r) = hashFrom (hstep (hashFrom (hstep 11 k) l) z) r := fun z => hashFrom_append _ _ _
  have hb : ∀ z, 0 ≤ hashFrom (hstep 11 k) (l ++ z :: r) ∧ hashFrom (hstep 11 k) (l ++ z :: r) < 2147483647 := fun z => hashFrom_bd _ _ hs.1 hs.2
  have h1 := hstep_acc h (hb y).1 (hb y).2 (hb x).1 (hb x).2
  rw [e, e] at h1
  exact hstep_val (hashFrom_acc r h1 (hstep_bd _ _).1 (hstep_bd _ _).2 (hstep_bd _ _).1 (hstep_bd _ _).2)
theorem khash_set {k : Int} {l : List Int} {i : Nat} {x y : Int} (hx : l[i]? = some x) (h : khash k (l.set i y) = khash k l) : y % 2147483647 = x % 2147483647 := by
  have hi : i < l.length := by
    rcases Nat.lt_or_ge i l.length with h1 | h1
    · exact h1
    · rw [List.getElem?_eq_none h1] at hx; cases hx
  have hxe : l[i] = x := by rw [List.getElem?_eq_getElem hi] at hx; exact Option.some.inj hx
  have e1 : l = l.take i ++ x :: l.drop (i + 1) := by
    rw [← hxe, ← List.drop_eq_getElem_cons hi, List.take_append_drop]
  have e2 : l.set i y = l.take i ++ y :: l.drop (i + 1) := by rw [List.set_eq_take_append_cons_drop, if_pos hi]
  rw [e2] at h
  exact khash_mid (h.trans (congrArg (khash k) e1))
end Go.Proofs.Ytnjjfagokbbelaa
namespace Go.Proofs.Ytnjjfagokbbelaa
open Go.ChangeShapes Go.WideShapes Go.ChangeAt Go.RowKit
set_option linter.unusedVariables false

/-- A number that an int holds. -/
abbrev Fit64 (x : Int) : Prop := (Lit.int .i64 x).wf = true
theorem fit_mk {x : Int} (h1 : -9223372036854775808 ≤ x) (h2 : x ≤ 9223372036854775807) : Fit64 x := by
  unfold Fit64
  simp [Lit.wf, IntKind.min, IntKind.max, IntKind.signed, IntKind.bits]
  exact ⟨by omega, by omega⟩

theorem tmod_bounds (p q : Int) (h : 1 ≤ q) : -q < p.tmod q ∧ p.tmod q < q := by
  have h1 := Int.tmod_lt_of_pos p (show 0 < q by omega)
  have h2 := Int.tmod_lt_of_pos (-p) (show 0 < q by omega)
  rw [Int.neg_tmod] at h2
  omega
theorem tmod_sub_emod (p q : Int) : p.tmod q - p % q = q * (p / q - p.tdiv q) := by
  have h1 := Int.tmod_def p q
  have h2 := Int.emod_def p q
  rw [Int.mul_sub]
  omega
theorem tmod_neg_emod (p q : Int) (h : 1 ≤ q) (hn : p.tmod q < 0) : p.tmod q + q = p % q := by
  have h1 := Int.emod_nonneg p (show q ≠ 0 by omega)
  have h2 := Int.emod_lt_of_pos p (show 0 < q by omega)
  have b := tmod_bounds p q h
  have h4 := tmod_sub_emod p q
  have h5 : p / q - p.tdiv q = -1 := by
    generalize p / q - p.tdiv q = t at h4
    rcases Int.lt_trichotomy t (-1) with ht | ht | ht
    · have : q * t ≤ q * (-2) := Int.mul_le_mul_of_nonneg_left (by omega) (by omega)
      omega
    · exact ht
    · have : q * 0 ≤ q * t := Int.mul_le_mul_of_nonneg_left (by omega) (by omega)
      omega
  rw [h5] at h4
  omega
theorem tmod_pos_emod (p q : Int) (h : 1 ≤ q) (hn : 0 ≤ p.tmod q) : p.tmod q = p % q := by
  have h1 := Int.emod_nonneg p (show q ≠ 0 by omega)
  have h2 := Int.emod_lt_of_pos p (show 0 < q by omega)
  have b := tmod_bounds p q h
  have h4 := tmod_sub_emod p q
  have h5 : p / q - p.tdiv q = 0 := by
    generalize p / q - p.tdiv q = t at h4
    rcases Int.lt_trichotomy t 0 with ht | ht | ht
    · have : q * t ≤ q * (-1) := Int.mul_le_mul_of_nonneg_left (by omega) (by omega)
      omega
    · exact ht
    · have : q * 1 ≤ q * t := Int.mul_le_mul_of_nonneg_left (by omega) (by omega)
      omega
  rw [h5] at h4
  omega
set_option maxHeartbeats 400000 in
/-- The remainder, in the program and in its model, at a divisor in range. -/
theorem mod_in (p q : Int) (h1 : 1 ≤ q) (h2 : q ≤ 1000000000000) (w0 : Fit64 p) (w : World) :
    Calls Try.prog 91 #[.int .i64 p, .int .i64 q] w fun e w' => e = .returned (.int .i64 (p % q)) ∧ w = w' := by
  have b0 := bounds_i64 w0
  clear w0
  obtain ⟨b1, b2⟩ := tmod_bounds p q h1
  by_cases hn : p.tmod q < 0
  · rw [← tmod_neg_emod p q h1 hn]
    go_enter Try.func91, Try.ntmps91
    go_wp2
    go_ret
    exact ⟨rfl, rfl⟩
  · rw [← tmod_pos_emod p q h1 (by omega)]
    go_enter Try.func91, Try.ntmps91
    go_wp2
    go_ret
    exact ⟨rfl, rfl⟩
set_option maxHeartbeats 400000 in
theorem specMod_in (p q : Int) (h1 : 1 ≤ q) (h2 : q ≤ 1000000000000) (w0 : Fit64 p) (w : World) :
    Calls Try.prog 95 #[.int .i64 p, .int .i64 q] w fun e w' => e = .returned (.int .i64 (p % q)) ∧ w = w' := by
  have b0 := bounds_i64 w0
  clear w0
  obtain ⟨b1, b2⟩ := tmod_bounds p q h1
  have e : (p.tmod q + q) % q = p % q := by
    by_cases hn : p.tmod q < 0
    · rw [tmod_neg_emod p q h1 hn, Int.emod_emod_of_dvd p (Int.dvd_refl q)]
    · rw [tmod_pos_emod p q h1 (by omega), Int.add_emod_right, Int.emod_emod_of_dvd p (Int.dvd_refl q)]
  rw [← e]
  clear e
  go_enter Try.func95, Try.ntmps95
  go_wp2
  go_ret
  exact ⟨rfl, rfl⟩

theorem ret_i64 {a b : Int} (h : a = b) : Ending.returned (.int .i64 a) = .returned (.int .i64 b) := by rw [h]
theorem fold_any (a v : Int) (h0 : 0 ≤ a) (h1 : a < 2147483647) (hv : Fit64 v) (w : World) :
    Calls Try.prog 109 #[.int .i64 a, .int .i64 v] w fun e w' => e = .returned (.int .i64 (hstep a v)) ∧ w = w' := by
  have b1 : 0 ≤ v % 2147483647 := by omega
  have b2 : v % 2147483647 < 2147483647 := by omega
  have HV := Lib.hid hv
  clear hv
  go_enter Try.func109, Try.ntmps109
  go_wp2_with (go_at_call 91; refine (mod_in _ _ (by omega) (by omega) HV.out _).mono ?_; rintro e w' ⟨rfl, rfl⟩)
  go_ret
  exact ⟨rfl, rfl⟩

/-- Every number of a list is one that an int holds. -/
abbrev Fits64 (l : List Int) : Prop := ∀ x ∈ l, Fit64 x
theorem Fits64.get {l : List Int} (h : Fits64 l) {j : Nat} {x : Int} (hx : l[j]? = some x) : Fit64 x := h x (List.mem_of_getElem? hx)

theorem foldAll_any (acc : Int) (a : Option Addr) (n c : Nat) (l : List Int) (w : World) (h0 : 0 ≤ acc) (h1 : acc < 2147483647) (h : Nums .i64 w a n l) (hl : Fits64 l) :
    Calls Try.prog 105 #[.int .i64 acc, .slice a n c] w fun e w' => e = .returned (.int .i64 (hashFrom acc l)) ∧ w = w' := by
  have hn := h.fits
  have H := Lib.hid h
  have HL := Lib.hid hl
  clear h hl
  go_enter Try.func105, Try.ntmps105
  go_wp2
  go_loop [0, 9] (fun v i => ∃ j : Nat, j ≤ n ∧ i = .int .i64 j ∧ v = .int .i64 (hashFrom acc (l.take j))) (fun _ i => n - (intOf i).toNat)
  case atStart => exact ⟨0, Nat.zero_le _, rfl, rfl⟩
  case round =>
    obtain ⟨j, hj, rfl, rfl⟩ := hrel
    obtain ⟨hb0, hb1⟩ := hashFrom_bd (l.take j) acc h0 h1
    by_cases hlt : j < n
    · obtain ⟨ad, x, rfl, hx, hc⟩ := H.out.at_ hlt
      have HX := Lib.hid hx
      clear hx
      go_wp2_with (go_at_call 109; refine (fold_any _ _ hb0 hb1 (HL.out.get HX.out) _).mono ?_; rintro e w' ⟨rfl, rfl⟩)
      go_round
      case rel => exact ⟨j + 1, by omega, by go_num, by rw [hashFrom_take _ _ _ _ HX.out]⟩
      case measure => simp [intOf]; omega
    · obtain rfl : j = n := by omega
      go_wp2
      go_ret
      exact ⟨ret_i64 (by rw [List.take_of_length_le (by have := H.out.len; omega)]), rfl⟩
theorem hash_any (a : Option Addr) (n c : Nat) (l : List Int) (w : World) (h : Nums .i64 w a n l) (hl : Fits64 l) :
    Calls Try.prog 92 #[.slice a n c] w (Told (.int .i64 (hashOf l)) w) := by
  go_enter Try.func92, Try.ntmps92
  go_wp2_with (go_at_call 105; refine (foldAll_any _ _ _ _ _ _ (by omega) (by omega) h hl).mono ?_; rintro e w' ⟨rfl, rfl⟩)
  go_ret
  exact ⟨rfl, Below.refl _ _⟩
end Go.Proofs.Ytnjjfagokbbelaa
namespace Go.Proofs.Ytnjjfagokbbelaa
open Go.ChangeShapes Go.WideShapes Go.ChangeAt Go.RowKit
set_option linter.unusedVariables false

theorem infoByteS : (Try.prog.info? 5).map (fun i => (i.zero, i.size, i.bytes)) = some (some (.int .u8 0), 1, 1) := by kernel_rfl

/-- k elements are copied, the others are 0 still. -/
def fillByteS (l : List Int) (j n : Nat) : List Value := ((l.take j ++ List.replicate (n - j) 0).map (Value.int .u8))
theorem fillByteS_zero (l : List Int) (n : Nat) : fillByteS l 0 n = List.replicate n (.int .u8 0) := by unfold fillByteS; simp
theorem fillByteS_all (l : List Int) : fillByteS l l.length l.length = l.map (Value.int .u8) := by unfold fillByteS; simp
theorem fillByteS_step {l : List Int} {j : Nat} {x : Int} (hj : l[j]? = some x) {n : Nat} (hn : l.length = n) : (fillByteS l j n).set j (.int .u8 x) = fillByteS l (j + 1) n := by
  have hlt : j < l.length := by
    rcases Nat.lt_or_ge j l.length with h | h
    · exact h
    · rw [List.getElem?_eq_none h] at hj; cases hj
  unfold fillByteS
  rw [← List.map_set]
  congr 1
  have hl : (l.take j).length = j := by rw [List.length_take]; omega
  rw [List.set_append_right _ _ (by omega), hl, Nat.sub_self, show n - j = (n - (j + 1)) + 1 by omega, List.replicate_succ, List.set_cons_zero, List.take_add_one, hj]
  simp

/-- The marks that are laid: each one more than the one before. -/
def marksByteS (j n : Nat) : List Int := (List.range n).map fun i => (((j + i) % 256 : Nat) : Int)
theorem marksByteS_len (j n : Nat) : (marksByteS j n).length = n := by simp [marksByteS]
theorem marksByteS_get {j n i : Nat} (h : i < n) : (marksByteS j n)[i]? = some ((((j + i) % 256 : Nat) : Int)) := by unfold marksByteS; simp [h]
def partByteS (j0 j n : Nat) (l : List Int) : List Value := ((marksByteS j0 j ++ l.drop j).map (Value.int .u8))
theorem partByteS_zero (j0 n : Nat) (l : List Int) : partByteS j0 0 n l = l.map (Value.int .u8) := by simp [partByteS, marksByteS]
theorem partByteS_all (j0 n : Nat) (l : List Int) (h : l.length = n) : partByteS j0 n n l = (marksByteS j0 n).map (Value.int .u8) := by
  unfold partByteS
  rw [List.drop_eq_nil_of_le (by omega), List.append_nil]
theorem partByteS_step {l : List Int} {i n : Nat} (j : Nat) (hi : i < n) (hn : l.length = n) : (partByteS j i n l).set i (.int .u8 ((((j + i) % 256 : Nat) : Int))) = partByteS j (i + 1) n l := by
  unfold partByteS
  rw [← List.map_set]
  congr 1
  rw [List.set_append_right _ _ (by rw [marksByteS_len]; omega), marksByteS_len, Nat.sub_self, List.drop_eq_getElem_cons (by omega), List.set_cons_zero]
  simp [marksByteS, List.range_succ]

end Go.Proofs.Ytnjjfagokbbelaa
namespace Go.Proofs.Ytnjjfagokbbelaa
open Go.ChangeShapes Go.WideShapes Go.ChangeAt Go.RowKit
set_option linter.unusedVariables false

theorem specHash_same (a : Option Addr) (n c : Nat) (l : List Int) (w : World) (h : Nums .i64 w a n l) (hl : Fits64 l) :
    Calls Try.prog 96 #[.slice a n c] w fun e w' => e = .returned (.int .i64 (hashOf l)) ∧ w = w' := by
  have hn := h.fits
  have H := Lib.hid h
  have HL := Lib.hid hl
  clear h hl
  go_enter Try.func96, Try.ntmps96
  go_wp2
  go_loop [3, 4] (fun v i => ∃ j : Nat, j ≤ n ∧ i = .int .i64 j ∧ v = .int .i64 (hashFrom 11 (l.take j))) (fun _ i => n - (intOf i).toNat)
  case atStart => exact ⟨0, Nat.zero_le _, rfl, rfl⟩
  case round =>
    obtain ⟨j, hj, rfl, rfl⟩ := hrel
    obtain ⟨hb0, hb1⟩ := hashFrom_bd (l.take j) 11 (by omega) (by omega)
    by_cases hlt : j < n
    · obtain ⟨ad, x, rfl, hx, hc⟩ := H.out.at_ hlt
      have b1 : 0 ≤ x % 2147483647 := by omega
      have b2 : x % 2147483647 < 2147483647 := by omega
      have HX := Lib.hid hx
      clear hx
      go_wp2_with (go_at_call 95; refine (specMod_in _ _ (by omega) (by omega) (HL.out.get HX.out) _).mono ?_; rintro e w' ⟨rfl, rfl⟩)
      go_round
      case rel => exact ⟨j + 1, by omega, by go_num, by rw [hashFrom_take _ _ _ _ HX.out]; rfl⟩
      case measure => simp [intOf]; omega
    · obtain rfl : j = n := by omega
      go_wp2
      go_ret
      exact ⟨ret_i64 (by rw [List.take_of_length_le (by have := H.out.len; omega)]; rfl), rfl⟩
theorem specHash_any (a : Option Addr) (n c : Nat) (l : List Int) (w : World) (h : Nums .i64 w a n l) (hl : Fits64 l) :
    Calls Try.prog 96 #[.slice a n c] w (Told (.int .i64 (hashOf l)) w) :=
  (specHash_same a n c l w h hl).mono fun e w' ⟨he, hw⟩ => ⟨he, hw ▸ Below.refl _ _⟩

theorem fits_cons {x : Int} {l : List Int} (hx : Fit64 x) (hl : Fits64 l) : Fits64 ([x] ++ l) := by
  intro y hy
  rcases List.mem_append.1 hy with h | h
  · rw [List.mem_singleton.1 h]; exact hx
  · exact hl y h
theorem fits_snoc {x : Int} {l : List Int} (hl : Fits64 l) (hx : Fit64 x) : Fits64 (l ++ [x]) := by
  intro y hy
  rcases List.mem_append.1 hy with h | h
  · exact hl y h
  · rw [List.mem_singleton.1 h]; exact hx
theorem own_one (w : World) (x : Int) (B : Nat) (hB : B ≤ w.heap.size) : Own .i64 3 (w.alloc (.cells #[.int .i64 x] 3)) B (some ⟨w.heap.size, 0, none⟩) 1 1 [x] :=
  ⟨rfl, World.ownsRow_lit w #[.int .i64 x] 1 hB (by unfold maxLen; omega) rfl⟩

/-- The length, then each byte. -/
def b2i (l : List Int) : List Int := (l.length : Int) :: l
theorem b2i_len (l : List Int) : (b2i l).length = l.length + 1 := rfl
def b2iTo (l : List Int) (j : Nat) : List Int := [(l.length : Int)] ++ l.take j
theorem b2iTo_zero (l : List Int) : b2iTo l 0 = [(l.length : Int)] := by simp [b2iTo]
theorem b2iTo_step {l : List Int} {j : Nat} {x : Int} (h : l[j]? = some x) : b2iTo l j ++ [x] = b2iTo l (j + 1) := by unfold b2iTo; rw [take_step l j x h]; simp
theorem b2iTo_all (l : List Int) (n : Nat) (h : l.length ≤ n) : b2iTo l n = b2i l := by unfold b2iTo b2i; rw [List.take_of_length_le h]; rfl

end Go.Proofs.Ytnjjfagokbbelaa
namespace Go.Proofs.Ytnjjfagokbbelaa
open Go.ChangeShapes Go.WideShapes Go.ChangeAt Go.RowKit
set_option linter.unusedVariables false

/-- The remainder where the divisor is in range, else 0. -/
def modOf (p q : Int) : Int := if 1 ≤ q ∧ q ≤ 1000000000000 then p % q else 0
/-- The number that is picked. -/
def pickOf (s p n : Int) : Int := modOf (hashOf [s, p]) n
theorem pickOf_few {s p n : Int} (h : n < 1) : pickOf s p n = 0 := by unfold pickOf modOf; rw [if_neg (by omega)]
theorem pickOf_bd (s p n : Int) : 0 ≤ pickOf s p n ∧ pickOf s p n ≤ 1000000000000 ∧ (1 ≤ n → pickOf s p n < n) := by
  unfold pickOf modOf
  by_cases h : 1 ≤ n ∧ n ≤ 1000000000000
  · rw [if_pos h]
    have h1 := Int.emod_nonneg (hashOf [s, p]) (show n ≠ 0 by omega)
    have h2 := Int.emod_lt_of_pos (hashOf [s, p]) (show 0 < n by omega)
    omega
  · rw [if_neg h]; omega

theorem modI_any (p q : Int) (w0 : Fit64 p) (w1 : Fit64 q) (w : World) :
    Calls Try.prog 91 #[.int .i64 p, .int .i64 q] w fun e w' => e = .returned (.int .i64 (modOf p q)) ∧ w = w' := by
  have b1 := bounds_i64 w1
  by_cases h : 1 ≤ q ∧ q ≤ 1000000000000
  · rw [show modOf p q = p % q from if_pos h]
    exact mod_in p q h.1 h.2 w0 w
  · rw [show modOf p q = 0 from if_neg h]
    have b0 := bounds_i64 w0
    clear w0 w1
    by_cases h1 : 1 ≤ q
    · have h2 : ¬ q ≤ 1000000000000 := fun e => h ⟨h1, e⟩
      clear h
      go_enter Try.func91, Try.ntmps91
      go_wp2
      go_ret
      exact ⟨rfl, rfl⟩
    · go_enter Try.func91, Try.ntmps91
      go_wp2
      go_ret
      exact ⟨rfl, rfl⟩
theorem modS_any (p q : Int) (w0 : Fit64 p) (w1 : Fit64 q) (w : World) :
    Calls Try.prog 95 #[.int .i64 p, .int .i64 q] w fun e w' => e = .returned (.int .i64 (modOf p q)) ∧ w = w' := by
  have b1 := bounds_i64 w1
  by_cases h : 1 ≤ q ∧ q ≤ 1000000000000
  · rw [show modOf p q = p % q from if_pos h]
    exact specMod_in p q h.1 h.2 w0 w
  · rw [show modOf p q = 0 from if_neg h]
    have b0 := bounds_i64 w0
    clear w0 w1
    by_cases h1 : 1 ≤ q
    · have h2 : ¬ q ≤ 1000000000000 := fun e => h ⟨h1, e⟩
      clear h
      go_enter Try.func95, Try.ntmps95
      go_wp2
      go_ret
      exact ⟨rfl, rfl⟩
    · go_enter Try.func95, Try.ntmps95
      go_wp2
      go_ret
      exact ⟨rfl, rfl⟩

theorem nums_two (w : World) (k : IntKind) (x y : Int) (t : TypeId) : Nums k (w.alloc (.cells #[.int k x, .int k y] t)) (some ⟨w.heap.size, 0, none⟩) 2 [x, y] :=
  ⟨rfl, by omega, fun j hj => ⟨_, rfl, by
    have hb : (w.alloc (.cells #[.int k x, .int k y] t)).heap[w.heap.size]? = some (.cells #[.int k x, .int k y] t (0, 0)) := heap_alloc_new w _
    have hj' : j = 0 ∨ j = 1 := by omega
    rcases hj' with rfl | rfl
    · exact block_cell hb 0
    · exact block_cell hb 1⟩⟩
theorem fits_two {x y : Int} (hx : Fit64 x) (hy : Fit64 y) : Fits64 [x, y] := by
  intro z hz
  simp at hz
  rcases hz with rfl | rfl
  · exact hx
  · exact hy
theorem hash_fit (l : List Int) : Fit64 (hashOf l) := by have := hashOf_bd l; exact fit_mk (by omega) (by omega)

theorem pickOf_any (s p n : Int) (w : World) (hs : Fit64 s) (hp : Fit64 p) (hn : Fit64 n) :
    Calls Try.prog 69 #[.int .i64 s, .int .i64 p, .int .i64 n] w (Told (.int .i64 (pickOf s p n)) w) := by
  have HS := Lib.hid (fits_two hs hp)
  have HN := Lib.hid hn
  have KN := Lib.hid (nums_two w .i64 s p 3)
  have KB := Lib.hid (alloc_same w (.cells #[.int .i64 s, .int .i64 p] 3))
  clear hs hp hn
  go_enter Try.func69, Try.ntmps69
  go_wp2_with fail
  refine (hash_any _ _ _ _ _ KN.out HS.out).mono ?_
  rintro e w1 ⟨rfl, hb1⟩
  have HB := Lib.hid (KB.out.trans (hb1.mono KB.out.size))
  clear hb1
  go_wp2_with fail
  refine (modI_any _ _ (hash_fit _) HN.out _).mono ?_
  rintro e w2 ⟨rfl, rfl⟩
  go_wp2_with fail
  go_ret
  exact ⟨rfl, HB.out⟩
theorem specPickOf_any (s p n : Int) (w : World) (hs : Fit64 s) (hp : Fit64 p) (hn : Fit64 n) :
    Calls Try.prog 78 #[.int .i64 s, .int .i64 p, .int .i64 n] w (Told (.int .i64 (pickOf s p n)) w) := by
  by_cases h1 : n < 1
  · rw [pickOf_few h1]
    go_enter Try.func78, Try.ntmps78
    go_wp2_with fail
    go_ret
    exact ⟨rfl, Below.refl _ _⟩
  have HS := Lib.hid (fits_two hs hp)
  have HN := Lib.hid hn
  have KN := Lib.hid (nums_two w .i64 s p 3)
  have KB := Lib.hid (alloc_same w (.cells #[.int .i64 s, .int .i64 p] 3))
  clear hs hp hn
  go_enter Try.func78, Try.ntmps78
  go_wp2_with fail
  refine (specHash_any _ _ _ _ _ KN.out HS.out).mono ?_
  rintro e w1 ⟨rfl, hb1⟩
  have HB := Lib.hid (KB.out.trans (hb1.mono KB.out.size))
  clear hb1
  go_wp2_with fail
  refine (modS_any _ _ (hash_fit _) HN.out _).mono ?_
  rintro e w2 ⟨rfl, rfl⟩
  go_wp2_with fail
  go_ret
  exact ⟨rfl, HB.out⟩
end Go.Proofs.Ytnjjfagokbbelaa
