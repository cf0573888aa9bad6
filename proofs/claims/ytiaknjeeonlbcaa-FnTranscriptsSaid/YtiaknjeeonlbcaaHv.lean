/- The mathematics of the hash: a fold of numbers modulo a prime, one factor and two terms. No function of the program is spoken of. -/
namespace Go.Proofs.Ytiaknjeeonlbcaa
set_option linter.unusedVariables false

/-- One value is taken into the hash. -/
def hstep (a v : Int) : Int := (a * 1000003 + v % 2147483647 + 13) % 2147483647
def hashFrom (a : Int) (l : List Int) : Int := l.foldl hstep a
def hashOf (l : List Int) : Int := hashFrom 11 l
def khash (k : Int) (l : List Int) : Int := hstep (hashFrom (hstep 11 k) l) k
theorem hstep_bd (a v : Int) : 0 ≤ hstep a v ∧ hstep a v < 2147483647 := by unfold hstep; omega
theorem hashFrom_nil (a : Int) : hashFrom a [] = a := rfl
theorem hashFrom_snoc (a : Int) (l : List Int) (x : Int) : hashFrom a (l ++ [x]) = hstep (hashFrom a l) x := by unfold hashFrom; rw [List.foldl_append]; rfl
theorem hashFrom_bd (l : List Int) : ∀ a : Int, 0 ≤ a → a < 2147483647 → 0 ≤ hashFrom a l ∧ hashFrom a l < 2147483647 := by
  induction l with
  | nil => intro a h1 h2; exact ⟨h1, h2⟩
  | cons x r ih => intro a _ _; exact ih _ (hstep_bd a x).1 (hstep_bd a x).2
theorem hashOf_bd (l : List Int) : 0 ≤ hashOf l ∧ hashOf l < 2147483647 := hashFrom_bd l 11 (by omega) (by omega)
theorem khash_bd (k : Int) (l : List Int) : 0 ≤ khash k l ∧ khash k l < 2147483647 := hstep_bd _ _
theorem khash_eq (k : Int) (l : List Int) : hashOf (([k] ++ l) ++ [k]) = khash k l := by
  unfold hashOf khash
  rw [hashFrom_snoc]
  rfl
theorem take_step (l : List Int) (j : Nat) (x : Int) (h : l[j]? = some x) : l.take (j + 1) = l.take j ++ [x] := by rw [List.take_add_one, h]; rfl
theorem hashFrom_take (a : Int) (l : List Int) (j : Nat) (x : Int) (h : l[j]? = some x) : hashFrom a (l.take (j + 1)) = hstep (hashFrom a (l.take j)) x := by rw [take_step l j x h, hashFrom_snoc]

/-- What comes in differently goes out differently: the factor is no multiple of the modulus, which is prime. -/
theorem acc_dvd {a b r : Int} (h : (a * 1000003 + r + 13) % 2147483647 = (b * 1000003 + r + 13) % 2147483647) : (2147483647 : Int) ∣ (a - b) * 1000003 := by
  have h2 : (2147483647 : Int) ∣ (a * 1000003 + r + 13) - (b * 1000003 + r + 13) := Int.dvd_of_emod_eq_zero (Int.emod_eq_emod_iff_emod_sub_eq_zero.1 h)
  have e : (a - b) * 1000003 = a * 1000003 + r + 13 - (b * 1000003 + r + 13) := by rw [Int.sub_mul]; omega
  rw [e]
  exact h2
theorem acc_abs (d : Int) (h : (2147483647 : Int) ∣ d * 1000003) : (2147483647 : Nat) ∣ d.natAbs * 1000003 := by
  have h3 := Int.natAbs_dvd_natAbs.2 h
  rw [Int.natAbs_mul] at h3
  simpa using h3
theorem acc_apart : Nat.Coprime 2147483647 1000003 := by decide +kernel
theorem acc_zero (n : Nat) (h : (2147483647 : Nat) ∣ n * 1000003) (hn : n < 2147483647) : n = 0 := Nat.eq_zero_of_dvd_of_lt (Nat.Coprime.dvd_of_dvd_mul_right acc_apart h) hn
theorem hstep_acc {a b v : Int} (h : hstep a v = hstep b v) (ha : 0 ≤ a) (ha' : a < 2147483647) (hb : 0 ≤ b) (hb' : b < 2147483647) : a = b := by
  have h4 := acc_zero _ (acc_abs _ (acc_dvd h)) (by omega)
  omega
theorem hstep_val {a v v' : Int} (h : hstep a v = hstep a v') : v % 2147483647 = v' % 2147483647 := by
  unfold hstep at h
  generalize a * 1000003 = r at h
  omega
theorem hashFrom_acc (l : List Int) : ∀ {a b : Int}, hashFrom a l = hashFrom b l → 0 ≤ a → a < 2147483647 → 0 ≤ b → b < 2147483647 → a = b := by
  induction l with
  | nil => intro a b h _ _ _ _; exact h
  | cons x r ih =>
    intro a b h h1 h2 h3 h4
    exact hstep_acc (ih (a := hstep a x) (b := hstep b x) h (hstep_bd _ _).1 (hstep_bd _ _).2 (hstep_bd _ _).1 (hstep_bd _ _).2) h1 h2 h3 h4
theorem hashFrom_append (a : Int) (l r : List Int) : hashFrom a (l ++ r) = hashFrom (hashFrom a l) r := by unfold hashFrom; rw [List.foldl_append]
theorem khash_mid {k x y : Int} {l r : List Int} (h : khash k (l ++ y :: r) = khash k (l ++ x :: r)) : y % 2147483647 = x % 2147483647 := by
  have hs := hstep_bd 11 k
  have hl := hashFrom_bd l _ hs.1 hs.2
  unfold khash at h
  have e : ∀ z, hashFrom (hstep 11 k) (l ++ z :: r) = hashFrom (hstep (hashFrom (hstep 11 k) l) z) r := fun z => hashFrom_append _ _ _
  have hb : ∀ z, 0 ≤ hashFrom (hstep 11 k) (l ++ z :: r) ∧ hashFrom (hstep 11 k) (l ++ z :: r) < 2147483647 := fun z => hashFrom_bd _ _ hs.1 hs.2
  have h1 := hstep_acc h (hb y).1 (hb y).2 (hb x).1 (hb x).2
  rw [e, e] at h1
  exact hstep_val (hashFrom_acc r h1 (hstep_bd _ _).1 (hstep_bd _ _).2 (hstep_bd _ _).1 (hstep_bd _ _).2)
theorem khash_set {k : Int} {l : List Int} {i : Nat} {x y : Int} (hx : l[i]? = some x) (h : khash k (l.set i y) = khash k l) : y % 2147483647 = x % 2147483647 := by
  have hi : i < l.length := by
    rcases Nat.lt_or_ge i l.length with h1 | h1
    · exact h1
    · rw [List.getElem?_eq_none h1] at hx; cases hx
  have hxe : l[i] = x := by rw [List.getElem?_eq_getElem hi] at hx; exact Option.some.inj hx
  have e1 : l = l.take i ++ x :: l.drop (i + 1) := by
    rw [← hxe, ← List.drop_eq_getElem_cons hi, List.take_append_drop]
  have e2 : l.set i y = l.take i ++ y :: l.drop (i + 1) := by rw [List.set_eq_take_append_cons_drop, if_pos hi]
  rw [e2] at h
  exact khash_mid (h.trans (congrArg (khash k) e1))
end Go.Proofs.Ytiaknjeeonlbcaa
