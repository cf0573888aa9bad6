/- A number that is picked by a seed, a place and a bound, in the program and in its model. -/
import Derived.Test.YtjmabidahofbbaaHash2
import Derived.Test.YtjmabidahofbbaaItems
namespace Go.Proofs.Ytjmabidahofbbaa
open Go.ChangeShapes Go.WideShapes Go.ChangeAt Go.RowKit
set_option linter.unusedVariables false

/-- The remainder where the divisor is in range, else 0. -/
def modOf (p q : Int) : Int := if 1 ≤ q ∧ q ≤ 1000000000000 then p % q else 0
/-- The number that is picked. -/
def pickOf (s p n : Int) : Int := modOf (hashOf [s, p]) n
theorem pickOf_few {s p n : Int} (h : n < 1) : pickOf s p n = 0 := by unfold pickOf modOf; rw [if_neg (by omega)]
theorem pickOf_bd (s p n : Int) : 0 ≤ pickOf s p n ∧ pickOf s p n ≤ 1000000000000 ∧ (1 ≤ n → pickOf s p n < n) := by
  unfold pickOf modOf
  by_cases h : 1 ≤ n ∧ n ≤ 1000000000000
  · rw [if_pos h]
    have h1 := Int.emod_nonneg (hashOf [s, p]) (show n ≠ 0 by omega)
    have h2 := Int.emod_lt_of_pos (hashOf [s, p]) (show 0 < n by omega)
    omega
  · rw [if_neg h]; omega

theorem modI_any (p q : Int) (w0 : Fit64 p) (w1 : Fit64 q) (w : World) :
    Calls Try.prog 86 #[.int .i64 p, .int .i64 q] w fun e w' => e = .returned (.int .i64 (modOf p q)) ∧ w = w' := by
  have b1 := bounds_i64 w1
  by_cases h : 1 ≤ q ∧ q ≤ 1000000000000
  · rw [show modOf p q = p % q from if_pos h]
    exact mod_in p q h.1 h.2 w0 w
  · rw [show modOf p q = 0 from if_neg h]
    have b0 := bounds_i64 w0
    clear w0 w1
    by_cases h1 : 1 ≤ q
    · have h2 : ¬ q ≤ 1000000000000 := fun e => h ⟨h1, e⟩
      clear h
      go_enter Try.func86, Try.ntmps86
      go_wp2
      go_ret
      exact ⟨rfl, rfl⟩
    · go_enter Try.func86, Try.ntmps86
      go_wp2
      go_ret
      exact ⟨rfl, rfl⟩
theorem modS_any (p q : Int) (w0 : Fit64 p) (w1 : Fit64 q) (w : World) :
    Calls Try.prog 97 #[.int .i64 p, .int .i64 q] w fun e w' => e = .returned (.int .i64 (modOf p q)) ∧ w = w' := by
  have b1 := bounds_i64 w1
  by_cases h : 1 ≤ q ∧ q ≤ 1000000000000
  · rw [show modOf p q = p % q from if_pos h]
    exact specMod_in p q h.1 h.2 w0 w
  · rw [show modOf p q = 0 from if_neg h]
    have b0 := bounds_i64 w0
    clear w0 w1
    by_cases h1 : 1 ≤ q
    · have h2 : ¬ q ≤ 1000000000000 := fun e => h ⟨h1, e⟩
      clear h
      go_enter Try.func97, Try.ntmps97
      go_wp2
      go_ret
      exact ⟨rfl, rfl⟩
    · go_enter Try.func97, Try.ntmps97
      go_wp2
      go_ret
      exact ⟨rfl, rfl⟩

theorem nums_two (w : World) (k : IntKind) (x y : Int) (t : TypeId) : Nums k (w.alloc (.cells #[.int k x, .int k y] t)) (some ⟨w.heap.size, 0, none⟩) 2 [x, y] :=
  ⟨rfl, by omega, fun j hj => ⟨_, rfl, by
    have hb : (w.alloc (.cells #[.int k x, .int k y] t)).heap[w.heap.size]? = some (.cells #[.int k x, .int k y] t (0, 0)) := heap_alloc_new w _
    have hj' : j = 0 ∨ j = 1 := by omega
    rcases hj' with rfl | rfl
    · exact block_cell hb 0
    · exact block_cell hb 1⟩⟩
theorem fits_two {x y : Int} (hx : Fit64 x) (hy : Fit64 y) : Fits64 [x, y] := by
  intro z hz
  simp at hz
  rcases hz with rfl | rfl
  · exact hx
  · exact hy
theorem hash_fit (l : List Int) : Fit64 (hashOf l) := by have := hashOf_bd l; exact fit_mk (by omega) (by omega)

theorem pickOf_any (s p n : Int) (w : World) (hs : Fit64 s) (hp : Fit64 p) (hn : Fit64 n) :
    Calls Try.prog 64 #[.int .i64 s, .int .i64 p, .int .i64 n] w (Told (.int .i64 (pickOf s p n)) w) := by
  have HS := Lib.hid (fits_two hs hp)
  have HN := Lib.hid hn
  have KN := Lib.hid (nums_two w .i64 s p 3)
  have KB := Lib.hid (alloc_same w (.cells #[.int .i64 s, .int .i64 p] 3))
  clear hs hp hn
  go_enter Try.func64, Try.ntmps64
  go_wp2_with fail
  refine (hash_any _ _ _ _ _ KN.out HS.out).mono ?_
  rintro e w1 ⟨rfl, hb1⟩
  have HB := Lib.hid (KB.out.trans (hb1.mono KB.out.size))
  clear hb1
  go_wp2_with fail
  refine (modI_any _ _ (hash_fit _) HN.out _).mono ?_
  rintro e w2 ⟨rfl, rfl⟩
  go_wp2_with fail
  go_ret
  exact ⟨rfl, HB.out⟩
theorem specPickOf_any (s p n : Int) (w : World) (hs : Fit64 s) (hp : Fit64 p) (hn : Fit64 n) :
    Calls Try.prog 73 #[.int .i64 s, .int .i64 p, .int .i64 n] w (Told (.int .i64 (pickOf s p n)) w) := by
  by_cases h1 : n < 1
  · rw [pickOf_few h1]
    go_enter Try.func73, Try.ntmps73
    go_wp2_with fail
    go_ret
    exact ⟨rfl, Below.refl _ _⟩
  have HS := Lib.hid (fits_two hs hp)
  have HN := Lib.hid hn
  have KN := Lib.hid (nums_two w .i64 s p 3)
  have KB := Lib.hid (alloc_same w (.cells #[.int .i64 s, .int .i64 p] 3))
  clear hs hp hn
  go_enter Try.func73, Try.ntmps73
  go_wp2_with fail
  refine (specHash_any _ _ _ _ _ KN.out HS.out).mono ?_
  rintro e w1 ⟨rfl, hb1⟩
  have HB := Lib.hid (KB.out.trans (hb1.mono KB.out.size))
  clear hb1
  go_wp2_with fail
  refine (modS_any _ _ (hash_fit _) HN.out _).mono ?_
  rintro e w2 ⟨rfl, rfl⟩
  go_wp2_with fail
  go_ret
  exact ⟨rfl, HB.out⟩
end Go.Proofs.Ytjmabidahofbbaa
