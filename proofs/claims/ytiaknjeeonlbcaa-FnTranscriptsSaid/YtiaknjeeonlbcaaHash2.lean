/- The hash of the model; valid keys; bytes as integers, in the program and in its model. -/
import Derived.Test.YtiaknjeeonlbcaaHash
import Derived.Test.YtiaknjeeonlbcaaByteS
import Derived.Test.YtiaknjeeonlbcaaIntS
namespace Go.Proofs.Ytiaknjeeonlbcaa
open Go.ChangeShapes Go.WideShapes Go.ChangeAt Go.RowKit
set_option linter.unusedVariables false

theorem specHash_same (a : Option Addr) (n c : Nat) (l : List Int) (w : World) (h : Nums .i64 w a n l) (hl : Fits64 l) :
    Calls Try.prog 42 #[.slice a n c] w fun e w' => e = .returned (.int .i64 (hashOf l)) ∧ w = w' := by
  have hn := h.fits
  have H := Lib.hid h
  have HL := Lib.hid hl
  clear h hl
  go_enter Try.func42, Try.ntmps42
  go_wp2
  go_loop [3, 4] (fun v i => ∃ j : Nat, j ≤ n ∧ i = .int .i64 j ∧ v = .int .i64 (hashFrom 11 (l.take j))) (fun _ i => n - (intOf i).toNat)
  case atStart => exact ⟨0, Nat.zero_le _, rfl, rfl⟩
  case round =>
    obtain ⟨j, hj, rfl, rfl⟩ := hrel
    obtain ⟨hb0, hb1⟩ := hashFrom_bd (l.take j) 11 (by omega) (by omega)
    by_cases hlt : j < n
    · obtain ⟨ad, x, rfl, hx, hc⟩ := H.out.at_ hlt
      have b1 : 0 ≤ x % 2147483647 := by omega
      have b2 : x % 2147483647 < 2147483647 := by omega
      have HX := Lib.hid hx
      clear hx
      go_wp2_with (go_at_call 52; refine (specMod_in _ _ (by omega) (by omega) (HL.out.get HX.out) _).mono ?_; rintro e w' ⟨rfl, rfl⟩)
      go_round
      case rel => exact ⟨j + 1, by omega, by go_num, by rw [hashFrom_take _ _ _ _ HX.out]; rfl⟩
      case measure => simp [intOf]; omega
    · obtain rfl : j = n := by omega
      go_wp2
      go_ret
      exact ⟨ret_i64 (by rw [List.take_of_length_le (by have := H.out.len; omega)]; rfl), rfl⟩
theorem specHash_any (a : Option Addr) (n c : Nat) (l : List Int) (w : World) (h : Nums .i64 w a n l) (hl : Fits64 l) :
    Calls Try.prog 42 #[.slice a n c] w (Told (.int .i64 (hashOf l)) w) :=
  (specHash_same a n c l w h hl).mono fun e w' ⟨he, hw⟩ => ⟨he, hw ▸ Below.refl _ _⟩

theorem fits_cons {x : Int} {l : List Int} (hx : Fit64 x) (hl : Fits64 l) : Fits64 ([x] ++ l) := by
  intro y hy
  rcases List.mem_append.1 hy with h | h
  · rw [List.mem_singleton.1 h]; exact hx
  · exact hl y h
theorem fits_snoc {x : Int} {l : List Int} (hl : Fits64 l) (hx : Fit64 x) : Fits64 (l ++ [x]) := by
  intro y hy
  rcases List.mem_append.1 hy with h | h
  · exact hl y h
  · rw [List.mem_singleton.1 h]; exact hx
theorem own_one (w : World) (x : Int) (B : Nat) (hB : B ≤ w.heap.size) : Own .i64 3 (w.alloc (.cells #[.int .i64 x] 3)) B (some ⟨w.heap.size, 0, none⟩) 1 1 [x] :=
  ⟨rfl, World.ownsRow_lit w #[.int .i64 x] 1 hB (by unfold maxLen; omega) rfl⟩

set_option maxRecDepth 100000 in
theorem specKeyedHash_any (k : Int) (a : Option Addr) (n c : Nat) (l : List Int) (w : World) (hk : Fit64 k) (h : Nums .i64 w a n l) (hn : n ≤ 1000000000000) (hl : Fits64 l) :
    Calls Try.prog 32 #[.int .i64 k, .slice a n c] w (Told (.int .i64 (khash k l)) w) := by
  have HK := Lib.hid hk
  have H := Lib.hid h
  have HL := Lib.hid hl
  clear hk h hl
  obtain ⟨i0, hi, hz0, hz1, hz2⟩ := info_parts infoIntS
  have HI := Lib.hid (And.intro hi (And.intro hz0 (And.intro hz1 hz2)))
  clear hi hz0 hz1 hz2
  go_enter Try.func32, Try.ntmps32
  go_wp2_with (at_builtin; refine wpl_app _ rfl (.tmp 6) (.tmp 7) 29 rfl .i64 3 i0 (.int .i64 0) 8 Try.underlying29 HI.out.1 HI.out.2.1 HI.out.2.2.1 HI.out.2.2.2 rfl rfl (own_one _ k w.heap.size (Nat.le_refl _)) rfl (H.out.same (alloc_same _ _)) (by omega) ?c1 ?c2 ?_)
  case c1 => omega
  case c2 => simp
  intro a1 c1 w1 ho1 hb1
  have HO1 := Lib.hid ho1
  have HB1 := Lib.hid ((alloc_same w (.cells #[.int .i64 k] 3)).trans hb1)
  clear ho1 hb1
  go_wp2_with (at_builtin; refine wpl_app _ rfl (.tmp 8) (.tmp 10) 29 rfl .i64 3 i0 (.int .i64 0) 8 Try.underlying29 HI.out.1 HI.out.2.1 HI.out.2.2.1 HI.out.2.2.2 rfl rfl (HO1.out.alloc _) rfl (nums_new _ _ _ _) (by omega) ?c3 ?c4 ?_)
  case c3 => omega
  case c4 => have := HB1.out.size; simp; omega
  intro a2 c2 w2 ho2 hb2
  have HO2 := Lib.hid ho2
  have HB2 := Lib.hid (HB1.out.trans (((alloc_same _ _).mono HB1.out.size).trans hb2))
  clear ho2 hb2
  go_wp2_with fail
  refine (specHash_same _ _ _ _ _ HO2.out.nums (fits_snoc (fits_cons HK.out HL.out) HK.out)).mono ?_
  rintro e w' ⟨rfl, rfl⟩
  go_wp2_with fail
  go_ret
  exact ⟨ret_i64 (khash_eq k l), HB2.out⟩

theorem isValidKey_any (k : Int) (w : World) :
    Calls Try.prog 27 #[.int .i64 k] w fun e w' => e = .returned (.bool (decide (1 ≤ k) && decide (k ≤ 2147483646))) ∧ w = w' := by
  by_cases h1 : 1 ≤ k <;> by_cases h2 : k ≤ 2147483646 <;> (go_enter Try.func27, Try.ntmps27; go_wp2; go_ret; exact ⟨by simp [h1, h2], rfl⟩)
theorem specIsValidKey_any (k : Int) (w : World) :
    Calls Try.prog 30 #[.int .i64 k] w fun e w' => e = .returned (.bool (decide (1 ≤ k) && decide (k ≤ 2147483646))) ∧ w = w' := by
  by_cases h1 : 1 ≤ k <;> by_cases h2 : k ≤ 2147483646 <;> (go_enter Try.func30, Try.ntmps30; go_wp2; go_ret; exact ⟨by simp [h1, h2], rfl⟩)

/-- The length, then each byte. -/
def b2i (l : List Int) : List Int := (l.length : Int) :: l
theorem b2i_len (l : List Int) : (b2i l).length = l.length + 1 := rfl
def b2iTo (l : List Int) (j : Nat) : List Int := [(l.length : Int)] ++ l.take j
theorem b2iTo_zero (l : List Int) : b2iTo l 0 = [(l.length : Int)] := by simp [b2iTo]
theorem b2iTo_step {l : List Int} {j : Nat} {x : Int} (h : l[j]? = some x) : b2iTo l j ++ [x] = b2iTo l (j + 1) := by unfold b2iTo; rw [take_step l j x h]; simp
theorem b2iTo_all (l : List Int) (n : Nat) (h : l.length ≤ n) : b2iTo l n = b2i l := by unfold b2iTo b2i; rw [List.take_of_length_le h]; rfl

end Go.Proofs.Ytiaknjeeonlbcaa
