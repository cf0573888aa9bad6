/- The helpers of the exact laws at slices of integers: marked, looked at. -/
import Derived.Test.YtckmgbobkffabaaIntT
namespace Go.Proofs.Ytckmgbobkffabaa
open Go.ChangeShapes Go.WideShapes Go.ChangeAt Go.RowKit
set_option linter.unusedVariables false

/-- The marks that are laid: each one more than the one before. -/
def marksIntS (j n : Nat) : List Int := (List.range n).map fun i => ((j + i : Nat) : Int)
theorem marksIntS_len (j n : Nat) : (marksIntS j n).length = n := by simp [marksIntS]
theorem marksIntS_get {j n i : Nat} (h : i < n) : (marksIntS j n)[i]? = some (((j + i : Nat) : Int)) := by unfold marksIntS; simp [h]
def partIntS (j0 j n : Nat) (l : List Int) : List Value := ((marksIntS j0 j ++ l.drop j).map (Value.int .i64))
theorem partIntS_zero (j0 n : Nat) (l : List Int) : partIntS j0 0 n l = l.map (Value.int .i64) := by simp [partIntS, marksIntS]
theorem partIntS_all (j0 n : Nat) (l : List Int) (h : l.length = n) : partIntS j0 n n l = (marksIntS j0 n).map (Value.int .i64) := by
  unfold partIntS
  rw [List.drop_eq_nil_of_le (by omega), List.append_nil]
theorem partIntS_step {l : List Int} {i n : Nat} (j : Nat) (hi : i < n) (hn : l.length = n) : (partIntS j i n l).set i (.int .i64 (((j + i : Nat) : Int))) = partIntS j (i + 1) n l := by
  unfold partIntS
  rw [← List.map_set]
  congr 1
  rw [List.set_append_right _ _ (by rw [marksIntS_len]; omega), marksIntS_len, Nat.sub_self, List.drop_eq_getElem_cons (by omega), List.set_cons_zero]
  simp [marksIntS, List.range_succ]

set_option maxRecDepth 100000 in
theorem markIntS_any (B : Nat) (a : Option Addr) (n c j0 : Nat) (l : List Int) (w : World) (h : Own .i64 3 w B a n c l) (h0 : j0 ≤ 1000000000000) (hn : n ≤ 1000000000000) :
    Calls Try.prog 40 #[.slice a n c, .int .i64 j0] w fun e w' => e = .returned (.int .i64 ((j0 + n : Nat) : Int)) ∧ Own .i64 3 w' B a n c (marksIntS j0 n) ∧ w.grownBy w' (Value.ownBlock (.slice a n c)) := by
  have H := Lib.hid h
  clear h
  go_enter Try.func40, Try.ntmps40
  go_wp2
  go_loopw [1, 5] (fun q i wr => ∃ j : Nat, j ≤ n ∧ i = .int .i64 j ∧ q = .int .i64 ((j0 + j : Nat) : Int) ∧ wr.ownsRow B 3 1 (.slice a n c) n (partIntS j0 j n l) ∧ w.grownBy wr (Value.ownBlock (.slice a n c))) (fun _ i _ => n - (intOf i).toNat)
  case atStart => exact ⟨0, Nat.zero_le _, rfl, rfl, by rw [partIntS_zero]; exact H.out.2, grown_below (Below.refl _ _) _⟩
  case round =>
    obtain ⟨i, hi, rfl, rfl, hown, hg⟩ := hrel
    have HO := Lib.hid hown
    have HG := Lib.hid hg
    clear hown hg
    by_cases hlt : i < n
    · obtain ⟨g, e, _, _⟩ := H.out.head (by omega)
      subst e
      have hf := HO.out.frozenAt i
      obtain ⟨u, hu⟩ : ∃ u, wr.cell? ⟨g, i, none⟩ = some u := by
        rw [HO.out.cellAt i (by omega)]
        have : i < (partIntS j0 i n l).length := by rw [HO.out.1]; omega
        exact ⟨_, List.getElem?_eq_getElem this⟩
      go_wp2
      go_roundw
      case rel =>
        have hs := HO.out.stored i (.int .i64 (((j0 + i : Nat) : Int)))
        rw [partIntS_step _ hlt H.out.len] at hs
        exact ⟨i + 1, by omega, by go_num, by go_num, hs.1, HG.out.trans hs.2⟩
      case measure => simp [intOf]; omega
    · obtain rfl : i = n := by omega
      go_wp2
      go_ret
      have h1 := HO.out
      rw [partIntS_all _ _ _ H.out.len] at h1
      exact ⟨rfl, ⟨marksIntS_len _ _, h1⟩, HG.out⟩

set_option maxRecDepth 100000 in
theorem heldIntS_any (a : Option Addr) (n c j0 : Nat) (w : World) (h : Nums .i64 w a n (marksIntS j0 n)) (h0 : j0 ≤ 1000000000000) (hn : n ≤ 1000000000000) :
    Calls Try.prog 41 #[.slice a n c, .int .i64 j0] w (Told (.int .i64 ((j0 + n : Nat) : Int)) w) := by
  have H := Lib.hid h
  clear h
  go_enter Try.func41, Try.ntmps41
  go_wp2
  go_loop [1, 5] (fun q i => ∃ j : Nat, j ≤ n ∧ i = .int .i64 j ∧ q = .int .i64 ((j0 + j : Nat) : Int)) (fun _ i => n - (intOf i).toNat)
  case atStart => exact ⟨0, Nat.zero_le _, rfl, rfl⟩
  case round =>
    obtain ⟨i, hi, rfl, rfl⟩ := hrel
    by_cases hlt : i < n
    · obtain ⟨ad, x, rfl, hx, hc⟩ := H.out.at_ hlt
      rw [marksIntS_get hlt] at hx
      cases hx
      go_wp2
      go_round
      case rel => exact ⟨i + 1, by omega, by go_num, by go_num⟩
      case measure => simp [intOf]; omega
    · obtain rfl : i = n := by omega
      go_wp2
      go_ret
      exact ⟨rfl, Below.refl _ _⟩
end Go.Proofs.Ytckmgbobkffabaa
