/- The hash of the program and that of its model: fold, fold over a list, Hash, KeyedHash. The helpers of the exact laws at slices of bytes: copied, compared, marked, looked at. The helpers of the exact laws at slices of integers: marked, looked at. The hash of the model; valid keys; bytes as integers, in the program and in its model. -/
import Derived.Test.YtcmjadfpifpknaaG1
import Derived.Test.YtcmjadfpifpknaaG11
import Derived.Deep.QuietTactic
import Derived.BigQuiet
import Derived.RegionTactic
import Derived.Test.YtcmjadfpifpknaaG5
namespace Go.Proofs.Ytcmjadfpifpknaa
open Go.ChangeShapes Go.WideShapes Go.ChangeAt Go.RowKit
set_option linter.unusedVariables false

/-- A number that an int holds. -/
abbrev Fit64 (x : Int) : Prop := (Lit.int .i64 x).wf = true
theorem fit_mk {x : Int} (h1 : -9223372036854775808 ≤ x) (h2 : x ≤ 9223372036854775807) : Fit64 x := by
  unfold Fit64
  simp [Lit.wf, IntKind.min, IntKind.max, IntKind.signed, IntKind.bits]
  exact ⟨by omega, by omega⟩

theorem tmod_bounds (p q : Int) (h : 1 ≤ q) : -q < p.tmod q ∧ p.tmod q < q := by
  have h1 := Int.tmod_lt_of_pos p (show 0 < q by omega)
  have h2 := Int.tmod_lt_of_pos (-p) (show 0 < q by omega)
  rw [Int.neg_tmod] at h2
  omega
theorem tmod_sub_emod (p q : Int) : p.tmod q - p % q = q * (p / q - p.tdiv q) := by
  have h1 := Int.tmod_def p q
  have h2 := Int.emod_def p q
  rw [Int.mul_sub]
  omega
theorem tmod_neg_emod (p q : Int) (h : 1 ≤ q) (hn : p.tmod q < 0) : p.tmod q + q = p % q := by
  have h1 := Int.emod_nonneg p (show q ≠ 0 by omega)
  have h2 := Int.emod_lt_of_pos p (show 0 < q by omega)
  have b := tmod_bounds p q h
  have h4 := tmod_sub_emod p q
  have h5 : p / q - p.tdiv q = -1 := by
    generalize p / q - p.tdiv q = t at h4
    rcases Int.lt_trichotomy t (-1) with ht | ht | ht
    · have : q * t ≤ q * (-2) := Int.mul_le_mul_of_nonneg_left (by omega) (by omega)
      omega
    · exact ht
    · have : q * 0 ≤ q * t := Int.mul_le_mul_of_nonneg_left (by omega) (by omega)
      omega
  rw [h5] at h4
  omega
theorem tmod_pos_emod (p q : Int) (h : 1 ≤ q) (hn : 0 ≤ p.tmod q) : p.tmod q = p % q := by
  have h1 := Int.emod_nonneg p (show q ≠ 0 by omega)
  have h2 := Int.emod_lt_of_pos p (show 0 < q by omega)
  have b := tmod_bounds p q h
  have h4 := tmod_sub_emod p q
  have h5 : p / q - p.tdiv q = 0 := by
    generalize p / q - p.tdiv q = t at h4
    rcases Int.lt_trichotomy t 0 with ht | ht | ht
    · have : q * t ≤ q * (-1) := Int.mul_le_mul_of_nonneg_left (by omega) (by omega)
      omega
    · exact ht
    · have : q * 1 ≤ q * t := Int.mul_le_mul_of_nonneg_left (by omega) (by omega)
      omega
  rw [h5] at h4
  omega
theorem ret_i64 {a b : Int} (h : a = b) : Ending.returned (.int .i64 a) = .returned (.int .i64 b) := by rw [h]
/-- Every number of a list is one that an int holds. -/
abbrev Fits64 (l : List Int) : Prop := ∀ x ∈ l, Fit64 x
theorem Fits64.get {l : List Int} (h : Fits64 l) {j : Nat} {x : Int} (hx : l[j]? = some x) : Fit64 x := h x (List.mem_of_getElem? hx)

end Go.Proofs.Ytcmjadfpifpknaa
namespace Go.Proofs.Ytcmjadfpifpknaa
open Go.ChangeShapes Go.WideShapes Go.ChangeAt Go.RowKit
set_option linter.unusedVariables false

theorem infoByteS : (Try.prog.info? 5).map (fun i => (i.zero, i.size, i.bytes)) = some (some (.int .u8 0), 1, 1) := by kernel_rfl

/-- k elements are copied, the others are 0 still. -/
def fillByteS (l : List Int) (j n : Nat) : List Value := ((l.take j ++ List.replicate (n - j) 0).map (Value.int .u8))
theorem fillByteS_zero (l : List Int) (n : Nat) : fillByteS l 0 n = List.replicate n (.int .u8 0) := by unfold fillByteS; simp
theorem fillByteS_all (l : List Int) : fillByteS l l.length l.length = l.map (Value.int .u8) := by unfold fillByteS; simp
theorem fillByteS_step {l : List Int} {j : Nat} {x : Int} (hj : l[j]? = some x) {n : Nat} (hn : l.length = n) : (fillByteS l j n).set j (.int .u8 x) = fillByteS l (j + 1) n := by
  have hlt : j < l.length := by
    rcases Nat.lt_or_ge j l.length with h | h
    · exact h
    · rw [List.getElem?_eq_none h] at hj; cases hj
  unfold fillByteS
  rw [← List.map_set]
  congr 1
  have hl : (l.take j).length = j := by rw [List.length_take]; omega
  rw [List.set_append_right _ _ (by omega), hl, Nat.sub_self, show n - j = (n - (j + 1)) + 1 by omega, List.replicate_succ, List.set_cons_zero, List.take_add_one, hj]
  simp

/-- The marks that are laid: each one more than the one before. -/
def marksByteS (j n : Nat) : List Int := (List.range n).map fun i => (((j + i) % 256 : Nat) : Int)
theorem marksByteS_len (j n : Nat) : (marksByteS j n).length = n := by simp [marksByteS]
theorem marksByteS_get {j n i : Nat} (h : i < n) : (marksByteS j n)[i]? = some ((((j + i) % 256 : Nat) : Int)) := by unfold marksByteS; simp [h]
def partByteS (j0 j n : Nat) (l : List Int) : List Value := ((marksByteS j0 j ++ l.drop j).map (Value.int .u8))
theorem partByteS_zero (j0 n : Nat) (l : List Int) : partByteS j0 0 n l = l.map (Value.int .u8) := by simp [partByteS, marksByteS]
theorem partByteS_all (j0 n : Nat) (l : List Int) (h : l.length = n) : partByteS j0 n n l = (marksByteS j0 n).map (Value.int .u8) := by
  unfold partByteS
  rw [List.drop_eq_nil_of_le (by omega), List.append_nil]
theorem partByteS_step {l : List Int} {i n : Nat} (j : Nat) (hi : i < n) (hn : l.length = n) : (partByteS j i n l).set i (.int .u8 ((((j + i) % 256 : Nat) : Int))) = partByteS j (i + 1) n l := by
  unfold partByteS
  rw [← List.map_set]
  congr 1
  rw [List.set_append_right _ _ (by rw [marksByteS_len]; omega), marksByteS_len, Nat.sub_self, List.drop_eq_getElem_cons (by omega), List.set_cons_zero]
  simp [marksByteS, List.range_succ]

end Go.Proofs.Ytcmjadfpifpknaa
namespace Go.Proofs.Ytcmjadfpifpknaa
open Go.ChangeShapes Go.WideShapes Go.ChangeAt Go.RowKit
set_option linter.unusedVariables false

/-- The marks that are laid: each one more than the one before. -/
def marksIntS (j n : Nat) : List Int := (List.range n).map fun i => ((j + i : Nat) : Int)
theorem marksIntS_len (j n : Nat) : (marksIntS j n).length = n := by simp [marksIntS]
theorem marksIntS_get {j n i : Nat} (h : i < n) : (marksIntS j n)[i]? = some (((j + i : Nat) : Int)) := by unfold marksIntS; simp [h]
def partIntS (j0 j n : Nat) (l : List Int) : List Value := ((marksIntS j0 j ++ l.drop j).map (Value.int .i64))
theorem partIntS_zero (j0 n : Nat) (l : List Int) : partIntS j0 0 n l = l.map (Value.int .i64) := by simp [partIntS, marksIntS]
theorem partIntS_all (j0 n : Nat) (l : List Int) (h : l.length = n) : partIntS j0 n n l = (marksIntS j0 n).map (Value.int .i64) := by
  unfold partIntS
  rw [List.drop_eq_nil_of_le (by omega), List.append_nil]
theorem partIntS_step {l : List Int} {i n : Nat} (j : Nat) (hi : i < n) (hn : l.length = n) : (partIntS j i n l).set i (.int .i64 (((j + i : Nat) : Int))) = partIntS j (i + 1) n l := by
  unfold partIntS
  rw [← List.map_set]
  congr 1
  rw [List.set_append_right _ _ (by rw [marksIntS_len]; omega), marksIntS_len, Nat.sub_self, List.drop_eq_getElem_cons (by omega), List.set_cons_zero]
  simp [marksIntS, List.range_succ]

set_option maxRecDepth 100000 in
theorem markIntS_any (B : Nat) (a : Option Addr) (n c j0 : Nat) (l : List Int) (w : World) (h : Own .i64 3 w B a n c l) (h0 : j0 ≤ 1000000000000) (hn : n ≤ 1000000000000) :
    Calls Try.prog 42 #[.slice a n c, .int .i64 j0] w fun e w' => e = .returned (.int .i64 ((j0 + n : Nat) : Int)) ∧ Own .i64 3 w' B a n c (marksIntS j0 n) ∧ w.grownBy w' (Value.ownBlock (.slice a n c)) := by
  have H := Lib.hid h
  clear h
  go_enter Try.func42, Try.ntmps42
  go_wp2
  go_loopw [1, 5] (fun q i wr => ∃ j : Nat, j ≤ n ∧ i = .int .i64 j ∧ q = .int .i64 ((j0 + j : Nat) : Int) ∧ wr.ownsRow B 3 1 (.slice a n c) n (partIntS j0 j n l) ∧ w.grownBy wr (Value.ownBlock (.slice a n c))) (fun _ i _ => n - (intOf i).toNat)
  case atStart => exact ⟨0, Nat.zero_le _, rfl, rfl, by rw [partIntS_zero]; exact H.out.2, grown_below (Below.refl _ _) _⟩
  case round =>
    obtain ⟨i, hi, rfl, rfl, hown, hg⟩ := hrel
    have HO := Lib.hid hown
    have HG := Lib.hid hg
    clear hown hg
    by_cases hlt : i < n
    · obtain ⟨g, e, _, _⟩ := H.out.head (by omega)
      subst e
      have hf := HO.out.frozenAt i
      obtain ⟨u, hu⟩ : ∃ u, wr.cell? ⟨g, i, none⟩ = some u := by
        rw [HO.out.cellAt i (by omega)]
        have : i < (partIntS j0 i n l).length := by rw [HO.out.1]; omega
        exact ⟨_, List.getElem?_eq_getElem this⟩
      go_wp2
      go_roundw
      case rel =>
        have hs := HO.out.stored i (.int .i64 (((j0 + i : Nat) : Int)))
        rw [partIntS_step _ hlt H.out.len] at hs
        exact ⟨i + 1, by omega, by go_num, by go_num, hs.1, HG.out.trans hs.2⟩
      case measure => simp [intOf]; omega
    · obtain rfl : i = n := by omega
      go_wp2
      go_ret
      have h1 := HO.out
      rw [partIntS_all _ _ _ H.out.len] at h1
      exact ⟨rfl, ⟨marksIntS_len _ _, h1⟩, HG.out⟩

set_option maxRecDepth 100000 in
theorem heldIntS_any (a : Option Addr) (n c j0 : Nat) (w : World) (h : Nums .i64 w a n (marksIntS j0 n)) (h0 : j0 ≤ 1000000000000) (hn : n ≤ 1000000000000) :
    Calls Try.prog 44 #[.slice a n c, .int .i64 j0] w (Told (.int .i64 ((j0 + n : Nat) : Int)) w) := by
  have H := Lib.hid h
  clear h
  go_enter Try.func44, Try.ntmps44
  go_wp2
  go_loop [1, 5] (fun q i => ∃ j : Nat, j ≤ n ∧ i = .int .i64 j ∧ q = .int .i64 ((j0 + j : Nat) : Int)) (fun _ i => n - (intOf i).toNat)
  case atStart => exact ⟨0, Nat.zero_le _, rfl, rfl⟩
  case round =>
    obtain ⟨i, hi, rfl, rfl⟩ := hrel
    by_cases hlt : i < n
    · obtain ⟨ad, x, rfl, hx, hc⟩ := H.out.at_ hlt
      rw [marksIntS_get hlt] at hx
      cases hx
      go_wp2
      go_round
      case rel => exact ⟨i + 1, by omega, by go_num, by go_num⟩
      case measure => simp [intOf]; omega
    · obtain rfl : i = n := by omega
      go_wp2
      go_ret
      exact ⟨rfl, Below.refl _ _⟩
end Go.Proofs.Ytcmjadfpifpknaa
namespace Go.Proofs.Ytcmjadfpifpknaa
open Go.ChangeShapes Go.WideShapes Go.ChangeAt Go.RowKit
set_option linter.unusedVariables false

theorem fits_cons {x : Int} {l : List Int} (hx : Fit64 x) (hl : Fits64 l) : Fits64 ([x] ++ l) := by
  intro y hy
  rcases List.mem_append.1 hy with h | h
  · rw [List.mem_singleton.1 h]; exact hx
  · exact hl y h
theorem fits_snoc {x : Int} {l : List Int} (hl : Fits64 l) (hx : Fit64 x) : Fits64 (l ++ [x]) := by
  intro y hy
  rcases List.mem_append.1 hy with h | h
  · exact hl y h
  · rw [List.mem_singleton.1 h]; exact hx
theorem own_one (w : World) (x : Int) (B : Nat) (hB : B ≤ w.heap.size) : Own .i64 3 (w.alloc (.cells #[.int .i64 x] 3)) B (some ⟨w.heap.size, 0, none⟩) 1 1 [x] :=
  ⟨rfl, World.ownsRow_lit w #[.int .i64 x] 1 hB (by unfold maxLen; omega) rfl⟩

/-- The length, then each byte. -/
def b2i (l : List Int) : List Int := (l.length : Int) :: l
theorem b2i_len (l : List Int) : (b2i l).length = l.length + 1 := rfl
def b2iTo (l : List Int) (j : Nat) : List Int := [(l.length : Int)] ++ l.take j
theorem b2iTo_zero (l : List Int) : b2iTo l 0 = [(l.length : Int)] := by simp [b2iTo]
theorem b2iTo_step {l : List Int} {j : Nat} {x : Int} (h : l[j]? = some x) : b2iTo l j ++ [x] = b2iTo l (j + 1) := by unfold b2iTo; rw [take_step l j x h]; simp
theorem b2iTo_all (l : List Int) (n : Nat) (h : l.length ≤ n) : b2iTo l n = b2i l := by unfold b2iTo b2i; rw [List.take_of_length_le h]; rfl

end Go.Proofs.Ytcmjadfpifpknaa
