/- The helpers of the exact laws at slices of bytes: copied, compared, marked, looked at. The helpers of the exact laws at slices of integers: marked, looked at. The hash of the model; valid keys; bytes as integers, in the program and in its model. A number that is picked by a seed, a place and a bound, in the program and in its model. Reserved values in motion, as mathematics: which tag a seed inserts, with which bytes and where; what stays when reserved tags are taken away. -/
import Derived.Test.YtgkacnngodamgaaG1
import Derived.Deep.QuietTactic
import Derived.BigQuiet
import Derived.RegionTactic
import Derived.Test.YtgkacnngodamgaaG6
import Derived.Test.YtgkacnngodamgaaG14
import Derived.Test.YtgkacnngodamgaaG2
import Derived.Test.YtgkacnngodamgaaG12
namespace Go.Proofs.Ytgkacnngodamgaa
open Go.ChangeShapes Go.WideShapes Go.ChangeAt Go.RowKit
set_option linter.unusedVariables false

theorem infoByteS : (Try.prog.info? 5).map (fun i => (i.zero, i.size, i.bytes)) = some (some (.int .u8 0), 1, 1) := by kernel_rfl

/-- k elements are copied, the others are 0 still. -/
def fillByteS (l : List Int) (j n : Nat) : List Value := ((l.take j ++ List.replicate (n - j) 0).map (Value.int .u8))
theorem fillByteS_zero (l : List Int) (n : Nat) : fillByteS l 0 n = List.replicate n (.int .u8 0) := by unfold fillByteS; simp
theorem fillByteS_all (l : List Int) : fillByteS l l.length l.length = l.map (Value.int .u8) := by unfold fillByteS; simp
theorem fillByteS_step {l : List Int} {j : Nat} {x : Int} (hj : l[j]? = some x) {n : Nat} (hn : l.length = n) : (fillByteS l j n).set j (.int .u8 x) = fillByteS l (j + 1) n := by
  have hlt : j < l.length := by
    rcases Nat.lt_or_ge j l.length with h | h
    · exact h
    · rw [List.getElem?_eq_none h] at hj; cases hj
  unfold fillByteS
  rw [← List.map_set]
  congr 1
  have hl : (l.take j).length = j := by rw [List.length_take]; omega
  rw [List.set_append_right _ _ (by omega), hl, Nat.sub_self, show n - j = (n - (j + 1)) + 1 by omega, List.replicate_succ, List.set_cons_zero, List.take_add_one, hj]
  simp

/-- The marks that are laid: each one more than the one before. -/
def marksByteS (j n : Nat) : List Int := (List.range n).map fun i => (((j + i) % 256 : Nat) : Int)
theorem marksByteS_len (j n : Nat) : (marksByteS j n).length = n := by simp [marksByteS]
theorem marksByteS_get {j n i : Nat} (h : i < n) : (marksByteS j n)[i]? = some ((((j + i) % 256 : Nat) : Int)) := by unfold marksByteS; simp [h]
def partByteS (j0 j n : Nat) (l : List Int) : List Value := ((marksByteS j0 j ++ l.drop j).map (Value.int .u8))
theorem partByteS_zero (j0 n : Nat) (l : List Int) : partByteS j0 0 n l = l.map (Value.int .u8) := by simp [partByteS, marksByteS]
theorem partByteS_all (j0 n : Nat) (l : List Int) (h : l.length = n) : partByteS j0 n n l = (marksByteS j0 n).map (Value.int .u8) := by
  unfold partByteS
  rw [List.drop_eq_nil_of_le (by omega), List.append_nil]
theorem partByteS_step {l : List Int} {i n : Nat} (j : Nat) (hi : i < n) (hn : l.length = n) : (partByteS j i n l).set i (.int .u8 ((((j + i) % 256 : Nat) : Int))) = partByteS j (i + 1) n l := by
  unfold partByteS
  rw [← List.map_set]
  congr 1
  rw [List.set_append_right _ _ (by rw [marksByteS_len]; omega), marksByteS_len, Nat.sub_self, List.drop_eq_getElem_cons (by omega), List.set_cons_zero]
  simp [marksByteS, List.range_succ]

end Go.Proofs.Ytgkacnngodamgaa
namespace Go.Proofs.Ytgkacnngodamgaa
open Go.ChangeShapes Go.WideShapes Go.ChangeAt Go.RowKit
set_option linter.unusedVariables false

/-- The marks that are laid: each one more than the one before. -/
def marksIntS (j n : Nat) : List Int := (List.range n).map fun i => ((j + i : Nat) : Int)
theorem marksIntS_len (j n : Nat) : (marksIntS j n).length = n := by simp [marksIntS]
theorem marksIntS_get {j n i : Nat} (h : i < n) : (marksIntS j n)[i]? = some (((j + i : Nat) : Int)) := by unfold marksIntS; simp [h]
def partIntS (j0 j n : Nat) (l : List Int) : List Value := ((marksIntS j0 j ++ l.drop j).map (Value.int .i64))
theorem partIntS_zero (j0 n : Nat) (l : List Int) : partIntS j0 0 n l = l.map (Value.int .i64) := by simp [partIntS, marksIntS]
theorem partIntS_all (j0 n : Nat) (l : List Int) (h : l.length = n) : partIntS j0 n n l = (marksIntS j0 n).map (Value.int .i64) := by
  unfold partIntS
  rw [List.drop_eq_nil_of_le (by omega), List.append_nil]
theorem partIntS_step {l : List Int} {i n : Nat} (j : Nat) (hi : i < n) (hn : l.length = n) : (partIntS j i n l).set i (.int .i64 (((j + i : Nat) : Int))) = partIntS j (i + 1) n l := by
  unfold partIntS
  rw [← List.map_set]
  congr 1
  rw [List.set_append_right _ _ (by rw [marksIntS_len]; omega), marksIntS_len, Nat.sub_self, List.drop_eq_getElem_cons (by omega), List.set_cons_zero]
  simp [marksIntS, List.range_succ]

set_option maxRecDepth 100000 in
theorem markIntS_any (B : Nat) (a : Option Addr) (n c j0 : Nat) (l : List Int) (w : World) (h : Own .i64 3 w B a n c l) (h0 : j0 ≤ 1000000000000) (hn : n ≤ 1000000000000) :
    Calls Try.prog 37 #[.slice a n c, .int .i64 j0] w fun e w' => e = .returned (.int .i64 ((j0 + n : Nat) : Int)) ∧ Own .i64 3 w' B a n c (marksIntS j0 n) ∧ w.grownBy w' (Value.ownBlock (.slice a n c)) := by
  have H := Lib.hid h
  clear h
  go_enter Try.func37, Try.ntmps37
  go_wp2
  go_loopw [1, 5] (fun q i wr => ∃ j : Nat, j ≤ n ∧ i = .int .i64 j ∧ q = .int .i64 ((j0 + j : Nat) : Int) ∧ wr.ownsRow B 3 1 (.slice a n c) n (partIntS j0 j n l) ∧ w.grownBy wr (Value.ownBlock (.slice a n c))) (fun _ i _ => n - (intOf i).toNat)
  case atStart => exact ⟨0, Nat.zero_le _, rfl, rfl, by rw [partIntS_zero]; exact H.out.2, grown_below (Below.refl _ _) _⟩
  case round =>
    obtain ⟨i, hi, rfl, rfl, hown, hg⟩ := hrel
    have HO := Lib.hid hown
    have HG := Lib.hid hg
    clear hown hg
    by_cases hlt : i < n
    · obtain ⟨g, e, _, _⟩ := H.out.head (by omega)
      subst e
      have hf := HO.out.frozenAt i
      obtain ⟨u, hu⟩ : ∃ u, wr.cell? ⟨g, i, none⟩ = some u := by
        rw [HO.out.cellAt i (by omega)]
        have : i < (partIntS j0 i n l).length := by rw [HO.out.1]; omega
        exact ⟨_, List.getElem?_eq_getElem this⟩
      go_wp2
      go_roundw
      case rel =>
        have hs := HO.out.stored i (.int .i64 (((j0 + i : Nat) : Int)))
        rw [partIntS_step _ hlt H.out.len] at hs
        exact ⟨i + 1, by omega, by go_num, by go_num, hs.1, HG.out.trans hs.2⟩
      case measure => simp [intOf]; omega
    · obtain rfl : i = n := by omega
      go_wp2
      go_ret
      have h1 := HO.out
      rw [partIntS_all _ _ _ H.out.len] at h1
      exact ⟨rfl, ⟨marksIntS_len _ _, h1⟩, HG.out⟩

set_option maxRecDepth 100000 in
theorem heldIntS_any (a : Option Addr) (n c j0 : Nat) (w : World) (h : Nums .i64 w a n (marksIntS j0 n)) (h0 : j0 ≤ 1000000000000) (hn : n ≤ 1000000000000) :
    Calls Try.prog 71 #[.slice a n c, .int .i64 j0] w (Told (.int .i64 ((j0 + n : Nat) : Int)) w) := by
  have H := Lib.hid h
  clear h
  go_enter Try.func71, Try.ntmps71
  go_wp2
  go_loop [1, 5] (fun q i => ∃ j : Nat, j ≤ n ∧ i = .int .i64 j ∧ q = .int .i64 ((j0 + j : Nat) : Int)) (fun _ i => n - (intOf i).toNat)
  case atStart => exact ⟨0, Nat.zero_le _, rfl, rfl⟩
  case round =>
    obtain ⟨i, hi, rfl, rfl⟩ := hrel
    by_cases hlt : i < n
    · obtain ⟨ad, x, rfl, hx, hc⟩ := H.out.at_ hlt
      rw [marksIntS_get hlt] at hx
      cases hx
      go_wp2
      go_round
      case rel => exact ⟨i + 1, by omega, by go_num, by go_num⟩
      case measure => simp [intOf]; omega
    · obtain rfl : i = n := by omega
      go_wp2
      go_ret
      exact ⟨rfl, Below.refl _ _⟩
end Go.Proofs.Ytgkacnngodamgaa
namespace Go.Proofs.Ytgkacnngodamgaa
open Go.ChangeShapes Go.WideShapes Go.ChangeAt Go.RowKit
set_option linter.unusedVariables false

theorem specHash_same (a : Option Addr) (n c : Nat) (l : List Int) (w : World) (h : Nums .i64 w a n l) (hl : Fits64 l) :
    Calls Try.prog 94 #[.slice a n c] w fun e w' => e = .returned (.int .i64 (hashOf l)) ∧ w = w' := by
  have hn := h.fits
  have H := Lib.hid h
  have HL := Lib.hid hl
  clear h hl
  go_enter Try.func94, Try.ntmps94
  go_wp2
  go_loop [3, 4] (fun v i => ∃ j : Nat, j ≤ n ∧ i = .int .i64 j ∧ v = .int .i64 (hashFrom 11 (l.take j))) (fun _ i => n - (intOf i).toNat)
  case atStart => exact ⟨0, Nat.zero_le _, rfl, rfl⟩
  case round =>
    obtain ⟨j, hj, rfl, rfl⟩ := hrel
    obtain ⟨hb0, hb1⟩ := hashFrom_bd (l.take j) 11 (by omega) (by omega)
    by_cases hlt : j < n
    · obtain ⟨ad, x, rfl, hx, hc⟩ := H.out.at_ hlt
      have b1 : 0 ≤ x % 2147483647 := by omega
      have b2 : x % 2147483647 < 2147483647 := by omega
      have HX := Lib.hid hx
      clear hx
      go_wp2_with (go_at_call 93; refine (specMod_in _ _ (by omega) (by omega) (HL.out.get HX.out) _).mono ?_; rintro e w' ⟨rfl, rfl⟩)
      go_round
      case rel => exact ⟨j + 1, by omega, by go_num, by rw [hashFrom_take _ _ _ _ HX.out]; rfl⟩
      case measure => simp [intOf]; omega
    · obtain rfl : j = n := by omega
      go_wp2
      go_ret
      exact ⟨ret_i64 (by rw [List.take_of_length_le (by have := H.out.len; omega)]; rfl), rfl⟩
theorem specHash_any (a : Option Addr) (n c : Nat) (l : List Int) (w : World) (h : Nums .i64 w a n l) (hl : Fits64 l) :
    Calls Try.prog 94 #[.slice a n c] w (Told (.int .i64 (hashOf l)) w) :=
  (specHash_same a n c l w h hl).mono fun e w' ⟨he, hw⟩ => ⟨he, hw ▸ Below.refl _ _⟩

theorem fits_cons {x : Int} {l : List Int} (hx : Fit64 x) (hl : Fits64 l) : Fits64 ([x] ++ l) := by
  intro y hy
  rcases List.mem_append.1 hy with h | h
  · rw [List.mem_singleton.1 h]; exact hx
  · exact hl y h
theorem fits_snoc {x : Int} {l : List Int} (hl : Fits64 l) (hx : Fit64 x) : Fits64 (l ++ [x]) := by
  intro y hy
  rcases List.mem_append.1 hy with h | h
  · exact hl y h
  · rw [List.mem_singleton.1 h]; exact hx
theorem own_one (w : World) (x : Int) (B : Nat) (hB : B ≤ w.heap.size) : Own .i64 3 (w.alloc (.cells #[.int .i64 x] 3)) B (some ⟨w.heap.size, 0, none⟩) 1 1 [x] :=
  ⟨rfl, World.ownsRow_lit w #[.int .i64 x] 1 hB (by unfold maxLen; omega) rfl⟩

/-- The length, then each byte. -/
def b2i (l : List Int) : List Int := (l.length : Int) :: l
theorem b2i_len (l : List Int) : (b2i l).length = l.length + 1 := rfl
def b2iTo (l : List Int) (j : Nat) : List Int := [(l.length : Int)] ++ l.take j
theorem b2iTo_zero (l : List Int) : b2iTo l 0 = [(l.length : Int)] := by simp [b2iTo]
theorem b2iTo_step {l : List Int} {j : Nat} {x : Int} (h : l[j]? = some x) : b2iTo l j ++ [x] = b2iTo l (j + 1) := by unfold b2iTo; rw [take_step l j x h]; simp
theorem b2iTo_all (l : List Int) (n : Nat) (h : l.length ≤ n) : b2iTo l n = b2i l := by unfold b2iTo b2i; rw [List.take_of_length_le h]; rfl

end Go.Proofs.Ytgkacnngodamgaa
namespace Go.Proofs.Ytgkacnngodamgaa
open Go.ChangeShapes Go.WideShapes Go.ChangeAt Go.RowKit
set_option linter.unusedVariables false

/-- The remainder where the divisor is in range, else 0. -/
def modOf (p q : Int) : Int := if 1 ≤ q ∧ q ≤ 1000000000000 then p % q else 0
/-- The number that is picked. -/
def pickOf (s p n : Int) : Int := modOf (hashOf [s, p]) n
theorem pickOf_few {s p n : Int} (h : n < 1) : pickOf s p n = 0 := by unfold pickOf modOf; rw [if_neg (by omega)]
theorem pickOf_bd (s p n : Int) : 0 ≤ pickOf s p n ∧ pickOf s p n ≤ 1000000000000 ∧ (1 ≤ n → pickOf s p n < n) := by
  unfold pickOf modOf
  by_cases h : 1 ≤ n ∧ n ≤ 1000000000000
  · rw [if_pos h]
    have h1 := Int.emod_nonneg (hashOf [s, p]) (show n ≠ 0 by omega)
    have h2 := Int.emod_lt_of_pos (hashOf [s, p]) (show 0 < n by omega)
    omega
  · rw [if_neg h]; omega

theorem modI_any (p q : Int) (w0 : Fit64 p) (w1 : Fit64 q) (w : World) :
    Calls Try.prog 86 #[.int .i64 p, .int .i64 q] w fun e w' => e = .returned (.int .i64 (modOf p q)) ∧ w = w' := by
  have b1 := bounds_i64 w1
  by_cases h : 1 ≤ q ∧ q ≤ 1000000000000
  · rw [show modOf p q = p % q from if_pos h]
    exact mod_in p q h.1 h.2 w0 w
  · rw [show modOf p q = 0 from if_neg h]
    have b0 := bounds_i64 w0
    clear w0 w1
    by_cases h1 : 1 ≤ q
    · have h2 : ¬ q ≤ 1000000000000 := fun e => h ⟨h1, e⟩
      clear h
      go_enter Try.func86, Try.ntmps86
      go_wp2
      go_ret
      exact ⟨rfl, rfl⟩
    · go_enter Try.func86, Try.ntmps86
      go_wp2
      go_ret
      exact ⟨rfl, rfl⟩
theorem modS_any (p q : Int) (w0 : Fit64 p) (w1 : Fit64 q) (w : World) :
    Calls Try.prog 93 #[.int .i64 p, .int .i64 q] w fun e w' => e = .returned (.int .i64 (modOf p q)) ∧ w = w' := by
  have b1 := bounds_i64 w1
  by_cases h : 1 ≤ q ∧ q ≤ 1000000000000
  · rw [show modOf p q = p % q from if_pos h]
    exact specMod_in p q h.1 h.2 w0 w
  · rw [show modOf p q = 0 from if_neg h]
    have b0 := bounds_i64 w0
    clear w0 w1
    by_cases h1 : 1 ≤ q
    · have h2 : ¬ q ≤ 1000000000000 := fun e => h ⟨h1, e⟩
      clear h
      go_enter Try.func93, Try.ntmps93
      go_wp2
      go_ret
      exact ⟨rfl, rfl⟩
    · go_enter Try.func93, Try.ntmps93
      go_wp2
      go_ret
      exact ⟨rfl, rfl⟩

theorem nums_two (w : World) (k : IntKind) (x y : Int) (t : TypeId) : Nums k (w.alloc (.cells #[.int k x, .int k y] t)) (some ⟨w.heap.size, 0, none⟩) 2 [x, y] :=
  ⟨rfl, by omega, fun j hj => ⟨_, rfl, by
    have hb : (w.alloc (.cells #[.int k x, .int k y] t)).heap[w.heap.size]? = some (.cells #[.int k x, .int k y] t (0, 0)) := heap_alloc_new w _
    have hj' : j = 0 ∨ j = 1 := by omega
    rcases hj' with rfl | rfl
    · exact block_cell hb 0
    · exact block_cell hb 1⟩⟩
theorem fits_two {x y : Int} (hx : Fit64 x) (hy : Fit64 y) : Fits64 [x, y] := by
  intro z hz
  simp at hz
  rcases hz with rfl | rfl
  · exact hx
  · exact hy
theorem hash_fit (l : List Int) : Fit64 (hashOf l) := by have := hashOf_bd l; exact fit_mk (by omega) (by omega)

theorem pickOf_any (s p n : Int) (w : World) (hs : Fit64 s) (hp : Fit64 p) (hn : Fit64 n) :
    Calls Try.prog 63 #[.int .i64 s, .int .i64 p, .int .i64 n] w (Told (.int .i64 (pickOf s p n)) w) := by
  have HS := Lib.hid (fits_two hs hp)
  have HN := Lib.hid hn
  have KN := Lib.hid (nums_two w .i64 s p 3)
  have KB := Lib.hid (alloc_same w (.cells #[.int .i64 s, .int .i64 p] 3))
  clear hs hp hn
  go_enter Try.func63, Try.ntmps63
  go_wp2_with fail
  refine (hash_any _ _ _ _ _ KN.out HS.out).mono ?_
  rintro e w1 ⟨rfl, hb1⟩
  have HB := Lib.hid (KB.out.trans (hb1.mono KB.out.size))
  clear hb1
  go_wp2_with fail
  refine (modI_any _ _ (hash_fit _) HN.out _).mono ?_
  rintro e w2 ⟨rfl, rfl⟩
  go_wp2_with fail
  go_ret
  exact ⟨rfl, HB.out⟩
theorem specPickOf_any (s p n : Int) (w : World) (hs : Fit64 s) (hp : Fit64 p) (hn : Fit64 n) :
    Calls Try.prog 76 #[.int .i64 s, .int .i64 p, .int .i64 n] w (Told (.int .i64 (pickOf s p n)) w) := by
  by_cases h1 : n < 1
  · rw [pickOf_few h1]
    go_enter Try.func76, Try.ntmps76
    go_wp2_with fail
    go_ret
    exact ⟨rfl, Below.refl _ _⟩
  have HS := Lib.hid (fits_two hs hp)
  have HN := Lib.hid hn
  have KN := Lib.hid (nums_two w .i64 s p 3)
  have KB := Lib.hid (alloc_same w (.cells #[.int .i64 s, .int .i64 p] 3))
  clear hs hp hn
  go_enter Try.func76, Try.ntmps76
  go_wp2_with fail
  refine (specHash_any _ _ _ _ _ KN.out HS.out).mono ?_
  rintro e w1 ⟨rfl, hb1⟩
  have HB := Lib.hid (KB.out.trans (hb1.mono KB.out.size))
  clear hb1
  go_wp2_with fail
  refine (modS_any _ _ (hash_fit _) HN.out _).mono ?_
  rintro e w2 ⟨rfl, rfl⟩
  go_wp2_with fail
  go_ret
  exact ⟨rfl, HB.out⟩
end Go.Proofs.Ytgkacnngodamgaa
namespace Go.Proofs.Ytgkacnngodamgaa
set_option linter.unusedVariables false

def tagG (s : Int) : Int := 16 * pickOf s 0 16 + 10
def sizeG (s : Int) : Nat := (pickOf s 2 3).toNat
def bodyG (s : Int) : List Int := List.replicate (sizeG s) (pickOf s 3 256)
def placeG (l : List Vl) (s : Int) : Nat := (pickOf s 1 (l.length + 1 : Nat)).toNat
/-- Whether a seed inserts an extension. -/
def wantG (l : List Vl) (s : Int) : Bool := areX l && decide (l.length < 6) && decide (¬ tagG s ∈ tagsX l)
def addX (l : List Vl) (s : Int) : List Vl := if wantG l s then l.take (placeG l s) ++ ⟨tagG s, bodyG s⟩ :: l.drop (placeG l s) else l
def strX (l : List Vl) : List Vl := whX (fun t => !resv t) l
def hasG (l : List Vl) : Bool := (tagsX l).any resv
theorem tagG_bd (s : Int) : 0 ≤ pickOf s 0 16 ∧ pickOf s 0 16 ≤ 15 := by
  have h := pickOf_bd s 0 16
  have := h.2.2 (by omega)
  omega
theorem tagG_resv (s : Int) : resv (tagG s) = true := by
  have h := tagG_bd s
  unfold resv tagG
  rw [Bool.and_eq_true]
  refine ⟨inB_iff.2 (by omega), ?_⟩
  rw [beq_iff_eq]
  omega
theorem tagG_in (s : Int) : 10 ≤ tagG s ∧ tagG s ≤ 250 := by
  have h := tagG_bd s
  unfold tagG
  omega
theorem sizeG_few (s : Int) : sizeG s ≤ 2 := by
  have h := pickOf_bd s 2 3
  have := h.2.2 (by omega)
  unfold sizeG
  omega
theorem bodyG_len (s : Int) : (bodyG s).length = sizeG s := by simp [bodyG]
theorem fillG_bd (s : Int) : 0 ≤ pickOf s 3 256 ∧ pickOf s 3 256 ≤ 255 := by
  have h := pickOf_bd s 3 256
  have := h.2.2 (by omega)
  omega
theorem placeG_le (l : List Vl) (s : Int) : placeG l s ≤ l.length := by
  have h := pickOf_bd s 1 (l.length + 1 : Nat)
  have := h.2.2 (by omega)
  unfold placeG
  omega
theorem placeG_int (l : List Vl) (s : Int) : ((placeG l s : Nat) : Int) = pickOf s 1 (l.length + 1 : Nat) := by
  have h := pickOf_bd s 1 (l.length + 1 : Nat)
  unfold placeG
  omega
theorem sizeG_int (s : Int) : ((sizeG s : Nat) : Int) = pickOf s 2 3 := by
  have h := pickOf_bd s 2 3
  unfold sizeG
  omega
theorem wantG_parts {l : List Vl} {s : Int} : wantG l s = true ↔ areX l = true ∧ l.length < 6 ∧ ¬ tagG s ∈ tagsX l := by
  unfold wantG
  rw [Bool.and_eq_true, Bool.and_eq_true, decide_eq_true_iff, decide_eq_true_iff]
  exact and_assoc
theorem okX_grease (s : Int) : okX ⟨tagG s, bodyG s⟩ = true := by
  have h := tagG_in s
  have h2 := sizeG_few s
  have h3 := fillG_bd s
  unfold okX
  rw [Bool.and_eq_true]
  refine ⟨decide_eq_true ⟨by dsimp only; omega, by dsimp only; omega⟩, ?_⟩
  have h4 := bodyG_len s
  unfold fitIts
  rw [Bool.and_eq_true]
  refine ⟨decide_eq_true (by dsimp only; omega), ?_⟩
  unfold allIn
  rw [List.all_eq_true]
  intro x hx
  have hx2 : x ∈ List.replicate (sizeG s) (pickOf s 3 256) := hx
  rw [List.eq_of_mem_replicate hx2]
  exact decide_eq_true (by omega)
theorem tags_insert (l : List Vl) (k : Nat) (x : Vl) : tagsX (l.take k ++ x :: l.drop k) = (tagsX l).take k ++ x.num :: (tagsX l).drop k := by simp [tagsX, List.map_take, List.map_drop]
theorem addX_are {l : List Vl} {s : Int} (h : areX l = true) : areX (addX l s) = true := by
  unfold addX
  split
  · rename_i hw
    obtain ⟨_, h1, h2⟩ := wantG_parts.1 hw
    obtain ⟨h3, h4, h5⟩ := areX_parts.1 h
    refine areX_parts.2 ⟨by have := placeG_le l s; simp; omega, ?_, ?_⟩
    · intro x hx
      rw [List.mem_append, List.mem_cons] at hx
      rcases hx with hx | rfl | hx
      · exact h4 x (List.mem_of_mem_take hx)
      · exact okX_grease s
      · exact h4 x (List.mem_of_mem_drop hx)
    · rw [tags_insert]
      refine (List.perm_middle.nodup_iff).2 ?_
      rw [List.take_append_drop, List.nodup_cons]
      exact ⟨h2, h5⟩
  · exact h
theorem wh_insert (f : Int → Bool) (l : List Vl) (k : Nat) (x : Vl) (h : f x.num = false) : whX f (l.take k ++ x :: l.drop k) = whX f l := by
  conv => rhs; rw [← List.take_append_drop k l]
  unfold whX
  rw [List.filter_append, List.filter_append, List.filter_cons, h]
  rfl
theorem wh_add (f : Int → Bool) (l : List Vl) (s : Int) (h : f (tagG s) = false) : whX f (addX l s) = whX f l := by
  unfold addX
  split
  · exact wh_insert f l _ _ h
  · rfl
theorem strX_add (l : List Vl) (s : Int) : strX (addX l s) = strX l := wh_add _ l s (by rw [tagG_resv]; rfl)
theorem known_add (l : List Vl) (s : Int) (ts : List Int) (h : ∀ t ∈ ts, resv t = false) : knownOf (addX l s) ts = knownOf l ts := by
  rw [knownOf_wh, knownOf_wh]
  refine wh_add _ l s (decide_eq_false fun hm => ?_)
  have := h _ hm
  rw [tagG_resv] at this
  cases this
theorem known_five (l : List Vl) (s : Int) : knownOf (addX l s) [1, 2, 3, 40, 200] = knownOf l [1, 2, 3, 40, 200] := known_add l s _ (by
  intro t ht
  simp at ht
  rcases ht with rfl | rfl | rfl | rfl | rfl <;> decide)
theorem add_tag {l : List Vl} {s : Int} (h : areX l = true) (h6 : l.length < 6) : tagG s ∈ tagsX (addX l s) := by
  by_cases hm : tagG s ∈ tagsX l
  · unfold addX
    split
    · rw [tags_insert, List.mem_append, List.mem_cons]
      exact Or.inr (Or.inl rfl)
    · exact hm
  · unfold addX
    rw [if_pos (wantG_parts.2 ⟨h, h6, hm⟩), tags_insert, List.mem_append, List.mem_cons]
    exact Or.inr (Or.inl rfl)
theorem strX_tags (l : List Vl) : tagsX (strX l) = (tagsX l).filter fun t => !resv t := by
  unfold tagsX strX whX
  rw [List.filter_map]
  rfl
theorem hasG_str (l : List Vl) : hasG (strX l) = false := by
  unfold hasG
  rw [strX_tags, List.any_eq_false]
  intro x hx
  have := (List.mem_filter.1 hx).2
  simpa using this
theorem strX_twice (l : List Vl) : strX (strX l) = strX l := by
  unfold strX whX
  rw [List.filter_filter]
  simp
theorem strX_few (l : List Vl) : (strX l).length ≤ l.length := wh_few _ l
theorem strX_count : ∀ l : List Vl, (strX l).length + (tagsX l).countP resv = l.length
  | [] => rfl
  | x :: t => by
    have ih : (t.filter fun x => !resv x.num).length + (t.map Vl.num).countP resv = t.length := strX_count t
    show ((x :: t).filter fun x => !resv x.num).length + ((x :: t).map Vl.num).countP resv = t.length + 1
    rw [List.filter_cons, List.map_cons, List.countP_cons]
    cases h : resv x.num
    · rw [if_pos (show (!false) = true from rfl), if_neg (by simp), List.length_cons]
      omega
    · rw [if_neg (by simp), if_pos rfl]
      omega
theorem strX_len (l : List Vl) : decide ((strX l).length < l.length) = hasG l := by
  unfold hasG
  have h : (strX l).length + ((tagsX l).countP resv) = l.length := by
    exact strX_count l
  cases e : (tagsX l).any resv with
  | true =>
    have : 0 < (tagsX l).countP resv := by
      rw [List.countP_pos_iff]
      simpa using e
    exact decide_eq_true (by omega)
  | false =>
    have : (tagsX l).countP resv = 0 := by
      rw [List.countP_eq_zero]
      intro x hx
      have := List.any_eq_false.1 e x hx
      exact this
    exact decide_eq_false (by omega)
theorem addX_len (l : List Vl) (s : Int) : (addX l s).length ≤ l.length + 1 := by
  unfold addX
  split
  · have := placeG_le l s
    simp
    omega
  · omega
theorem addX_items (l : List Vl) (s : Int) : itemsOf (addX l s) ≤ itemsOf l + 2 := by
  unfold addX
  split
  · have h2 := sizeG_few s
    have h3 : itemsOf (l.take (placeG l s)) + itemsOf (l.drop (placeG l s)) = itemsOf l := by
      conv => rhs; rw [← List.take_append_drop (placeG l s) l]
      unfold itemsOf
      rw [List.map_append, List.sum_append]
    have h4 : itemsOf (l.take (placeG l s) ++ ⟨tagG s, bodyG s⟩ :: l.drop (placeG l s)) = itemsOf (l.take (placeG l s)) + ((bodyG s).length + itemsOf (l.drop (placeG l s))) := by
      unfold itemsOf
      rw [List.map_append, List.sum_append, List.map_cons, List.sum_cons]
    rw [h4, bodyG_len]
    omega
  · omega
theorem addX_few {l : List Vl} {s : Int} (h : l.length + itemsOf l ≤ 1048576) : (addX l s).length + itemsOf (addX l s) ≤ 1048576 := by
  have h1 := addX_len l s
  have h2 := addX_items l s
  by_cases hw : wantG l s = true
  · have h3 := areX_few (wantG_parts.1 hw).1
    omega
  · have e : addX l s = l := by unfold addX; rw [if_neg hw]
    rw [e]
    exact h
theorem addX_mem {l : List Vl} {s t : Int} (h : t ∈ tagsX (addX l s)) : t ∈ tagsX l ∨ t = tagG s := by
  unfold addX at h
  split at h
  · rw [tags_insert, List.mem_append, List.mem_cons] at h
    rcases h with h | rfl | h
    · exact Or.inl (List.mem_of_mem_take h)
    · exact Or.inr rfl
    · exact Or.inl (List.mem_of_mem_drop h)
  · exact Or.inl h
theorem known_all (l : List Vl) : knownOf l (tagsX l) = l := by
  unfold knownOf
  rw [List.filter_eq_self]
  intro x hx
  exact decide_eq_true (List.mem_map_of_mem hx)
end Go.Proofs.Ytgkacnngodamgaa
