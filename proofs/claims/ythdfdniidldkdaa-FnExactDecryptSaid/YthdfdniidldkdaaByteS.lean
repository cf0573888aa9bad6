/- The helpers of the exact laws at slices of bytes: copied, compared, marked, looked at. -/
import Derived.Test.YthdfdniidldkdaaMem
import Derived.Deep.QuietTactic
import Derived.BigQuiet
import Derived.RegionTactic
namespace Go.Proofs.Ythdfdniidldkdaa
open Go.ChangeShapes Go.WideShapes Go.ChangeAt Go.RowKit
set_option linter.unusedVariables false

theorem infoByteS : (Try.prog.info? 5).map (fun i => (i.zero, i.size, i.bytes)) = some (some (.int .u8 0), 1, 1) := by kernel_rfl

/-- k elements are copied, the others are 0 still. -/
def fillByteS (l : List Int) (j n : Nat) : List Value := ((l.take j ++ List.replicate (n - j) 0).map (Value.int .u8))
theorem fillByteS_zero (l : List Int) (n : Nat) : fillByteS l 0 n = List.replicate n (.int .u8 0) := by unfold fillByteS; simp
theorem fillByteS_all (l : List Int) : fillByteS l l.length l.length = l.map (Value.int .u8) := by unfold fillByteS; simp
theorem fillByteS_step {l : List Int} {j : Nat} {x : Int} (hj : l[j]? = some x) {n : Nat} (hn : l.length = n) : (fillByteS l j n).set j (.int .u8 x) = fillByteS l (j + 1) n := by
  have hlt : j < l.length := by
    rcases Nat.lt_or_ge j l.length with h | h
    · exact h
    · rw [List.getElem?_eq_none h] at hj; cases hj
  unfold fillByteS
  rw [← List.map_set]
  congr 1
  have hl : (l.take j).length = j := by rw [List.length_take]; omega
  rw [List.set_append_right _ _ (by omega), hl, Nat.sub_self, show n - j = (n - (j + 1)) + 1 by omega, List.replicate_succ, List.set_cons_zero, List.take_add_one, hj]
  simp

set_option maxRecDepth 100000 in
theorem toByteS_any (a : Option Addr) (n c : Nat) (l : List Int) (w : World) (h : Nums .u8 w a n l) (hn : n ≤ 1048576000) :
    Calls Try.prog 29 #[.slice a n c] w (Made .u8 5 w.heap.size l w) := by
  have H := Lib.hid h
  have hl := Lib.hid h.len
  clear h
  obtain ⟨i0, hi, hz0, hz1, hz2⟩ := info_parts infoByteS
  go_enter Try.func29, Try.ntmps29
  go_wp2_with (with_reducible refine wpList_make_full _ rfl (.tmp 6) (.tmp 6) 22 rfl w.heap.size 5 i0 (.int .u8 0) 1 Try.underlying22 hi hz0 hz1 .i64 .i64 _ _ n rfl rfl (by omega) (by omega) ?c1 ?c2 ?c3 ?_)
  case c1 => rw [hz2]; omega
  case c2 => unfold maxLen; omega
  case c3 => omega
  intro w1 hown hgrow
  have hb1 : Below w.heap.size w w1 := (Below.refl _ w).grown hgrow (Nat.le_refl _) (fun _ e => by cases e)
  have HO : Hid (w1.ownsRow w.heap.size 5 1 (.slice (some ⟨w.heap.size, 0, none⟩) n n) n (fillByteS l 0 n)) := by
    rw [fillByteS_zero]
    refine Lib.hid ?_
    simpa [Value.cells, toList_madeCells_one] using hown
  have HB := Lib.hid hb1
  clear hown hgrow hb1 hi hz0 hz1 hz2
  go_wp2
  go_loopw [4] (fun i wr => ∃ j : Nat, j ≤ n ∧ i = .int .i64 j ∧ wr.ownsRow w.heap.size 5 1 (.slice (some ⟨w.heap.size, 0, none⟩) n n) n (fillByteS l j n) ∧ Below w.heap.size w wr) (fun i _ => n - (intOf i).toNat)
  case atStart => exact ⟨0, Nat.zero_le _, rfl, HO.out, HB.out⟩
  case round =>
    obtain ⟨j, hj, rfl, hown, hb⟩ := hrel
    have HO2 := Lib.hid hown
    have HB2 := Lib.hid hb
    clear hown hb
    by_cases hlt : j < n
    · obtain ⟨ad, x, rfl, hx, hc⟩ := (H.out.same HB2.out).at_ hlt
      have hf := HO2.out.frozenAt j
      obtain ⟨u, hu⟩ : ∃ u, wr.cell? ⟨w.heap.size, j, none⟩ = some u := by
        rw [HO2.out.cellAt j (by omega)]
        have : j < (fillByteS l j n).length := by rw [HO2.out.1]; omega
        exact ⟨_, List.getElem?_eq_getElem this⟩
      have HX := Lib.hid hx
      clear hx
      go_wp2
      go_roundw
      case rel =>
        have hs := HO2.out.stored j (.int .u8 x)
        refine ⟨j + 1, by omega, by go_num, ?_, HB2.out.setCell (Nat.le_refl _) _⟩
        rw [← fillByteS_step HX.out hl.out]
        exact hs.1
      case measure => simp [intOf]; omega
    · obtain rfl : j = n := by omega
      go_wp2
      go_ret
      have h1 := HO2.out
      rw [← hl.out, fillByteS_all, hl.out] at h1
      exact ⟨_, _, _, rfl, ⟨hl.out, h1⟩, HB2.out⟩

set_option maxRecDepth 100000 in
theorem eqByteS_yes (a b : Option Addr) (n m c d : Nat) (l : List Int) (w : World) (h : Nums .u8 w a n l) (h' : Nums .u8 w b m l) :
    Calls Try.prog 30 #[.slice a n c, .slice b m d] w (Told (.bool true) w) := by
  obtain rfl : n = m := by rw [← h.len, ← h'.len]
  have hn := h.fits
  have H := Lib.hid h
  have H' := Lib.hid h'
  clear h h'
  go_enter Try.func30, Try.ntmps30
  go_wp2
  go_loopw [5] (fun i wr => ∃ j : Nat, j ≤ n ∧ i = .int .i64 j ∧ Below w.heap.size w wr) (fun i _ => n - (intOf i).toNat)
  case atStart => exact ⟨0, Nat.zero_le _, rfl, Below.refl _ _⟩
  case round =>
    obtain ⟨j, hj, rfl, hb⟩ := hrel
    have HB := Lib.hid hb
    clear hb
    by_cases hlt : j < n
    · obtain ⟨ad, x, rfl, hx, hc⟩ := (H.out.same HB.out).at_ hlt
      obtain ⟨be, y, rfl, hy, hc'⟩ := (H'.out.same HB.out).at_ hlt
      rw [hx] at hy
      cases hy
      clear hx
      go_wp2
      go_quiet (fail)
      go_wp2
      go_roundw
      case rel => exact ⟨j + 1, by omega, by go_num, HB.out.trans ((drewN_same _ _).mono HB.out.size)⟩
      case measure => simp [intOf]; omega
    · go_wp2
      go_ret
      exact ⟨rfl, HB.out⟩

/-- The marks that are laid: each one more than the one before. -/
def marksByteS (j n : Nat) : List Int := (List.range n).map fun i => (((j + i) % 256 : Nat) : Int)
theorem marksByteS_len (j n : Nat) : (marksByteS j n).length = n := by simp [marksByteS]
theorem marksByteS_get {j n i : Nat} (h : i < n) : (marksByteS j n)[i]? = some ((((j + i) % 256 : Nat) : Int)) := by unfold marksByteS; simp [h]
def partByteS (j0 j n : Nat) (l : List Int) : List Value := ((marksByteS j0 j ++ l.drop j).map (Value.int .u8))
theorem partByteS_zero (j0 n : Nat) (l : List Int) : partByteS j0 0 n l = l.map (Value.int .u8) := by simp [partByteS, marksByteS]
theorem partByteS_all (j0 n : Nat) (l : List Int) (h : l.length = n) : partByteS j0 n n l = (marksByteS j0 n).map (Value.int .u8) := by
  unfold partByteS
  rw [List.drop_eq_nil_of_le (by omega), List.append_nil]
theorem partByteS_step {l : List Int} {i n : Nat} (j : Nat) (hi : i < n) (hn : l.length = n) : (partByteS j i n l).set i (.int .u8 ((((j + i) % 256 : Nat) : Int))) = partByteS j (i + 1) n l := by
  unfold partByteS
  rw [← List.map_set]
  congr 1
  rw [List.set_append_right _ _ (by rw [marksByteS_len]; omega), marksByteS_len, Nat.sub_self, List.drop_eq_getElem_cons (by omega), List.set_cons_zero]
  simp [marksByteS, List.range_succ]

set_option maxRecDepth 100000 in
theorem markByteS_any (B : Nat) (a : Option Addr) (n c j0 : Nat) (l : List Int) (w : World) (h : Own .u8 5 w B a n c l) (h0 : j0 ≤ 1000000000000) (hn : n ≤ 1000000000000) :
    Calls Try.prog 31 #[.slice a n c, .int .i64 j0] w fun e w' => e = .returned (.int .i64 ((j0 + n : Nat) : Int)) ∧ Own .u8 5 w' B a n c (marksByteS j0 n) ∧ w.grownBy w' (Value.ownBlock (.slice a n c)) := by
  have H := Lib.hid h
  clear h
  go_enter Try.func31, Try.ntmps31
  go_wp2
  go_loopw [1, 5] (fun q i wr => ∃ j : Nat, j ≤ n ∧ i = .int .i64 j ∧ q = .int .i64 ((j0 + j : Nat) : Int) ∧ wr.ownsRow B 5 1 (.slice a n c) n (partByteS j0 j n l) ∧ w.grownBy wr (Value.ownBlock (.slice a n c))) (fun _ i _ => n - (intOf i).toNat)
  case atStart => exact ⟨0, Nat.zero_le _, rfl, rfl, by rw [partByteS_zero]; exact H.out.2, grown_below (Below.refl _ _) _⟩
  case round =>
    obtain ⟨i, hi, rfl, rfl, hown, hg⟩ := hrel
    have HO := Lib.hid hown
    have HG := Lib.hid hg
    clear hown hg
    by_cases hlt : i < n
    · obtain ⟨g, e, _, _⟩ := H.out.head (by omega)
      subst e
      have hf := HO.out.frozenAt i
      obtain ⟨u, hu⟩ : ∃ u, wr.cell? ⟨g, i, none⟩ = some u := by
        rw [HO.out.cellAt i (by omega)]
        have : i < (partByteS j0 i n l).length := by rw [HO.out.1]; omega
        exact ⟨_, List.getElem?_eq_getElem this⟩
      go_wp2
      go_roundw
      case rel =>
        have hs := HO.out.stored i (.int .u8 ((((j0 + i) % 256 : Nat) : Int)))
        rw [partByteS_step _ hlt H.out.len] at hs
        exact ⟨i + 1, by omega, by go_num, by go_num, hs.1, HG.out.trans hs.2⟩
      case measure => simp [intOf]; omega
    · obtain rfl : i = n := by omega
      go_wp2
      go_ret
      have h1 := HO.out
      rw [partByteS_all _ _ _ H.out.len] at h1
      exact ⟨rfl, ⟨marksByteS_len _ _, h1⟩, HG.out⟩

set_option maxRecDepth 100000 in
theorem heldByteS_any (a : Option Addr) (n c j0 : Nat) (w : World) (h : Nums .u8 w a n (marksByteS j0 n)) (h0 : j0 ≤ 1000000000000) (hn : n ≤ 1000000000000) :
    Calls Try.prog 32 #[.slice a n c, .int .i64 j0] w (Told (.int .i64 ((j0 + n : Nat) : Int)) w) := by
  have H := Lib.hid h
  clear h
  go_enter Try.func32, Try.ntmps32
  go_wp2
  go_loop [1, 5] (fun q i => ∃ j : Nat, j ≤ n ∧ i = .int .i64 j ∧ q = .int .i64 ((j0 + j : Nat) : Int)) (fun _ i => n - (intOf i).toNat)
  case atStart => exact ⟨0, Nat.zero_le _, rfl, rfl⟩
  case round =>
    obtain ⟨i, hi, rfl, rfl⟩ := hrel
    by_cases hlt : i < n
    · obtain ⟨ad, x, rfl, hx, hc⟩ := H.out.at_ hlt
      rw [marksByteS_get hlt] at hx
      cases hx
      go_wp2
      go_round
      case rel => exact ⟨i + 1, by omega, by go_num, by go_num⟩
      case measure => simp [intOf]; omega
    · obtain rfl : i = n := by omega
      go_wp2
      go_ret
      exact ⟨rfl, Below.refl _ _⟩
end Go.Proofs.Ythdfdniidldkdaa
