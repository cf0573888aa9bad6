/- The helpers of the exact laws at slices of bools: copied, compared, marked, looked at. -/
import Derived.Test.YtckmgbobkffabaaMv
import Derived.Test.YtckmgbobkffabaaIntI
import Derived.Deep.QuietTactic
import Derived.BigQuiet
import Derived.RegionTactic
import Derived.StillTailTactics
import Derived.Handy
namespace Go.Proofs.Ytckmgbobkffabaa
open Go.ChangeShapes Go.WideShapes Go.ChangeAt Go.RowKit
set_option linter.unusedVariables false

theorem infoBoolS : (Try.prog.info? 4).map (fun i => (i.zero, i.size, i.bytes)) = some (some (.bool false), 1, 1) := by kernel_rfl

set_option maxRecDepth 100000 in
theorem szBoolS_yes (a : Option Addr) (n c : Nat) (left : Int) (w : World) (h : (n : Int) ≤ left) (hl : left ≤ 1048576) :
    Calls Try.prog 71 #[.slice a n c, .int .i64 left] w fun e w' => e = .returned (.int .i64 (left - n)) ∧ w = w' := by
  go_enter Try.func71, Try.ntmps71
  go_wp2
  go_ret
  exact ⟨rfl, rfl⟩
set_option maxRecDepth 100000 in
theorem szBoolS_no (a : Option Addr) (n c : Nat) (left : Int) (w : World) (h : left < (n : Int)) (h0 : 0 ≤ left) (hn : (n : Int) ≤ 9223372036854775807) :
    Calls Try.prog 71 #[.slice a n c, .int .i64 left] w fun e w' => e = .returned (.int .i64 (-1)) ∧ w = w' := by
  go_enter Try.func71, Try.ntmps71
  go_wp2
  go_ret
  exact ⟨rfl, rfl⟩

/-- j elements are copied, the others are false still. -/
def fillB (l : List Bool) (j n : Nat) : List Value := ((l.take j ++ List.replicate (n - j) false).map Value.bool)
theorem fillB_zero (l : List Bool) (n : Nat) : fillB l 0 n = List.replicate n (.bool false) := by unfold fillB; simp
theorem fillB_all (l : List Bool) : fillB l l.length l.length = l.map Value.bool := by unfold fillB; simp
theorem fillB_step {l : List Bool} {j : Nat} {x : Bool} (hj : l[j]? = some x) {n : Nat} (hn : l.length = n) : (fillB l j n).set j (.bool x) = fillB l (j + 1) n := by
  have hlt : j < l.length := by
    rcases Nat.lt_or_ge j l.length with h | h
    · exact h
    · rw [List.getElem?_eq_none h] at hj; cases hj
  unfold fillB
  rw [← List.map_set]
  congr 1
  have hl : (l.take j).length = j := by rw [List.length_take]; omega
  rw [List.set_append_right _ _ (by omega), hl, Nat.sub_self, show n - j = (n - (j + 1)) + 1 by omega, List.replicate_succ, List.set_cons_zero, List.take_add_one, hj]
  simp
set_option maxRecDepth 100000 in
theorem toBoolS_any (a : Option Addr) (n c : Nat) (l : List Bool) (w : World) (h : Bls w a n l) (hn : n ≤ 1048576000) :
    Calls Try.prog 73 #[.slice a n c] w (MadeI blEnc 1 4 w.heap.size l w) := by
  have H := Lib.hid h
  have hl := Lib.hid h.len
  clear h
  obtain ⟨i0, hi, hz0, hz1, hz2⟩ := info_parts infoBoolS
  go_enter Try.func73, Try.ntmps73
  go_wp2_with (with_reducible refine wpList_make_full _ rfl (.tmp 6) (.tmp 6) 24 rfl w.heap.size 4 i0 (.bool false) 1 Try.underlying24 hi hz0 hz1 .i64 .i64 _ _ n rfl rfl (by omega) (by omega) ?c1 ?c2 ?c3 ?_)
  case c1 => rw [hz2]; omega
  case c2 => unfold maxLen; omega
  case c3 => omega
  intro w1 hown hgrow
  have hb1 : Below w.heap.size w w1 := (Below.refl _ w).grown hgrow (Nat.le_refl _) (fun _ e => by cases e)
  have HO : Hid (w1.ownsRow w.heap.size 4 1 (.slice (some ⟨w.heap.size, 0, none⟩) n n) n (fillB l 0 n)) := by
    rw [fillB_zero]
    refine Lib.hid ?_
    simpa [Value.cells, toList_madeCells_one] using hown
  have HB := Lib.hid hb1
  clear hown hgrow hb1 hi hz0 hz1 hz2
  go_wp2
  go_loopw [4] (fun i wr => ∃ j : Nat, j ≤ n ∧ i = .int .i64 j ∧ wr.ownsRow w.heap.size 4 1 (.slice (some ⟨w.heap.size, 0, none⟩) n n) n (fillB l j n) ∧ Below w.heap.size w wr) (fun i _ => n - (intOf i).toNat)
  case atStart => exact ⟨0, Nat.zero_le _, rfl, HO.out, HB.out⟩
  case round =>
    obtain ⟨j, hj, rfl, hown, hb⟩ := hrel
    have HO2 := Lib.hid hown
    have HB2 := Lib.hid hb
    clear hown hb
    by_cases hlt : j < n
    · obtain ⟨b, o, x, rfl, hx, hc⟩ := bls_at (H.out.same HB2.out) hlt
      have hf := HO2.out.frozenAt j
      obtain ⟨u, hu⟩ := row_cell HO2.out (k := j) (by omega)
      have HX := Lib.hid hx
      clear hx
      go_wp2
      go_roundw
      case rel =>
        have hs := HO2.out.stored j (.bool x)
        refine ⟨j + 1, by omega, by go_num, ?_, HB2.out.setCell (Nat.le_refl _) _⟩
        rw [← fillB_step HX.out hl.out]
        exact hs.1
      case measure => simp [intOf]; omega
    · obtain rfl : j = n := by omega
      go_wp2
      go_ret
      have h1 := HO2.out
      rw [← hl.out, fillB_all, hl.out, ← flat_bl] at h1
      exact ⟨_, _, _, rfl, ⟨hl.out, h1⟩, HB2.out⟩

set_option maxRecDepth 100000 in
theorem eqBoolS_yes (a b : Option Addr) (n m c d : Nat) (l : List Bool) (w : World) (h : Bls w a n l) (h' : Bls w b m l) :
    Calls Try.prog 75 #[.slice a n c, .slice b m d] w (Told (.bool true) w) := by
  obtain rfl : n = m := by rw [← h.len, ← h'.len]
  have hn := h.fits
  have H := Lib.hid h
  have H' := Lib.hid h'
  clear h h'
  go_enter Try.func75, Try.ntmps75
  go_wp2
  go_loopw [5] (fun i wr => ∃ j : Nat, j ≤ n ∧ i = .int .i64 j ∧ Below w.heap.size w wr) (fun i _ => n - (intOf i).toNat)
  case atStart => exact ⟨0, Nat.zero_le _, rfl, Below.refl _ _⟩
  case round =>
    obtain ⟨j, hj, rfl, hb⟩ := hrel
    have HB := Lib.hid hb
    clear hb
    by_cases hlt : j < n
    · obtain ⟨b1, o1, x, rfl, hx, hc⟩ := bls_at (H.out.same HB.out) hlt
      obtain ⟨b2, o2, y, rfl, hy, hc'⟩ := bls_at (H'.out.same HB.out) hlt
      rw [hx] at hy
      cases hy
      clear hx
      go_wp2
      go_quiet (fail)
      go_wp2
      go_roundw
      case rel => exact ⟨j + 1, by omega, by go_num, HB.out.trans ((drewN_same _ _).mono HB.out.size)⟩
      case measure => simp [intOf]; omega
    · go_wp2
      go_ret
      exact ⟨rfl, HB.out⟩

/-- What the helper asks of a mark at a bool. -/
def third (x : Int) : Bool := x % 3 == 0
def marksBl (j n : Nat) : List Bool := (List.range n).map fun i => third ((j + i : Nat) : Int)
theorem marksBl_len (j n : Nat) : (marksBl j n).length = n := by simp [marksBl]
theorem marksBl_get {j n i : Nat} (h : i < n) : (marksBl j n)[i]? = some (third ((j + i : Nat) : Int)) := by unfold marksBl; simp [h]
def partB (j0 j : Nat) (l : List Bool) : List Value := ((marksBl j0 j ++ l.drop j).map Value.bool)
theorem partB_zero (j0 : Nat) (l : List Bool) : partB j0 0 l = l.map Value.bool := by simp [partB, marksBl]
theorem partB_all (j0 n : Nat) (l : List Bool) (h : l.length = n) : partB j0 n l = (marksBl j0 n).map Value.bool := by
  unfold partB
  rw [List.drop_eq_nil_of_le (by omega), List.append_nil]
theorem partB_step {l : List Bool} {i n : Nat} (j : Nat) (hi : i < n) (hn : l.length = n) : (partB j i l).set i (.bool (third ((j + i : Nat) : Int))) = partB j (i + 1) l := by
  unfold partB
  rw [← List.map_set]
  congr 1
  rw [List.set_append_right _ _ (by rw [marksBl_len]; omega), marksBl_len, Nat.sub_self, List.drop_eq_getElem_cons (by omega), List.set_cons_zero]
  simp [marksBl, List.range_succ]

set_option maxRecDepth 100000 in
theorem markBoolS_any (B : Nat) (a : Option Addr) (n c j0 : Nat) (l : List Bool) (w : World) (h : OwnBl 4 w B a n c l) (h0 : j0 ≤ 1000000000000) (hn : n ≤ 1000000000000) :
    Calls Try.prog 77 #[.slice a n c, .int .i64 j0] w fun e w' => e = .returned (.int .i64 ((j0 + n : Nat) : Int)) ∧ OwnBl 4 w' B a n c (marksBl j0 n) ∧ w.grownBy w' (Value.ownBlock (.slice a n c)) := by
  have H := Lib.hid h
  clear h
  go_enter Try.func77, Try.ntmps77
  go_wp2
  go_loopw [1, 5] (fun q i wr => ∃ j : Nat, j ≤ n ∧ i = .int .i64 j ∧ q = .int .i64 ((j0 + j : Nat) : Int) ∧ wr.ownsRow B 4 1 (.slice a n c) n (partB j0 j l) ∧ w.grownBy wr (Value.ownBlock (.slice a n c))) (fun _ i _ => n - (intOf i).toNat)
  case atStart => exact ⟨0, Nat.zero_le _, rfl, rfl, by rw [partB_zero, ← flat_bl]; exact H.out.2, grown_below (Below.refl _ _) _⟩
  case round =>
    obtain ⟨i, hi, rfl, rfl, hown, hg⟩ := hrel
    have HO := Lib.hid hown
    have HG := Lib.hid hg
    clear hown hg
    by_cases hlt : i < n
    · obtain ⟨g, e, _, _⟩ := H.out.head (by omega)
      subst e
      have hf := HO.out.frozenAt i
      obtain ⟨u, hu⟩ := row_cell HO.out (k := i) (by omega)
      go_wp2
      go_roundw
      case rel =>
        have hs := HO.out.stored i (.bool (third ((j0 + i : Nat) : Int)))
        rw [partB_step _ hlt H.out.len] at hs
        exact ⟨i + 1, by omega, by go_num, by go_num, hs.1, HG.out.trans hs.2⟩
      case measure => simp [intOf]; omega
    · obtain rfl : i = n := by omega
      go_wp2
      go_ret
      have h1 := HO.out
      rw [partB_all _ _ _ H.out.len, ← flat_bl] at h1
      exact ⟨rfl, ⟨marksBl_len _ _, h1⟩, HG.out⟩

end Go.Proofs.Ytckmgbobkffabaa
