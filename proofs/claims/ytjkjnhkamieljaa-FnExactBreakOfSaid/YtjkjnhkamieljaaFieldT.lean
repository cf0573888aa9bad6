/- The helpers of the exact laws at lists of fields: copied, compared. -/
import Derived.Test.YtjkjnhkamieljaaItems
import Derived.Deep.QuietTactic
import Derived.BigQuiet
import Derived.RegionTactic
import Derived.StillTailTactics
import Derived.Handy
namespace Go.Proofs.Ytjkjnhkamieljaa
open Go.ChangeShapes Go.WideShapes Go.ChangeAt Go.RowKit
set_option linter.unusedVariables false

theorem infoFieldS : (Try.prog.info? 50).map (fun i => (i.zero, i.size, i.bytes)) = some (some (.agg #[.int .i64 0, .int .i64 0, .int .i64 0, .int .i64 0]), 4, 32) := by kernel_rfl

set_option maxRecDepth 100000 in
theorem szFieldS_any (a : Option Addr) (n c : Nat) (left : Int) (w : World) (h : (n : Int) ≤ left) (hl : left ≤ 1048576) :
    Calls Try.prog 22 #[.slice a n c, .int .i64 left] w fun e w' => e = .returned (.int .i64 (left - n)) ∧ w = w' := by
  go_enter Try.func22, Try.ntmps22
  go_wp2
  go_ret
  exact ⟨rfl, rfl⟩

theorem set4 (A : List Value) (p : Nat) (hA : A.length = p) (a b c d : Value) (R : List Value) (v0 v1 v2 v3 : Value) :
    ((((A ++ a :: b :: c :: d :: R).set p v0).set (p + 1) v1).set (p + 2) v2).set (p + 3) v3 = A ++ v0 :: v1 :: v2 :: v3 :: R := by
  subst hA
  rw [List.set_append_right _ _ (Nat.le_refl _), Nat.sub_self, List.set_cons_zero, List.set_append_right _ _ (by omega), List.set_append_right _ _ (by omega), List.set_append_right _ _ (by omega)]
  simp [show A.length + 1 - A.length = 1 by omega, show A.length + 2 - A.length = 2 by omega, show A.length + 3 - A.length = 3 by omega]
def zeroCell : Value := .int .i64 0
def fillF (l : List Fd) (j n : Nat) : List Value := flatOf Fd.enc (l.take j) ++ List.replicate ((n - j) * 4) zeroCell
theorem fillF_zero (l : List Fd) (n : Nat) : fillF l 0 n = List.replicate (n * 4) zeroCell := by simp [fillF, flatOf]
theorem fillF_all (l : List Fd) (n : Nat) (h : l.length = n) : fillF l n n = flatOf Fd.enc l := by
  unfold fillF
  rw [List.take_of_length_le (by omega), Nat.sub_self]
  simp
theorem fillF_step {l : List Fd} {j n : Nat} {x : Fd} (hj : l[j]? = some x) (hn : l.length = n) :
    ((((fillF l j n).set (j * 4) (.int .i64 x.kind)).set (j * 4 + 1) (.int .i64 x.max)).set (j * 4 + 2) (.int .i64 x.cond)).set (j * 4 + 3) (.int .i64 x.is) = fillF l (j + 1) n := by
  have hlt : j < l.length := by
    rcases Nat.lt_or_ge j l.length with h | h
    · exact h
    · rw [List.getElem?_eq_none h] at hj; cases hj
  unfold fillF
  rw [show (n - j) * 4 = (n - (j + 1)) * 4 + 1 + 1 + 1 + 1 by omega, List.replicate_succ, List.replicate_succ, List.replicate_succ, List.replicate_succ, set4 _ (j * 4) (by rw [flatOf_len Fd.enc_len, List.length_take]; omega), List.take_add_one, hj]
  simp [flatOf, Fd.enc]
theorem fillF_len {l : List Fd} {j n : Nat} (hn : l.length = n) (hj : j ≤ n) : (fillF l j n).length = n * 4 := by
  unfold fillF
  rw [List.length_append, flatOf_len Fd.enc_len, List.length_take, List.length_replicate]
  omega
theorem made4 (n : Nat) : (madeCells (Value.agg #[.int .i64 0, .int .i64 0, .int .i64 0, .int .i64 0]).cells (n * 4)).toList = List.replicate (n * 4) zeroCell := by
  apply List.ext_getElem
  · simp [madeCells]
  · intro i h1 h2
    simp only [madeCells, Value.cells, List.getElem_replicate, Array.getElem_toList, Array.getElem_map, Array.getElem_range]
    have : i % 4 < 4 := Nat.mod_lt _ (by omega)
    show (#[zeroCell, zeroCell, zeroCell, zeroCell] : Array Value)[i % 4]! = zeroCell
    match i % 4, this with
    | 0, _ => rfl
    | 1, _ => rfl
    | 2, _ => rfl
    | 3, _ => rfl

set_option maxRecDepth 100000 in
theorem toField_any (x : Fd) (w : World) : Calls Try.prog 47 #[x.val] w (Told x.val w) := by
  unfold Fd.val
  go_enter Try.func47, Try.ntmps47
  go_wp2
  go_returns
  exact ⟨rfl, (((Below.refl _ w).alloc (Nat.le_refl _) _).alloc (by simp) _).alloc (by simp; omega) _⟩

/-- Cells in a row of the call's own are there, whatever they hold. -/
theorem row_cell {w : World} {B : Nat} {t : TypeId} {s g n cap : Nat} {xs : List Value} (h : w.ownsRow B t s (.slice (some ⟨g, 0, none⟩) n cap) n xs) {k : Nat} (hk : k < n * s) : ∃ u, w.cell? ⟨g, k, none⟩ = some u := by
  rw [h.cellAt k hk]
  have : k < xs.length := by rw [h.1]; exact hk
  exact ⟨_, List.getElem?_eq_getElem this⟩

set_option maxRecDepth 100000 in
theorem toFieldS_any (a : Option Addr) (n c : Nat) (l : List Fd) (w : World) (h : Fds w a n l) (hn : n ≤ 1048576000) :
    Calls Try.prog 24 #[.slice a n c] w (MadeI Fd.enc 4 50 w.heap.size l w) := by
  have H := Lib.hid h
  have hl := Lib.hid h.len
  clear h
  obtain ⟨i0, hi, hz0, hz1, hz2⟩ := info_parts infoFieldS
  go_enter Try.func24, Try.ntmps24
  go_wp2_with (with_reducible refine wpList_make_full _ rfl (.tmp 6) (.tmp 6) 24 rfl w.heap.size 50 i0 (.agg #[.int .i64 0, .int .i64 0, .int .i64 0, .int .i64 0]) 4 Try.underlying24 hi hz0 hz1 .i64 .i64 _ _ n rfl rfl (by omega) (by omega) ?c1 ?c2 ?c3 ?_)
  case c1 => rw [hz2]; omega
  case c2 => unfold maxLen; omega
  case c3 => omega
  intro w1 hown hgrow
  have hb1 : Below w.heap.size w w1 := (Below.refl _ w).grown hgrow (Nat.le_refl _) (fun _ e => by cases e)
  have HO : Hid (w1.ownsRow w.heap.size 50 4 (.slice (some ⟨w.heap.size, 0, none⟩) n n) n (fillF l 0 n)) := by
    rw [fillF_zero, ← made4]
    exact Lib.hid hown
  have HB := Lib.hid hb1
  clear hown hgrow hb1 hi hz0 hz1 hz2
  go_wp2
  go_loopw [4] (fun i wr => ∃ j : Nat, j ≤ n ∧ i = .int .i64 j ∧ wr.ownsRow w.heap.size 50 4 (.slice (some ⟨w.heap.size, 0, none⟩) n n) n (fillF l j n) ∧ Below w.heap.size w wr) (fun i _ => n - (intOf i).toNat)
  case atStart => exact ⟨0, Nat.zero_le _, rfl, HO.out, HB.out⟩
  case round =>
    obtain ⟨j, hj, rfl, hown, hb⟩ := hrel
    have HO2 := Lib.hid hown
    have HB2 := Lib.hid hb
    clear hown hb
    by_cases hlt : j < n
    · obtain ⟨b, o, x, rfl, hx, hc0, hc1, hc2, hc3⟩ := fds_at (H.out.same HB2.out) hlt
      have HX := Lib.hid hx
      clear hx
      go_wp2_with fail
      refine (toField_any x wr).mono ?_
      rintro e w2 ⟨rfl, hb2⟩
      have hrow : w2.ownsRow w.heap.size 50 4 (.slice (some ⟨w.heap.size, 0, none⟩) n n) n (fillF l j n) := HO2.out.kept (grown_below hb2 none) (Or.inr (by simp [Value.ownBlock]))
      have HR := Lib.hid hrow
      have hf0 := hrow.frozenAt (j * 4)
      have hf1 := hrow.frozenAt (j * 4 + 1)
      have hf2 := hrow.frozenAt (j * 4 + 2)
      have hf3 := hrow.frozenAt (j * 4 + 3)
      obtain ⟨u0, hu0⟩ := row_cell hrow (k := j * 4) (by omega)
      obtain ⟨u1, hu1⟩ := row_cell hrow (k := j * 4 + 1) (by omega)
      obtain ⟨u2, hu2⟩ := row_cell hrow (k := j * 4 + 2) (by omega)
      obtain ⟨u3, hu3⟩ := row_cell hrow (k := j * 4 + 3) (by omega)
      have HB3 := Lib.hid (HB2.out.trans (hb2.mono HB2.out.size))
      clear hrow hb2 hc0 hc1 hc2 hc3
      unfold Fd.val
      go_wp2
      go_roundw
      case rel =>
        have hs := stored4 HR.out (j * 4) (j * 4 + 1) (j * 4 + 2) (j * 4 + 3) (.int .i64 x.kind) (.int .i64 x.max) (.int .i64 x.cond) (.int .i64 x.is)
        rw [fillF_step HX.out hl.out] at hs
        exact ⟨j + 1, by omega, by go_num, hs.1, grown_to (b := some ⟨w.heap.size, 0, none⟩) (m := n) (d := n) hs.2 HB3.out (lo := w.heap.size) (hi := w.heap.size + 1) (fun ad e => by cases e; exact ⟨Nat.le_refl _, Nat.lt_succ_self _⟩) (Nat.le_refl _) HB3.out.size⟩
      case measure => simp [intOf]; omega
    · obtain rfl : j = n := by omega
      go_wp2
      go_ret
      have h1 := HO2.out
      rw [fillF_all _ _ hl.out] at h1
      exact ⟨_, _, _, rfl, ⟨hl.out, h1⟩, HB2.out⟩

set_option maxRecDepth 100000 in
theorem eqField_yes (x : Fd) (w : World) : Calls Try.prog 48 #[x.val, x.val] w (Told (.bool true) w) := by
  unfold Fd.val
  go_enter Try.func48, Try.ntmps48
  go_wp2
  go_ret
  exact ⟨rfl, ((Below.refl _ w).alloc (Nat.le_refl _) _).alloc (by simp) _⟩

set_option maxRecDepth 100000 in
theorem eqFieldS_yes (a b : Option Addr) (n m c d : Nat) (l : List Fd) (w : World) (h : Fds w a n l) (h' : Fds w b m l) :
    Calls Try.prog 25 #[.slice a n c, .slice b m d] w (Told (.bool true) w) := by
  obtain rfl : n = m := by rw [← h.len, ← h'.len]
  have hn := h.fits
  have H := Lib.hid h
  have H' := Lib.hid h'
  clear h h'
  go_enter Try.func25, Try.ntmps25
  go_wp2
  go_loopw [5] (fun i wr => ∃ j : Nat, j ≤ n ∧ i = .int .i64 j ∧ Below w.heap.size w wr) (fun i _ => n - (intOf i).toNat)
  case atStart => exact ⟨0, Nat.zero_le _, rfl, Below.refl _ _⟩
  case round =>
    obtain ⟨j, hj, rfl, hb⟩ := hrel
    have HB := Lib.hid hb
    clear hb
    by_cases hlt : j < n
    · obtain ⟨b1, o1, x, rfl, hx, hc0, hc1, hc2, hc3⟩ := fds_at (H.out.same HB.out) hlt
      obtain ⟨b2, o2, y, rfl, hy, hd0, hd1, hd2, hd3⟩ := fds_at (H'.out.same HB.out) hlt
      rw [hx] at hy
      cases hy
      clear hx
      go_wp2_with fail
      go_still_tail 8, (by kernel_rfl)
      have H2 : Hid (Below w.heap.size w wr.drew) := Lib.hid HB.out.drew
      change wpList _ _ _ _ _ wr.drew
      generalize wr.drew = w2 at H2 ⊢
      go_wp2_with fail
      refine (eqField_yes x w2).mono ?_
      rintro e w3 ⟨rfl, hb3⟩
      have HB3 := Lib.hid (H2.out.trans (hb3.mono H2.out.size))
      clear hb3
      go_wp2
      go_roundw
      case rel => exact ⟨j + 1, by omega, by go_num, HB3.out⟩
      case measure => simp [intOf]; omega
    · go_wp2
      go_ret
      exact ⟨rfl, HB.out⟩

end Go.Proofs.Ytjkjnhkamieljaa
