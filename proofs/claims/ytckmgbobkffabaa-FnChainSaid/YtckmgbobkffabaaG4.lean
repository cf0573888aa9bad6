/- The helpers of the exact laws at slices of bools: copied, compared, marked, looked at. The helpers of the exact laws at lists of moves: copied, compared. -/
import Derived.Test.YtckmgbobkffabaaG2
import Derived.Test.YtckmgbobkffabaaG3
import Derived.Deep.QuietTactic
import Derived.BigQuiet
import Derived.RegionTactic
import Derived.StillTailTactics
import Derived.Handy
import Derived.Test.YtckmgbobkffabaaG1
namespace Go.Proofs.Ytckmgbobkffabaa
open Go.ChangeShapes Go.WideShapes Go.ChangeAt Go.RowKit
set_option linter.unusedVariables false

theorem infoBoolS : (Try.prog.info? 4).map (fun i => (i.zero, i.size, i.bytes)) = some (some (.bool false), 1, 1) := by kernel_rfl

set_option maxRecDepth 100000 in
theorem szBoolS_yes (a : Option Addr) (n c : Nat) (left : Int) (w : World) (h : (n : Int) ≤ left) (hl : left ≤ 1048576) :
  Calls Try.prog 71 #[.slice a n c, .int .i64 left] w fun e w' => e = .returned (.int .i64 (left - n)) ∧ w = w' := by
 go_enter Try.func71, Try.ntmps71
 go_wp2
 go_ret
 exact ⟨rfl, rfl⟩
set_option maxRecDepth 100000 in
theorem szBoolS_no (a : Option Addr) (n c : Nat) (left : Int) (w : World) (h : left < (n : Int)) (h0 : 0 ≤ left) (hn : (n : Int) ≤ 9223372036854775807) :
  Calls Try.prog 71 #[.slice a n c, .int .i64 left] w fun e w' => e = .returned (.int .i64 (-1)) ∧ w = w' := by
 go_enter Try.func71, Try.ntmps71
 go_wp2
 go_ret
 exact ⟨rfl, rfl⟩

/-- j elements are copied, the others are false still. -/
def fillB (l : List Bool) (j n : Nat) : List Value := ((l.take j ++ List.replicate (n - j) false).map Value.bool)
theorem fillB_zero (l : List Bool) (n : Nat) : fillB l 0 n = List.replicate n (.bool false) := by unfold fillB; simp
theorem fillB_all (l : List Bool) : fillB l l.length l.length = l.map Value.bool := by unfold fillB; simp
theorem fillB_step {l : List Bool} {j : Nat} {x : Bool} (hj : l[j]? = some x) {n : Nat} (hn : l.length = n) : (fillB l j n).set j (.bool x) = fillB l (j + 1) n := by
 have hlt : j < l.length := by
  rcases Nat.lt_or_ge j l.length with h | h
  ·exact h
  ·rw [List.getElem?_eq_none h] at hj; cases hj
 unfold fillB
 rw [← List.map_set]
 congr 1
 have hl : (l.take j).length = j := by rw [List.length_take]; omega
 rw [List.set_append_right _ _ (by omega), hl, Nat.sub_self, show n - j = (n - (j + 1)) + 1 by omega, List.replicate_succ, List.set_cons_zero, List.take_add_one, hj]
 simp
set_option maxRecDepth 100000 in
theorem toBoolS_any (a : Option Addr) (n c : Nat) (l : List Bool) (w : World) (h : Bls w a n l) (hn : n ≤ 1048576000) :
  Calls Try.prog 73 #[.slice a n c] w (MadeI blEnc 1 4 w.heap.size l w) := by
 have H := Lib.hid h
 have hl := Lib.hid h.len
 clear h
 obtain ⟨i0, hi, hz0, hz1, hz2⟩ := info_parts infoBoolS
 go_enter Try.func73, Try.ntmps73
 go_wp2_with (with_reducible refine wpList_make_full _ rfl (.tmp 6) (.tmp 6) 24 rfl w.heap.size 4 i0 (.bool false) 1 Try.underlying24 hi hz0 hz1 .i64 .i64 _ _ n rfl rfl (by omega) (by omega) ?c1 ?c2 ?c3 ?_)
 case c1 => rw [hz2]; omega
 case c2 => unfold maxLen; omega
 case c3 => omega
 intro w1 hown hgrow
 have hb1 : Below w.heap.size w w1 := (Below.refl _ w).grown hgrow (Nat.le_refl _) (fun _ e => by cases e)
 have HO : Hid (w1.ownsRow w.heap.size 4 1 (.slice (some ⟨w.heap.size, 0, none⟩) n n) n (fillB l 0 n)) := by
  rw [fillB_zero]
  refine Lib.hid ?_
  simpa [Value.cells, toList_madeCells_one] using hown
 have HB := Lib.hid hb1
 clear hown hgrow hb1 hi hz0 hz1 hz2
 go_wp2
 go_loopw [4] (fun i wr => ∃ j : Nat, j ≤ n ∧ i = .int .i64 j ∧ wr.ownsRow w.heap.size 4 1 (.slice (some ⟨w.heap.size, 0, none⟩) n n) n (fillB l j n) ∧ Below w.heap.size w wr) (fun i _ => n - (intOf i).toNat)
 case atStart => exact ⟨0, Nat.zero_le _, rfl, HO.out, HB.out⟩
 case round =>
  obtain ⟨j, hj, rfl, hown, hb⟩ := hrel
  have HO2 := Lib.hid hown
  have HB2 := Lib.hid hb
  clear hown hb
  by_cases hlt : j < n
  ·obtain ⟨b, o, x, rfl, hx, hc⟩ := bls_at (H.out.same HB2.out) hlt
   have hf := HO2.out.frozenAt j
   obtain ⟨u, hu⟩ := row_cell HO2.out (k := j) (by omega)
   have HX := Lib.hid hx
   clear hx
   go_wp2
   go_roundw
   case rel =>
    have hs := HO2.out.stored j (.bool x)
    refine ⟨j + 1, by omega, by go_num, ?_, HB2.out.setCell (Nat.le_refl _) _⟩
    rw [← fillB_step HX.out hl.out]
    exact hs.1
   case measure => simp [intOf]; omega
  ·obtain rfl : j = n := by omega
   go_wp2
   go_ret
   have h1 := HO2.out
   rw [← hl.out, fillB_all, hl.out, ← flat_bl] at h1
   exact ⟨_, _, _, rfl, ⟨hl.out, h1⟩, HB2.out⟩

set_option maxRecDepth 100000 in
theorem eqBoolS_yes (a b : Option Addr) (n m c d : Nat) (l : List Bool) (w : World) (h : Bls w a n l) (h' : Bls w b m l) :
  Calls Try.prog 75 #[.slice a n c, .slice b m d] w (Told (.bool true) w) := by
 obtain rfl : n = m := by rw [← h.len, ← h'.len]
 have hn := h.fits
 have H := Lib.hid h
 have H' := Lib.hid h'
 clear h h'
 go_enter Try.func75, Try.ntmps75
 go_wp2
 go_loopw [5] (fun i wr => ∃ j : Nat, j ≤ n ∧ i = .int .i64 j ∧ Below w.heap.size w wr) (fun i _ => n - (intOf i).toNat)
 case atStart => exact ⟨0, Nat.zero_le _, rfl, Below.refl _ _⟩
 case round =>
  obtain ⟨j, hj, rfl, hb⟩ := hrel
  have HB := Lib.hid hb
  clear hb
  by_cases hlt : j < n
  ·obtain ⟨b1, o1, x, rfl, hx, hc⟩ := bls_at (H.out.same HB.out) hlt
   obtain ⟨b2, o2, y, rfl, hy, hc'⟩ := bls_at (H'.out.same HB.out) hlt
   rw [hx] at hy
   cases hy
   clear hx
   go_wp2
   go_quiet (fail)
   go_wp2
   go_roundw
   case rel => exact ⟨j + 1, by omega, by go_num, HB.out.trans ((drewN_same _ _).mono HB.out.size)⟩
   case measure => simp [intOf]; omega
  ·go_wp2
   go_ret
   exact ⟨rfl, HB.out⟩

/-- What the helper asks of a mark at a bool. -/
def third (x : Int) : Bool := x % 3 == 0
def marksBl (j n : Nat) : List Bool := (List.range n).map fun i => third ((j + i : Nat) : Int)
theorem marksBl_len (j n : Nat) : (marksBl j n).length = n := by simp [marksBl]
theorem marksBl_get {j n i : Nat} (h : i < n) : (marksBl j n)[i]? = some (third ((j + i : Nat) : Int)) := by unfold marksBl; simp [h]
def partB (j0 j : Nat) (l : List Bool) : List Value := ((marksBl j0 j ++ l.drop j).map Value.bool)
theorem partB_zero (j0 : Nat) (l : List Bool) : partB j0 0 l = l.map Value.bool := by simp [partB, marksBl]
theorem partB_all (j0 n : Nat) (l : List Bool) (h : l.length = n) : partB j0 n l = (marksBl j0 n).map Value.bool := by
 unfold partB
 rw [List.drop_eq_nil_of_le (by omega), List.append_nil]
theorem partB_step {l : List Bool} {i n : Nat} (j : Nat) (hi : i < n) (hn : l.length = n) : (partB j i l).set i (.bool (third ((j + i : Nat) : Int))) = partB j (i + 1) l := by
 unfold partB
 rw [← List.map_set]
 congr 1
 rw [List.set_append_right _ _ (by rw [marksBl_len]; omega), marksBl_len, Nat.sub_self, List.drop_eq_getElem_cons (by omega), List.set_cons_zero]
 simp [marksBl, List.range_succ]

set_option maxRecDepth 100000 in
theorem markBoolS_any (B : Nat) (a : Option Addr) (n c j0 : Nat) (l : List Bool) (w : World) (h : OwnBl 4 w B a n c l) (h0 : j0 ≤ 1000000000000) (hn : n ≤ 1000000000000) :
  Calls Try.prog 77 #[.slice a n c, .int .i64 j0] w fun e w' => e = .returned (.int .i64 ((j0 + n : Nat) : Int)) ∧ OwnBl 4 w' B a n c (marksBl j0 n) ∧ w.grownBy w' (Value.ownBlock (.slice a n c)) := by
 have H := Lib.hid h
 clear h
 go_enter Try.func77, Try.ntmps77
 go_wp2
 go_loopw [1, 5] (fun q i wr => ∃ j : Nat, j ≤ n ∧ i = .int .i64 j ∧ q = .int .i64 ((j0 + j : Nat) : Int) ∧ wr.ownsRow B 4 1 (.slice a n c) n (partB j0 j l) ∧ w.grownBy wr (Value.ownBlock (.slice a n c))) (fun _ i _ => n - (intOf i).toNat)
 case atStart => exact ⟨0, Nat.zero_le _, rfl, rfl, by rw [partB_zero, ← flat_bl]; exact H.out.2, grown_below (Below.refl _ _) _⟩
 case round =>
  obtain ⟨i, hi, rfl, rfl, hown, hg⟩ := hrel
  have HO := Lib.hid hown
  have HG := Lib.hid hg
  clear hown hg
  by_cases hlt : i < n
  ·obtain ⟨g, e, _, _⟩ := H.out.head (by omega)
   subst e
   have hf := HO.out.frozenAt i
   obtain ⟨u, hu⟩ := row_cell HO.out (k := i) (by omega)
   go_wp2
   go_roundw
   case rel =>
    have hs := HO.out.stored i (.bool (third ((j0 + i : Nat) : Int)))
    rw [partB_step _ hlt H.out.len] at hs
    exact ⟨i + 1, by omega, by go_num, by go_num, hs.1, HG.out.trans hs.2⟩
   case measure => simp [intOf]; omega
  ·obtain rfl : i = n := by omega
   go_wp2
   go_ret
   have h1 := HO.out
   rw [partB_all _ _ _ H.out.len, ← flat_bl] at h1
   exact ⟨rfl, ⟨marksBl_len _ _, h1⟩, HG.out⟩

end Go.Proofs.Ytckmgbobkffabaa
namespace Go.Proofs.Ytckmgbobkffabaa
open Go.ChangeShapes Go.WideShapes Go.ChangeAt Go.RowKit
set_option linter.unusedVariables false

theorem infoMoveS : (Try.prog.info? 63).map (fun i => (i.zero, i.size, i.bytes)) = some (some (.agg #[.int .i64 0, .bool false, .int .i64 0, .int .i64 0]), 4, 32) := by kernel_rfl

set_option maxRecDepth 100000 in
theorem szMoveS_any (a : Option Addr) (n c : Nat) (left : Int) (w : World) (h : (n : Int) ≤ left) (hl : left ≤ 1048576) :
  Calls Try.prog 72 #[.slice a n c, .int .i64 left] w fun e w' => e = .returned (.int .i64 (left - n)) ∧ w = w' := by
 go_enter Try.func72, Try.ntmps72
 go_wp2
 go_ret
 exact ⟨rfl, rfl⟩

def zeroMv : Mv := ⟨0, false, 0, 0⟩
def fillM (l : List Mv) (j n : Nat) : List Value := flatOf Mv.enc (l.take j) ++ flatOf Mv.enc (List.replicate (n - j) zeroMv)
theorem fillM_zero (l : List Mv) (n : Nat) : fillM l 0 n = flatOf Mv.enc (List.replicate n zeroMv) := by simp [fillM, flatOf]
theorem fillM_all (l : List Mv) (n : Nat) (h : l.length = n) : fillM l n n = flatOf Mv.enc l := by
 unfold fillM
 rw [List.take_of_length_le (by omega), Nat.sub_self]
 simp [flatOf]
theorem fillM_step {l : List Mv} {j n : Nat} {x : Mv} (hj : l[j]? = some x) (hn : l.length = n) :
  ((((fillM l j n).set (j * 4) (.int .i64 x.frm)).set (j * 4 + 1) (.bool x.send)).set (j * 4 + 2) (.int .i64 x.msg)).set (j * 4 + 3) (.int .i64 x.to) = fillM l (j + 1) n := by
 have hlt : j < l.length := by
  rcases Nat.lt_or_ge j l.length with h | h
  ·exact h
  ·rw [List.getElem?_eq_none h] at hj; cases hj
 unfold fillM
 rw [show n - j = (n - (j + 1)) + 1 by omega, List.replicate_succ, show flatOf Mv.enc (zeroMv :: List.replicate (n - (j + 1)) zeroMv) = .int .i64 0 :: .bool false :: .int .i64 0 :: .int .i64 0 :: flatOf Mv.enc (List.replicate (n - (j + 1)) zeroMv) from rfl,
  set4 _ (j * 4) (by rw [flatOf_len Mv.enc_len, List.length_take]; omega), List.take_add_one, hj]
 simp [flatOf, Mv.enc]
theorem fillM_len {l : List Mv} {j n : Nat} (hn : l.length = n) (hj : j ≤ n) : (fillM l j n).length = n * 4 := by
 unfold fillM
 rw [List.length_append, flatOf_len Mv.enc_len, flatOf_len Mv.enc_len, List.length_take, List.length_replicate]
 omega
theorem madeM (n : Nat) : (madeCells (Value.agg #[.int .i64 0, .bool false, .int .i64 0, .int .i64 0]).cells (n * 4)).toList = flatOf Mv.enc (List.replicate n zeroMv) := by
 apply List.ext_getElem
 ·rw [flatOf_len Mv.enc_len]; simp [madeCells]
 ·intro i h1 h2
  have h3 : i < n * 4 := by simpa [madeCells] using h1
  have hd : i / 4 < n := by omega
  have hm : i % 4 < 4 := Nat.mod_lt _ (by omega)
  have e : i = i / 4 * 4 + i % 4 := by omega
  have hf := flatOf_at Mv.enc_len (List.replicate n zeroMv) (i / 4) zeroMv (i % 4) (by rw [List.getElem?_replicate]; simp [hd]) hm
  rw [← e, List.getElem?_eq_getElem h2] at hf
  have hg : (flatOf Mv.enc (List.replicate n zeroMv))[i]'h2 = zeroMv.enc[i % 4]'(by rw [Mv.enc_len]; exact hm) := by
   rw [List.getElem?_eq_getElem (by rw [Mv.enc_len]; exact hm)] at hf
   exact Option.some.inj hf
  rw [hg]
  simp only [madeCells, Value.cells, Array.getElem_toList, Array.getElem_map, Array.getElem_range]
  show (#[Value.int .i64 0, .bool false, .int .i64 0, .int .i64 0] : Array Value)[i % 4]! = _
  match h : i % 4, hm with
  | 0, _ => rfl
  | 1, _ => rfl
  | 2, _ => rfl
  | 3, _ => rfl

set_option maxRecDepth 100000 in
theorem toMove_any (x : Mv) (w : World) : Calls Try.prog 101 #[x.val] w (Told x.val w) := by
 unfold Mv.val
 go_enter Try.func101, Try.ntmps101
 go_wp2
 go_returns
 exact ⟨rfl, (((Below.refl _ w).alloc (Nat.le_refl _) _).alloc (by simp) _).alloc (by simp; omega) _⟩

set_option maxRecDepth 100000 in
theorem toMoveS_any (a : Option Addr) (n c : Nat) (l : List Mv) (w : World) (h : Mvs w a n l) (hn : n ≤ 1048576000) :
  Calls Try.prog 74 #[.slice a n c] w (MadeI Mv.enc 4 63 w.heap.size l w) := by
 have H := Lib.hid h
 have hl := Lib.hid h.len
 clear h
 obtain ⟨i0, hi, hz0, hz1, hz2⟩ := info_parts infoMoveS
 go_enter Try.func74, Try.ntmps74
 go_wp2_with (with_reducible refine wpList_make_full _ rfl (.tmp 6) (.tmp 6) 25 rfl w.heap.size 63 i0 (.agg #[.int .i64 0, .bool false, .int .i64 0, .int .i64 0]) 4 Try.underlying25 hi hz0 hz1 .i64 .i64 _ _ n rfl rfl (by omega) (by omega) ?c1 ?c2 ?c3 ?_)
 case c1 => rw [hz2]; omega
 case c2 => unfold maxLen; omega
 case c3 => omega
 intro w1 hown hgrow
 have hb1 : Below w.heap.size w w1 := (Below.refl _ w).grown hgrow (Nat.le_refl _) (fun _ e => by cases e)
 have HO : Hid (w1.ownsRow w.heap.size 63 4 (.slice (some ⟨w.heap.size, 0, none⟩) n n) n (fillM l 0 n)) := by
  rw [fillM_zero, ← madeM]
  exact Lib.hid hown
 have HB := Lib.hid hb1
 clear hown hgrow hb1 hi hz0 hz1 hz2
 go_wp2
 go_loopw [4] (fun i wr => ∃ j : Nat, j ≤ n ∧ i = .int .i64 j ∧ wr.ownsRow w.heap.size 63 4 (.slice (some ⟨w.heap.size, 0, none⟩) n n) n (fillM l j n) ∧ Below w.heap.size w wr) (fun i _ => n - (intOf i).toNat)
 case atStart => exact ⟨0, Nat.zero_le _, rfl, HO.out, HB.out⟩
 case round =>
  obtain ⟨j, hj, rfl, hown, hb⟩ := hrel
  have HO2 := Lib.hid hown
  have HB2 := Lib.hid hb
  clear hown hb
  by_cases hlt : j < n
  ·obtain ⟨b, o, x, rfl, hx, hc0, hc1, hc2, hc3⟩ := mvs_at (H.out.same HB2.out) hlt
   have HX := Lib.hid hx
   clear hx
   go_wp2_with fail
   refine (toMove_any x wr).mono ?_
   rintro e w2 ⟨rfl, hb2⟩
   have hrow : w2.ownsRow w.heap.size 63 4 (.slice (some ⟨w.heap.size, 0, none⟩) n n) n (fillM l j n) := HO2.out.kept (grown_below hb2 none) (Or.inr (by simp [Value.ownBlock]))
   have HR := Lib.hid hrow
   have hf0 := hrow.frozenAt (j * 4)
   have hf1 := hrow.frozenAt (j * 4 + 1)
   have hf2 := hrow.frozenAt (j * 4 + 2)
   have hf3 := hrow.frozenAt (j * 4 + 3)
   obtain ⟨u0, hu0⟩ := row_cell hrow (k := j * 4) (by omega)
   obtain ⟨u1, hu1⟩ := row_cell hrow (k := j * 4 + 1) (by omega)
   obtain ⟨u2, hu2⟩ := row_cell hrow (k := j * 4 + 2) (by omega)
   obtain ⟨u3, hu3⟩ := row_cell hrow (k := j * 4 + 3) (by omega)
   have HB3 := Lib.hid (HB2.out.trans (hb2.mono HB2.out.size))
   clear hrow hb2 hc0 hc1 hc2 hc3
   unfold Mv.val
   go_wp2
   go_roundw
   case rel =>
    have hs := stored4 HR.out (j * 4) (j * 4 + 1) (j * 4 + 2) (j * 4 + 3) (.int .i64 x.frm) (.bool x.send) (.int .i64 x.msg) (.int .i64 x.to)
    rw [fillM_step HX.out hl.out] at hs
    exact ⟨j + 1, by omega, by go_num, hs.1, grown_to (b := some ⟨w.heap.size, 0, none⟩) (m := n) (d := n) hs.2 HB3.out (lo := w.heap.size) (hi := w.heap.size + 1) (fun ad e => by cases e; exact ⟨Nat.le_refl _, Nat.lt_succ_self _⟩) (Nat.le_refl _) HB3.out.size⟩
   case measure => simp [intOf]; omega
  ·obtain rfl : j = n := by omega
   go_wp2
   go_ret
   have h1 := HO2.out
   rw [fillM_all _ _ hl.out] at h1
   exact ⟨_, _, _, rfl, ⟨hl.out, h1⟩, HB2.out⟩

set_option maxRecDepth 100000 in
theorem eqMove_yes (x : Mv) (w : World) : Calls Try.prog 102 #[x.val, x.val] w (Told (.bool true) w) := by
 unfold Mv.val
 go_enter Try.func102, Try.ntmps102
 go_wp2
 go_ret
 exact ⟨rfl, ((Below.refl _ w).alloc (Nat.le_refl _) _).alloc (by simp) _⟩

set_option maxRecDepth 100000 in
theorem eqMoveS_yes (a b : Option Addr) (n m c d : Nat) (l : List Mv) (w : World) (h : Mvs w a n l) (h' : Mvs w b m l) :
  Calls Try.prog 76 #[.slice a n c, .slice b m d] w (Told (.bool true) w) := by
 obtain rfl : n = m := by rw [← h.len, ← h'.len]
 have hn := h.fits
 have H := Lib.hid h
 have H' := Lib.hid h'
 clear h h'
 go_enter Try.func76, Try.ntmps76
 go_wp2
 go_loopw [5] (fun i wr => ∃ j : Nat, j ≤ n ∧ i = .int .i64 j ∧ Below w.heap.size w wr) (fun i _ => n - (intOf i).toNat)
 case atStart => exact ⟨0, Nat.zero_le _, rfl, Below.refl _ _⟩
 case round =>
  obtain ⟨j, hj, rfl, hb⟩ := hrel
  have HB := Lib.hid hb
  clear hb
  by_cases hlt : j < n
  ·obtain ⟨b1, o1, x, rfl, hx, hc0, hc1, hc2, hc3⟩ := mvs_at (H.out.same HB.out) hlt
   obtain ⟨b2, o2, y, rfl, hy, hd0, hd1, hd2, hd3⟩ := mvs_at (H'.out.same HB.out) hlt
   rw [hx] at hy
   cases hy
   clear hx
   go_wp2_with fail
   go_still_tail 8, (by kernel_rfl)
   have H2 : Hid (Below w.heap.size w wr.drew) := Lib.hid HB.out.drew
   change wpList _ _ _ _ _ wr.drew
   generalize wr.drew = w2 at H2 ⊢
   go_wp2_with fail
   refine (eqMove_yes x w2).mono ?_
   rintro e w3 ⟨rfl, hb3⟩
   have HB3 := Lib.hid (H2.out.trans (hb3.mono H2.out.size))
   clear hb3
   go_wp2
   go_roundw
   case rel => exact ⟨j + 1, by omega, by go_num, HB3.out⟩
   case measure => simp [intOf]; omega
  ·go_wp2
   go_ret
   exact ⟨rfl, HB.out⟩

end Go.Proofs.Ytckmgbobkffabaa
