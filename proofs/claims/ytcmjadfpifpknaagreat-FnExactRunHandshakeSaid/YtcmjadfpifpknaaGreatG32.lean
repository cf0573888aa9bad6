/- How an edit, a deal and a list of edits among the arguments are read. The helpers of the exact laws at lists of edits: copied, compared. The helpers of the exact laws at lists of edits: marked. How a slice of edits among the arguments is read. -/
import Derived.Test.YtcmjadfpifpknaaGreatG21
import Derived.Test.YtcmjadfpifpknaaGreatG8
import Derived.Test.YtcmjadfpifpknaaGreatG31
import Derived.Deep.QuietTactic
import Derived.BigQuiet
import Derived.RegionTactic
import Derived.StillTailTactics
import Derived.Handy
import Derived.Deep.Slices
import Derived.Deep.Fields
import Derived.ChangeSame
namespace Go.Proofs.YtcmjadfpifpknaaGreat
open Go.ChangeShapes Go.WideShapes Go.ChangeAt Go.RowKit
set_option linter.unusedVariables false

def Dl.wf (x : Dl) : Prop := (Lit.int .i64 x.ver).wf = true ∧ ∀ z ∈ x.tags, (Lit.int .i64 z).wf = true
theorem one_boolD {P : Program} {H : Type} {enc : TypeId × Value → H} {w : World} {base n : Nat} {spare : Nat → Bool} {held : Bool} {t : TypeId} {c : Value} {y : DataW H × List MemPlace} (ht : P.underlying t = some .bool)
    (h : DataW.trod enc P w base spare held n t [c] = some y) : ∃ x, c = .bool x := by
  obtain ⟨x, h1, _⟩ := DataW.trod_bool ht h
  injection h1 with h3
  exact ⟨x, h3⟩
set_option maxRecDepth 100000 in
theorem open_et {E : TypeId} {f0 f1 : Field} (hE : Tryz.prog.underlying E = some (.struct #[f0, f1])) (hone : Go.Deep.oneCellFields Tryz.prog #[f0, f1] = true) (hC : Tryz.prog.cellsOf E = 2)
    (t0 : Tryz.prog.underlying f0.type = some (.int .i64)) (t1 : Tryz.prog.underlying f1.type = some (.int .i64))
    {H : Type} {enc : TypeId × Value → H} {W : World} {base : Nat} {v : Value} {d : DataW H} {p : List MemPlace}
    (hval : Value.okWide Tryz.prog W .any base E v) (h : DataW.Trod enc Tryz.prog W 0 (fun _ => true) true E v d p) : ∃ x : Et, v = .agg #[.int .i64 x.kind, .int .i64 x.n] ∧ x.wf := by
  obtain ⟨v0, v1, y0, y1, n, rfl, _, _, h0, h1⟩ := Go.Joins.open_agg2 hE hone hC hval h
  obtain ⟨x0, rfl, w0⟩ := one_cell t0 h0 rfl
  obtain ⟨x1, rfl, w1⟩ := one_cell t1 h1 rfl
  exact ⟨⟨x0, x1⟩, rfl, w0, w1⟩
set_option maxRecDepth 100000 in
theorem open_dl {E I : TypeId} {f0 f1 f2 : Field} (hE : Tryz.prog.underlying E = some (.struct #[f0, f1, f2])) (hone : Go.Deep.oneCellFields Tryz.prog #[f0, f1, f2] = true) (hC : Tryz.prog.cellsOf E = 3)
    (t0 : Tryz.prog.underlying f0.type = some .bool) (t1 : Tryz.prog.underlying f1.type = some (.int .i64)) (t2 : Tryz.prog.underlying f2.type = some (.slice I)) (tI : Tryz.prog.underlying I = some (.int .i64)) (hI : Tryz.prog.cellsOf I = 1)
    {H : Type} {enc : TypeId × Value → H} {W : World} {base : Nat} {v : Value} {d : DataW H} {p : List MemPlace}
    (hval : Value.okWide Tryz.prog W .any base E v) (h : DataW.Trod enc Tryz.prog W 0 (fun _ => true) true E v d p) : ∃ x : Dl, DlW W v x ∧ x.wf := by
  obtain ⟨v0, v1, v2, y0, y1, y2, n, rfl, _, _, h0, h1, h2⟩ := Go.Joins.open_agg3 hE hone hC hval h
  obtain ⟨x0, rfl⟩ := one_boolD t0 h0
  obtain ⟨x1, rfl, w1⟩ := one_cell t1 h1 rfl
  obtain ⟨a, k, c, l1, e1, b1, w2, r1⟩ := trod_nums t2 tI hI h2
  have f1 : v2 = .slice a k c := by simpa using e1
  subst f1
  exact ⟨⟨x0, x1, l1⟩, ⟨a, k, c, rfl, b1, r1⟩, w1, w2⟩
end Go.Proofs.YtcmjadfpifpknaaGreat
namespace Go.Proofs.YtcmjadfpifpknaaGreat
open Go.ChangeShapes Go.WideShapes Go.ChangeAt Go.RowKit
set_option linter.unusedVariables false

theorem infoEditS : (Tryz.prog.info? 40).map (fun i => (i.zero, i.size, i.bytes)) = some (some (.agg #[.int .i64 0, .int .i64 0]), 2, 16) := by kernel_rfl

set_option maxRecDepth 100000 in
theorem szEditS_any (a : Option Addr) (n c : Nat) (left : Int) (w : World) (h : (n : Int) ≤ left) (hl : left ≤ 1048576) :
    Calls Tryz.prog 22 #[.slice a n c, .int .i64 left] w fun e w' => e = .returned (.int .i64 (left - n)) ∧ w = w' := by
  go_enter Tryz.func22, Tryz.ntmps22
  go_wp2
  go_ret
  exact ⟨rfl, rfl⟩

set_option maxRecDepth 100000 in
theorem szEditS_no (a : Option Addr) (n c : Nat) (left : Int) (w : World) (h : left < (n : Int)) (hn : (n : Int) ≤ 9223372036854775807) (h0 : 0 ≤ left) :
    Calls Tryz.prog 22 #[.slice a n c, .int .i64 left] w fun e w' => e = .returned (.int .i64 (-1)) ∧ w = w' := by
  go_enter Tryz.func22, Tryz.ntmps22
  go_wp2
  go_ret
  exact ⟨rfl, rfl⟩
theorem set2t (A : List Value) (p : Nat) (hA : A.length = p) (a b : Value) (R : List Value) (v0 v1 : Value) :
    ((A ++ a :: b :: R).set p v0).set (p + 1) v1 = A ++ v0 :: v1 :: R := by
  subst hA
  rw [List.set_append_right _ _ (Nat.le_refl _), Nat.sub_self, List.set_cons_zero, List.set_append_right _ _ (by omega)]
  simp [show A.length + 1 - A.length = 1 by omega]
def zeroEt : Et := ⟨0, 0⟩
def fillEt (l : List Et) (j n : Nat) : List Value := flatOf Et.enc (l.take j) ++ flatOf Et.enc (List.replicate (n - j) zeroEt)
theorem fillEt_zero (l : List Et) (n : Nat) : fillEt l 0 n = flatOf Et.enc (List.replicate n zeroEt) := by simp [fillEt, flatOf]
theorem fillEt_all (l : List Et) (n : Nat) (h : l.length = n) : fillEt l n n = flatOf Et.enc l := by
  unfold fillEt
  rw [List.take_of_length_le (by omega), Nat.sub_self]
  simp [flatOf]
theorem fillEt_step {l : List Et} {j n : Nat} {x : Et} (hj : l[j]? = some x) (hn : l.length = n) :
    ((fillEt l j n).set (j * 2) (.int .i64 x.kind)).set (j * 2 + 1) (.int .i64 x.n) = fillEt l (j + 1) n := by
  have hlt : j < l.length := by
    rcases Nat.lt_or_ge j l.length with h | h
    · exact h
    · rw [List.getElem?_eq_none h] at hj; cases hj
  unfold fillEt
  rw [show n - j = (n - (j + 1)) + 1 by omega, List.replicate_succ, show flatOf Et.enc (zeroEt :: List.replicate (n - (j + 1)) zeroEt) = .int .i64 0 :: .int .i64 0 :: flatOf Et.enc (List.replicate (n - (j + 1)) zeroEt) from rfl,
    set2t _ (j * 2) (by rw [flatOf_len Et.enc_len, List.length_take]; omega), List.take_add_one, hj]
  simp [flatOf, Et.enc]
theorem fillEt_len {l : List Et} {j n : Nat} (hn : l.length = n) (hj : j ≤ n) : (fillEt l j n).length = n * 2 := by
  unfold fillEt
  rw [List.length_append, flatOf_len Et.enc_len, flatOf_len Et.enc_len, List.length_take, List.length_replicate]
  omega
theorem made2t (n : Nat) : (madeCells (Value.agg #[.int .i64 0, .int .i64 0]).cells (n * 2)).toList = flatOf Et.enc (List.replicate n zeroEt) := by
  apply List.ext_getElem
  · rw [flatOf_len Et.enc_len]; simp [madeCells]
  · intro i h1 h2
    have h3 : i < n * 2 := by simpa [madeCells] using h1
    have hd : i / 2 < n := by omega
    have hm : i % 2 < 2 := Nat.mod_lt _ (by omega)
    have e : i = i / 2 * 2 + i % 2 := by omega
    have hf := flatOf_at Et.enc_len (List.replicate n zeroEt) (i / 2) zeroEt (i % 2) (by rw [List.getElem?_replicate]; simp [hd]) hm
    rw [← e, List.getElem?_eq_getElem h2] at hf
    have hg : (flatOf Et.enc (List.replicate n zeroEt))[i]'h2 = zeroEt.enc[i % 2]'(by rw [Et.enc_len]; exact hm) := by
      rw [List.getElem?_eq_getElem (by rw [Et.enc_len]; exact hm)] at hf
      exact Option.some.inj hf
    rw [hg]
    simp only [madeCells, Value.cells, Array.getElem_toList, Array.getElem_map, Array.getElem_range]
    show (#[Value.int .i64 0, .int .i64 0] : Array Value)[i % 2]! = _
    match h : i % 2, hm with
    | 0, _ => rfl
    | 1, _ => rfl

theorem stored2t {w : World} {B : Nat} {t : TypeId} {s g n cap : Nat} {xs : List Value} (h : w.ownsRow B t s (.slice (some ⟨g, 0, none⟩) n cap) n xs) (j0 j1 : Nat) (v0 v1 : Value) :
    ((w.setCell ⟨g, j0, none⟩ v0).setCell ⟨g, j1, none⟩ v1).ownsRow B t s (.slice (some ⟨g, 0, none⟩) n cap) n ((xs.set j0 v0).set j1 v1) ∧
    w.grownBy ((w.setCell ⟨g, j0, none⟩ v0).setCell ⟨g, j1, none⟩ v1) (some g) := by
  have h0 := h.stored j0 v0
  have h1 := h0.1.stored j1 v1
  exact ⟨h1.1, h0.2.trans h1.2⟩
set_option maxRecDepth 100000 in
theorem toEdit_any (x : Et) (w : World) : Calls Tryz.prog 78 #[x.val] w (Told x.val w) := by
  unfold Et.val
  go_enter Tryz.func78, Tryz.ntmps78
  go_wp2
  go_returns
  exact ⟨rfl, (((Below.refl _ w).alloc (Nat.le_refl _) _).alloc (by simp) _).alloc (by simp; omega) _⟩

/-- Cells in a row of the call's own are there, whatever they hold. -/
theorem row_cellE {w : World} {B : Nat} {t : TypeId} {s g n cap : Nat} {xs : List Value} (h : w.ownsRow B t s (.slice (some ⟨g, 0, none⟩) n cap) n xs) {k : Nat} (hk : k < n * s) : ∃ u, w.cell? ⟨g, k, none⟩ = some u := by
  rw [h.cellAt k hk]
  have : k < xs.length := by rw [h.1]; exact hk
  exact ⟨_, List.getElem?_eq_getElem this⟩

set_option maxRecDepth 100000 in
theorem toEditS_any (a : Option Addr) (n c : Nat) (l : List Et) (w : World) (h : Ets w a n l) (hn : n ≤ 1048576000) :
    Calls Tryz.prog 26 #[.slice a n c] w (MadeI Et.enc 2 40 w.heap.size l w) := by
  have H := Lib.hid h
  have hl := Lib.hid h.len
  clear h
  obtain ⟨i0, hi, hz0, hz1, hz2⟩ := info_parts infoEditS
  go_enter Tryz.func26, Tryz.ntmps26
  go_wp2_with (with_reducible refine wpList_make_full _ rfl (.tmp 6) (.tmp 6) 28 rfl w.heap.size 40 i0 (.agg #[.int .i64 0, .int .i64 0]) 2 Tryz.underlying28 hi hz0 hz1 .i64 .i64 _ _ n rfl rfl (by omega) (by omega) ?c1 ?c2 ?c3 ?_)
  case c1 => rw [hz2]; omega
  case c2 => unfold maxLen; omega
  case c3 => omega
  intro w1 hown hgrow
  have hb1 : Below w.heap.size w w1 := (Below.refl _ w).grown hgrow (Nat.le_refl _) (fun _ e => by cases e)
  have HO : Hid (w1.ownsRow w.heap.size 40 2 (.slice (some ⟨w.heap.size, 0, none⟩) n n) n (fillEt l 0 n)) := by
    rw [fillEt_zero, ← made2t]
    exact Lib.hid hown
  have HB := Lib.hid hb1
  clear hown hgrow hb1 hi hz0 hz1 hz2
  go_wp2
  go_loopw [4] (fun i wr => ∃ j : Nat, j ≤ n ∧ i = .int .i64 j ∧ wr.ownsRow w.heap.size 40 2 (.slice (some ⟨w.heap.size, 0, none⟩) n n) n (fillEt l j n) ∧ Below w.heap.size w wr) (fun i _ => n - (intOf i).toNat)
  case atStart => exact ⟨0, Nat.zero_le _, rfl, HO.out, HB.out⟩
  case round =>
    obtain ⟨j, hj, rfl, hown, hb⟩ := hrel
    have HO2 := Lib.hid hown
    have HB2 := Lib.hid hb
    clear hown hb
    by_cases hlt : j < n
    · obtain ⟨b, o, x, rfl, hx, hc0, hc1⟩ := ets_at (H.out.same HB2.out) hlt
      have HX := Lib.hid hx
      clear hx
      go_wp2_with fail
      refine (toEdit_any x wr).mono ?_
      rintro e w2 ⟨rfl, hb2⟩
      have hrow : w2.ownsRow w.heap.size 40 2 (.slice (some ⟨w.heap.size, 0, none⟩) n n) n (fillEt l j n) := HO2.out.kept (grown_below hb2 none) (Or.inr (by simp [Value.ownBlock]))
      have HR := Lib.hid hrow
      have hf0 := hrow.frozenAt (j * 2)
      have hf1 := hrow.frozenAt (j * 2 + 1)
      obtain ⟨u0, hu0⟩ := row_cellE hrow (k := j * 2) (by omega)
      obtain ⟨u1, hu1⟩ := row_cellE hrow (k := j * 2 + 1) (by omega)
      have HB3 := Lib.hid (HB2.out.trans (hb2.mono HB2.out.size))
      clear hrow hb2 hc0 hc1
      unfold Et.val
      go_wp2
      go_roundw
      case rel =>
        have hs := stored2t HR.out (j * 2) (j * 2 + 1) (.int .i64 x.kind) (.int .i64 x.n)
        rw [fillEt_step HX.out hl.out] at hs
        exact ⟨j + 1, by omega, by go_num, hs.1, grown_to (b := some ⟨w.heap.size, 0, none⟩) (m := n) (d := n) hs.2 HB3.out (lo := w.heap.size) (hi := w.heap.size + 1) (fun ad e => by cases e; exact ⟨Nat.le_refl _, Nat.lt_succ_self _⟩) (Nat.le_refl _) HB3.out.size⟩
      case measure => simp [intOf]; omega
    · obtain rfl : j = n := by omega
      go_wp2
      go_ret
      have h1 := HO2.out
      rw [fillEt_all _ _ hl.out] at h1
      exact ⟨_, _, _, rfl, ⟨hl.out, h1⟩, HB2.out⟩

set_option maxRecDepth 100000 in
theorem eqEdit_yes (x : Et) (w : World) : Calls Tryz.prog 80 #[x.val, x.val] w (Told (.bool true) w) := by
  unfold Et.val
  go_enter Tryz.func80, Tryz.ntmps80
  go_wp2
  go_ret
  exact ⟨rfl, ((Below.refl _ w).alloc (Nat.le_refl _) _).alloc (by simp) _⟩

set_option maxRecDepth 100000 in
theorem eqEditS_yes (a b : Option Addr) (n m c d : Nat) (l : List Et) (w : World) (h : Ets w a n l) (h' : Ets w b m l) :
    Calls Tryz.prog 30 #[.slice a n c, .slice b m d] w (Told (.bool true) w) := by
  obtain rfl : n = m := by rw [← h.len, ← h'.len]
  have hn := h.fits
  have H := Lib.hid h
  have H' := Lib.hid h'
  clear h h'
  go_enter Tryz.func30, Tryz.ntmps30
  go_wp2
  go_loopw [5] (fun i wr => ∃ j : Nat, j ≤ n ∧ i = .int .i64 j ∧ Below w.heap.size w wr) (fun i _ => n - (intOf i).toNat)
  case atStart => exact ⟨0, Nat.zero_le _, rfl, Below.refl _ _⟩
  case round =>
    obtain ⟨j, hj, rfl, hb⟩ := hrel
    have HB := Lib.hid hb
    clear hb
    by_cases hlt : j < n
    · obtain ⟨b1, o1, x, rfl, hx, hc0, hc1⟩ := ets_at (H.out.same HB.out) hlt
      obtain ⟨b2, o2, y, rfl, hy, hd0, hd1⟩ := ets_at (H'.out.same HB.out) hlt
      rw [hx] at hy
      cases hy
      clear hx
      go_wp2_with fail
      go_still_tail 8, (by kernel_rfl)
      have H2 : Hid (Below w.heap.size w wr.drew) := Lib.hid HB.out.drew
      change wpList _ _ _ _ _ wr.drew
      generalize wr.drew = w2 at H2 ⊢
      go_wp2_with fail
      refine (eqEdit_yes x w2).mono ?_
      rintro e w3 ⟨rfl, hb3⟩
      have HB3 := Lib.hid (H2.out.trans (hb3.mono H2.out.size))
      clear hb3
      go_wp2
      go_roundw
      case rel => exact ⟨j + 1, by omega, by go_num, HB3.out⟩
      case measure => simp [intOf]; omega
    · go_wp2
      go_ret
      exact ⟨rfl, HB.out⟩

end Go.Proofs.YtcmjadfpifpknaaGreat
namespace Go.Proofs.YtcmjadfpifpknaaGreat
open Go.ChangeShapes Go.WideShapes Go.ChangeAt Go.RowKit
set_option linter.unusedVariables false

/-- The marks that are laid: each one more than the one before. -/
def marksEditS (j n : Nat) : List Et := (List.range n).map fun i => ⟨((j + i * 2 : Nat) : Int), ((j + i * 2 + 1 : Nat) : Int)⟩
theorem marksEditS_len (j n : Nat) : (marksEditS j n).length = n := by simp [marksEditS]
theorem marksEditS_get {j n i : Nat} (h : i < n) : (marksEditS j n)[i]? = some ⟨((j + i * 2 : Nat) : Int), ((j + i * 2 + 1 : Nat) : Int)⟩ := by
  unfold marksEditS
  rw [List.getElem?_map, List.getElem?_range h]; rfl
def partEt (j0 j : Nat) (l : List Et) : List Value := flatOf Et.enc (marksEditS j0 j ++ l.drop j)
theorem partEt_zero (j0 : Nat) (l : List Et) : partEt j0 0 l = flatOf Et.enc l := by simp [partEt, marksEditS]
theorem partEt_all (j0 n : Nat) (l : List Et) (h : l.length = n) : partEt j0 n l = flatOf Et.enc (marksEditS j0 n) := by
  unfold partEt
  rw [List.drop_eq_nil_of_le (by omega), List.append_nil]
theorem partEt_step {l : List Et} {i n : Nat} (j : Nat) (hi : i < n) (hn : l.length = n) :
    ((partEt j i l).set (i * 2) (.int .i64 ((j + i * 2 : Nat) : Int))).set (i * 2 + 1) (.int .i64 ((j + i * 2 + 1 : Nat) : Int)) = partEt j (i + 1) l := by
  unfold partEt
  rw [flatOf_app, List.drop_eq_getElem_cons (by omega), show flatOf Et.enc (l[i] :: l.drop (i + 1)) = .int .i64 l[i].kind :: .int .i64 l[i].n :: flatOf Et.enc (l.drop (i + 1)) from rfl,
    set2t _ (i * 2) (by rw [flatOf_len Et.enc_len, marksEditS_len]), flatOf_app]
  simp [marksEditS, List.range_succ, flatOf, Et.enc]

set_option maxRecDepth 100000 in
theorem markEditS_any (B : Nat) (a : Option Addr) (n c j0 : Nat) (l : List Et) (w : World) (h : OwnEt 40 w B a n c l) (h0 : j0 ≤ 1000000000000) (hn : n ≤ 1000000000000) :
    Calls Tryz.prog 33 #[.slice a n c, .int .i64 j0] w fun e w' => e = .returned (.int .i64 ((j0 + n * 2 : Nat) : Int)) ∧ OwnEt 40 w' B a n c (marksEditS j0 n) ∧ w.grownBy w' (Value.ownBlock (.slice a n c)) := by
  have H := Lib.hid h
  clear h
  go_enter Tryz.func33, Tryz.ntmps33
  go_wp2
  go_loopw [1, 5] (fun q i wr => ∃ j : Nat, j ≤ n ∧ i = .int .i64 j ∧ q = .int .i64 ((j0 + j * 2 : Nat) : Int) ∧ wr.ownsRow B 40 2 (.slice a n c) n (partEt j0 j l) ∧ w.grownBy wr (Value.ownBlock (.slice a n c))) (fun _ i _ => n - (intOf i).toNat)
  case atStart => exact ⟨0, Nat.zero_le _, rfl, rfl, by rw [partEt_zero]; exact H.out.2, grown_below (Below.refl _ _) _⟩
  case round =>
    obtain ⟨i, hi, rfl, rfl, hown, hg⟩ := hrel
    have HR := Lib.hid hown
    have HG := Lib.hid hg
    clear hown hg
    by_cases hlt : i < n
    · obtain ⟨g, e, _, _⟩ := H.out.head (by omega)
      subst e
      have hf0 := HR.out.frozenAt (i * 2)
      have hf1 := HR.out.frozenAt (i * 2 + 1)
      obtain ⟨u0, hu0⟩ := row_cellE HR.out (k := i * 2) (by omega)
      obtain ⟨u1, hu1⟩ := row_cellE HR.out (k := i * 2 + 1) (by omega)
      go_wp2
      go_roundw
      case rel =>
        have hs := stored2t HR.out (i * 2) (i * 2 + 1) (.int .i64 ((j0 + i * 2 : Nat) : Int)) (.int .i64 ((j0 + i * 2 + 1 : Nat) : Int))
        rw [partEt_step _ hlt H.out.len] at hs
        exact ⟨i + 1, by omega, by go_num, by go_num, hs.1, HG.out.trans hs.2⟩
      case measure => simp [intOf]; omega
    · obtain rfl : i = n := by omega
      go_wp2
      go_ret
      have h1 := HR.out
      rw [partEt_all _ _ _ H.out.len] at h1
      exact ⟨rfl, ⟨marksEditS_len _ _, h1⟩, HG.out⟩

end Go.Proofs.YtcmjadfpifpknaaGreat
namespace Go.Proofs.YtcmjadfpifpknaaGreat
open Go.ChangeShapes Go.WideShapes Go.ChangeAt Go.RowKit
set_option linter.unusedVariables false

theorem one_cellE {P : Program} {H : Type} {enc : TypeId × Value → H} {w : World} {base n : Nat} {spare : Nat → Bool} {held : Bool} {t : TypeId} {c : Value} {o : Option (DataW H × List MemPlace)} (ht : P.underlying t = some (.int .i64))
    (h : DataW.trod enc P w base spare held n t [c] = o) (ho : o.isSome = true) : ∃ x, c = .int .i64 x ∧ (Lit.int .i64 x).wf = true := by
  cases o with
  | none => cases ho
  | some y =>
    obtain ⟨x, h1, _, h2⟩ := DataW.trod_int ht h
    injection h1 with h3
    exact ⟨x, h3, h2⟩

set_option maxRecDepth 100000 in
theorem open_ets {T E : TypeId} {f0 f1 : Field} (hT : Tryz.prog.underlying T = some (.slice E)) (hE : Tryz.prog.underlying E = some (.struct #[f0, f1])) (hone : Go.Deep.oneCellFields Tryz.prog #[f0, f1] = true) (hC : Tryz.prog.cellsOf E = 2)
    (t0 : Tryz.prog.underlying f0.type = some (.int .i64)) (t1 : Tryz.prog.underlying f1.type = some (.int .i64))
    {H : Type} {enc : TypeId × Value → H} {W : World} {base : Nat} {v : Value} {d : DataW H} {p : List MemPlace}
    (hval : Value.okWide Tryz.prog W .any base T v) (h : DataW.Trod enc Tryz.prog W 0 (fun _ => true) true T v d p) :
    ∃ (a : Option Addr) (n c : Nat) (l : List Et), v = .slice a n c ∧ Ets W a n l ∧ (∀ x ∈ l, x.wf) ∧ n ≤ c ∧ (c : Int) ≤ 9223372036854775807 := by
  obtain ⟨a0, len, cap, rfl⟩ := okWide_slice hT hval
  obtain ⟨fuel, hf⟩ := h
  rcases Go.Deep.open_slice hT hf with ⟨hcs, hx⟩ | ⟨a, len', cap', m, n, D, Pl, hcs, hb, hl, hm, hmm, hx, hi⟩
  · simp [Value.cells] at hcs
    obtain ⟨rfl, rfl, rfl⟩ := hcs
    exact ⟨none, 0, 0, [], rfl, Items.nothing, (fun _ h => by cases h), Nat.le_refl _, by omega⟩
  · simp [Value.cells] at hcs
    obtain ⟨rfl, rfl, rfl⟩ := hcs
    simp only [if_true] at hmm
    subst hmm
    have each : ∀ i, i < len → ∃ x : Et, (∀ j u, x.enc[j]? = some u → W.cell? ((a.add (i * 2)).add j) = some u) ∧ x.wf := by
      intro i hil
      obtain ⟨cs', hc, ht'⟩ := hi i (by omega)
      rw [hC] at hc
      obtain ⟨ys, k, _, _, hlen, hyl, hfs⟩ := DataW.trod_struct hE ht'
      obtain ⟨_, hcl, hat⟩ := World.cells?_some hc
      obtain ⟨o0, k0⟩ := Go.Deep.hone_of hone 0 f0 rfl
      obtain ⟨o1, k1⟩ := Go.Deep.hone_of hone 1 f1 rfl
      match cs', hlen.trans hC with
      | [c0, c1], _ =>
        have g0 := hfs 0 f0 rfl
        have g1 := hfs 1 f1 rfl
        rw [o0, k0] at g0
        rw [o1, k1] at g1
        have hys : ys.length = 2 := hyl
        obtain ⟨x0, rfl, w0⟩ := one_cellE t0 g0 (by rw [List.getElem?_eq_getElem (by omega)]; rfl)
        obtain ⟨x1, rfl, w1⟩ := one_cellE t1 g1 (by rw [List.getElem?_eq_getElem (by omega)]; rfl)
        refine ⟨⟨x0, x1⟩, fun j u hu => ?_, w0, w1⟩
        have hj : j < 2 := by
          rcases Nat.lt_or_ge j 2 with h | h
          · exact h
          · rw [List.getElem?_eq_none (by exact h)] at hu; cases hu
        rw [hat j hj]
        exact hu
    have each' : ∀ i, ∃ x : Et, i < len → (∀ j u, x.enc[j]? = some u → W.cell? ((a.add (i * 2)).add j) = some u) ∧ x.wf := fun i => by
      by_cases h : i < len
      · obtain ⟨x, hx⟩ := each i h
        exact ⟨x, fun _ => hx⟩
      · exact ⟨⟨0, 0⟩, fun h' => absurd h' h⟩
    obtain ⟨g, hg⟩ := Classical.axiomOfChoice each'
    unfold maxLen at hm
    refine ⟨some a, len, m, (List.range len).map g, rfl, ⟨by simp, by omega, fun j x hj => ?_⟩, ?_, hl, by omega⟩
    · have hjl : j < len := by
        rcases Nat.lt_or_ge j len with h | h
        · exact h
        · rw [List.getElem?_eq_none (by simpa using h)] at hj; cases hj
      rw [List.getElem?_map, List.getElem?_range hjl] at hj
      cases hj
      have hc := (hg j hjl).1
      have h0 := (hg 0 (by omega)).1 0 _ rfl
      obtain ⟨b, o, spot⟩ := a
      have hspot : spot = none := by
        rw [addr_add, show (0 * 2 + 0) = 0 from rfl, show (⟨b, o, spot⟩ : Addr).add 0 = ⟨b, o, spot⟩ from rfl] at h0
        exact World.cell?_spot h0
      subst hspot
      refine ⟨b, o, rfl, fun i v hv => ?_⟩
      have := hc i v hv
      rw [addr_add] at this
      have e : (⟨b, o, none⟩ : Addr).add (j * 2 + i) = ⟨b, o + j * 2 + i, none⟩ := by
        unfold Addr.add
        split <;> simp_all <;> omega
      rw [e] at this
      exact this
    · intro x hx
      obtain ⟨i, hi', rfl⟩ := List.mem_map.1 hx
      exact (hg i (List.mem_range.1 hi')).2
end Go.Proofs.YtcmjadfpifpknaaGreat
