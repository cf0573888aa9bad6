/- The helpers of the exact laws at lists of entries: copied, compared. -/
import Derived.Test.YtjmabidahofbbaaEnt
import Derived.Deep.QuietTactic
import Derived.BigQuiet
import Derived.RegionTactic
import Derived.StillTailTactics
import Derived.Handy
namespace Go.Proofs.Ytjmabidahofbbaa
open Go.ChangeShapes Go.WideShapes Go.ChangeAt Go.RowKit
set_option linter.unusedVariables false

theorem infoEntryS : (Try.prog.info? 51).map (fun i => (i.zero, i.size, i.bytes)) = some (some (.agg #[.int .i64 0, .int .i64 0, .bool false]), 3, 24) := by kernel_rfl

set_option maxRecDepth 100000 in
theorem szEntryS_any (a : Option Addr) (n c : Nat) (left : Int) (w : World) (h : (n : Int) ≤ left) (hl : left ≤ 1048576) :
    Calls Try.prog 38 #[.slice a n c, .int .i64 left] w fun e w' => e = .returned (.int .i64 (left - n)) ∧ w = w' := by
  go_enter Try.func38, Try.ntmps38
  go_wp2
  go_ret
  exact ⟨rfl, rfl⟩

theorem set3 (A : List Value) (p : Nat) (hA : A.length = p) (a b c : Value) (R : List Value) (v0 v1 v2 : Value) :
    (((A ++ a :: b :: c :: R).set p v0).set (p + 1) v1).set (p + 2) v2 = A ++ v0 :: v1 :: v2 :: R := by
  subst hA
  rw [List.set_append_right _ _ (Nat.le_refl _), Nat.sub_self, List.set_cons_zero, List.set_append_right _ _ (by omega), List.set_append_right _ _ (by omega)]
  simp [show A.length + 1 - A.length = 1 by omega, show A.length + 2 - A.length = 2 by omega]
def zeroEn : En := ⟨0, 0, false⟩
def fillN (l : List En) (j n : Nat) : List Value := flatOf En.enc (l.take j) ++ flatOf En.enc (List.replicate (n - j) zeroEn)
theorem fillN_zero (l : List En) (n : Nat) : fillN l 0 n = flatOf En.enc (List.replicate n zeroEn) := by simp [fillN, flatOf]
theorem fillN_all (l : List En) (n : Nat) (h : l.length = n) : fillN l n n = flatOf En.enc l := by
  unfold fillN
  rw [List.take_of_length_le (by omega), Nat.sub_self]
  simp [flatOf]
theorem fillN_step {l : List En} {j n : Nat} {x : En} (hj : l[j]? = some x) (hn : l.length = n) :
    (((fillN l j n).set (j * 3) (.int .i64 x.tag)).set (j * 3 + 1) (.int .i64 x.vend)).set (j * 3 + 2) (.bool x.old) = fillN l (j + 1) n := by
  have hlt : j < l.length := by
    rcases Nat.lt_or_ge j l.length with h | h
    · exact h
    · rw [List.getElem?_eq_none h] at hj; cases hj
  unfold fillN
  rw [show n - j = (n - (j + 1)) + 1 by omega, List.replicate_succ, show flatOf En.enc (zeroEn :: List.replicate (n - (j + 1)) zeroEn) = .int .i64 0 :: .int .i64 0 :: .bool false :: flatOf En.enc (List.replicate (n - (j + 1)) zeroEn) from rfl,
    set3 _ (j * 3) (by rw [flatOf_len En.enc_len, List.length_take]; omega), List.take_add_one, hj]
  simp [flatOf, En.enc]
theorem fillN_len {l : List En} {j n : Nat} (hn : l.length = n) (hj : j ≤ n) : (fillN l j n).length = n * 3 := by
  unfold fillN
  rw [List.length_append, flatOf_len En.enc_len, flatOf_len En.enc_len, List.length_take, List.length_replicate]
  omega
theorem made3 (n : Nat) : (madeCells (Value.agg #[.int .i64 0, .int .i64 0, .bool false]).cells (n * 3)).toList = flatOf En.enc (List.replicate n zeroEn) := by
  apply List.ext_getElem
  · rw [flatOf_len En.enc_len]; simp [madeCells]
  · intro i h1 h2
    have h3 : i < n * 3 := by simpa [madeCells] using h1
    have hd : i / 3 < n := by omega
    have hm : i % 3 < 3 := Nat.mod_lt _ (by omega)
    have e : i = i / 3 * 3 + i % 3 := by omega
    have hf := flatOf_at En.enc_len (List.replicate n zeroEn) (i / 3) zeroEn (i % 3) (by rw [List.getElem?_replicate]; simp [hd]) hm
    rw [← e, List.getElem?_eq_getElem h2] at hf
    have hg : (flatOf En.enc (List.replicate n zeroEn))[i]'h2 = zeroEn.enc[i % 3]'(by rw [En.enc_len]; exact hm) := by
      rw [List.getElem?_eq_getElem (by rw [En.enc_len]; exact hm)] at hf
      exact Option.some.inj hf
    rw [hg]
    simp only [madeCells, Value.cells, Array.getElem_toList, Array.getElem_map, Array.getElem_range]
    show (#[Value.int .i64 0, .int .i64 0, .bool false] : Array Value)[i % 3]! = _
    match h : i % 3, hm with
    | 0, _ => rfl
    | 1, _ => rfl
    | 2, _ => rfl

theorem stored3 {w : World} {B : Nat} {t : TypeId} {s g n cap : Nat} {xs : List Value} (h : w.ownsRow B t s (.slice (some ⟨g, 0, none⟩) n cap) n xs) (j0 j1 j2 : Nat) (v0 v1 v2 : Value) :
    (((w.setCell ⟨g, j0, none⟩ v0).setCell ⟨g, j1, none⟩ v1).setCell ⟨g, j2, none⟩ v2).ownsRow B t s (.slice (some ⟨g, 0, none⟩) n cap) n (((xs.set j0 v0).set j1 v1).set j2 v2) ∧
    w.grownBy (((w.setCell ⟨g, j0, none⟩ v0).setCell ⟨g, j1, none⟩ v1).setCell ⟨g, j2, none⟩ v2) (some g) := by
  have h0 := h.stored j0 v0
  have h1 := h0.1.stored j1 v1
  have h2 := h1.1.stored j2 v2
  exact ⟨h2.1, h0.2.trans (h1.2.trans h2.2)⟩
set_option maxRecDepth 100000 in
theorem toEntry_any (x : En) (w : World) : Calls Try.prog 74 #[x.val] w (Told x.val w) := by
  unfold En.val
  go_enter Try.func74, Try.ntmps74
  go_wp2
  go_returns
  exact ⟨rfl, (((Below.refl _ w).alloc (Nat.le_refl _) _).alloc (by simp) _).alloc (by simp; omega) _⟩

/-- Cells in a row of the call's own are there, whatever they hold. -/
theorem row_cell {w : World} {B : Nat} {t : TypeId} {s g n cap : Nat} {xs : List Value} (h : w.ownsRow B t s (.slice (some ⟨g, 0, none⟩) n cap) n xs) {k : Nat} (hk : k < n * s) : ∃ u, w.cell? ⟨g, k, none⟩ = some u := by
  rw [h.cellAt k hk]
  have : k < xs.length := by rw [h.1]; exact hk
  exact ⟨_, List.getElem?_eq_getElem this⟩

set_option maxRecDepth 100000 in
theorem toEntryS_any (a : Option Addr) (n c : Nat) (l : List En) (w : World) (h : Ens w a n l) (hn : n ≤ 1048576000) :
    Calls Try.prog 40 #[.slice a n c] w (MadeI En.enc 3 51 w.heap.size l w) := by
  have H := Lib.hid h
  have hl := Lib.hid h.len
  clear h
  obtain ⟨i0, hi, hz0, hz1, hz2⟩ := info_parts infoEntryS
  go_enter Try.func40, Try.ntmps40
  go_wp2_with (with_reducible refine wpList_make_full _ rfl (.tmp 6) (.tmp 6) 38 rfl w.heap.size 51 i0 (.agg #[.int .i64 0, .int .i64 0, .bool false]) 3 Try.underlying38 hi hz0 hz1 .i64 .i64 _ _ n rfl rfl (by omega) (by omega) ?c1 ?c2 ?c3 ?_)
  case c1 => rw [hz2]; omega
  case c2 => unfold maxLen; omega
  case c3 => omega
  intro w1 hown hgrow
  have hb1 : Below w.heap.size w w1 := (Below.refl _ w).grown hgrow (Nat.le_refl _) (fun _ e => by cases e)
  have HO : Hid (w1.ownsRow w.heap.size 51 3 (.slice (some ⟨w.heap.size, 0, none⟩) n n) n (fillN l 0 n)) := by
    rw [fillN_zero, ← made3]
    exact Lib.hid hown
  have HB := Lib.hid hb1
  clear hown hgrow hb1 hi hz0 hz1 hz2
  go_wp2
  go_loopw [4] (fun i wr => ∃ j : Nat, j ≤ n ∧ i = .int .i64 j ∧ wr.ownsRow w.heap.size 51 3 (.slice (some ⟨w.heap.size, 0, none⟩) n n) n (fillN l j n) ∧ Below w.heap.size w wr) (fun i _ => n - (intOf i).toNat)
  case atStart => exact ⟨0, Nat.zero_le _, rfl, HO.out, HB.out⟩
  case round =>
    obtain ⟨j, hj, rfl, hown, hb⟩ := hrel
    have HO2 := Lib.hid hown
    have HB2 := Lib.hid hb
    clear hown hb
    by_cases hlt : j < n
    · obtain ⟨b, o, x, rfl, hx, hc0, hc1, hc2⟩ := ens_at (H.out.same HB2.out) hlt
      have HX := Lib.hid hx
      clear hx
      go_wp2_with fail
      refine (toEntry_any x wr).mono ?_
      rintro e w2 ⟨rfl, hb2⟩
      have hrow : w2.ownsRow w.heap.size 51 3 (.slice (some ⟨w.heap.size, 0, none⟩) n n) n (fillN l j n) := HO2.out.kept (grown_below hb2 none) (Or.inr (by simp [Value.ownBlock]))
      have HR := Lib.hid hrow
      have hf0 := hrow.frozenAt (j * 3)
      have hf1 := hrow.frozenAt (j * 3 + 1)
      have hf2 := hrow.frozenAt (j * 3 + 2)
      obtain ⟨u0, hu0⟩ := row_cell hrow (k := j * 3) (by omega)
      obtain ⟨u1, hu1⟩ := row_cell hrow (k := j * 3 + 1) (by omega)
      obtain ⟨u2, hu2⟩ := row_cell hrow (k := j * 3 + 2) (by omega)
      have HB3 := Lib.hid (HB2.out.trans (hb2.mono HB2.out.size))
      clear hrow hb2 hc0 hc1 hc2
      unfold En.val
      go_wp2
      go_roundw
      case rel =>
        have hs := stored3 HR.out (j * 3) (j * 3 + 1) (j * 3 + 2) (.int .i64 x.tag) (.int .i64 x.vend) (.bool x.old)
        rw [fillN_step HX.out hl.out] at hs
        exact ⟨j + 1, by omega, by go_num, hs.1, grown_to (b := some ⟨w.heap.size, 0, none⟩) (m := n) (d := n) hs.2 HB3.out (lo := w.heap.size) (hi := w.heap.size + 1) (fun ad e => by cases e; exact ⟨Nat.le_refl _, Nat.lt_succ_self _⟩) (Nat.le_refl _) HB3.out.size⟩
      case measure => simp [intOf]; omega
    · obtain rfl : j = n := by omega
      go_wp2
      go_ret
      have h1 := HO2.out
      rw [fillN_all _ _ hl.out] at h1
      exact ⟨_, _, _, rfl, ⟨hl.out, h1⟩, HB2.out⟩

set_option maxRecDepth 100000 in
theorem eqEntry_yes (x : En) (w : World) : Calls Try.prog 75 #[x.val, x.val] w (Told (.bool true) w) := by
  unfold En.val
  go_enter Try.func75, Try.ntmps75
  go_wp2
  go_ret
  exact ⟨rfl, ((Below.refl _ w).alloc (Nat.le_refl _) _).alloc (by simp) _⟩

set_option maxRecDepth 100000 in
theorem eqEntryS_yes (a b : Option Addr) (n m c d : Nat) (l : List En) (w : World) (h : Ens w a n l) (h' : Ens w b m l) :
    Calls Try.prog 41 #[.slice a n c, .slice b m d] w (Told (.bool true) w) := by
  obtain rfl : n = m := by rw [← h.len, ← h'.len]
  have hn := h.fits
  have H := Lib.hid h
  have H' := Lib.hid h'
  clear h h'
  go_enter Try.func41, Try.ntmps41
  go_wp2
  go_loopw [5] (fun i wr => ∃ j : Nat, j ≤ n ∧ i = .int .i64 j ∧ Below w.heap.size w wr) (fun i _ => n - (intOf i).toNat)
  case atStart => exact ⟨0, Nat.zero_le _, rfl, Below.refl _ _⟩
  case round =>
    obtain ⟨j, hj, rfl, hb⟩ := hrel
    have HB := Lib.hid hb
    clear hb
    by_cases hlt : j < n
    · obtain ⟨b1, o1, x, rfl, hx, hc0, hc1, hc2⟩ := ens_at (H.out.same HB.out) hlt
      obtain ⟨b2, o2, y, rfl, hy, hd0, hd1, hd2⟩ := ens_at (H'.out.same HB.out) hlt
      rw [hx] at hy
      cases hy
      clear hx
      go_wp2_with fail
      go_still_tail 8, (by kernel_rfl)
      have H2 : Hid (Below w.heap.size w wr.drew) := Lib.hid HB.out.drew
      change wpList _ _ _ _ _ wr.drew
      generalize wr.drew = w2 at H2 ⊢
      go_wp2_with fail
      refine (eqEntry_yes x w2).mono ?_
      rintro e w3 ⟨rfl, hb3⟩
      have HB3 := Lib.hid (H2.out.trans (hb3.mono H2.out.size))
      clear hb3
      go_wp2
      go_roundw
      case rel => exact ⟨j + 1, by omega, by go_num, HB3.out⟩
      case measure => simp [intOf]; omega
    · go_wp2
      go_ret
      exact ⟨rfl, HB.out⟩

end Go.Proofs.Ytjmabidahofbbaa
