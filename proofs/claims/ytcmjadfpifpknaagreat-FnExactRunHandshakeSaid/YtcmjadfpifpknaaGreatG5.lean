/- Whether a list of values is a message of a format: by the model. The helpers of the exact laws at slices of integers: what the program says of integers. The helpers of the exact laws at slices of integers: copied, compared. The bytes of a message, by the model; the greatest number of bytes of a format, by the model. -/
import Derived.Test.YtcmjadfpifpknaaGreatG4
import Derived.Test.YtcmjadfpifpknaaGreatG1
import Derived.Deep.QuietTactic
import Derived.BigQuiet
import Derived.RegionTactic
namespace Go.Proofs.YtcmjadfpifpknaaGreat
open Go.ChangeShapes Go.WideShapes Go.ChangeAt Go.RowKit
set_option linter.unusedVariables false
set_option linter.unusedSimpArgs false

end Go.Proofs.YtcmjadfpifpknaaGreat
namespace Go.Proofs.YtcmjadfpifpknaaGreat
open Go.ChangeShapes Go.WideShapes Go.ChangeAt Go.RowKit
set_option linter.unusedVariables false

theorem infoIntS : (Tryz.prog.info? 3).map (fun i => (i.zero, i.size, i.bytes)) = some (some (.int .i64 0), 1, 8) := by kernel_rfl

end Go.Proofs.YtcmjadfpifpknaaGreat
namespace Go.Proofs.YtcmjadfpifpknaaGreat
open Go.ChangeShapes Go.WideShapes Go.ChangeAt Go.RowKit
set_option linter.unusedVariables false

/-- k elements are copied, the others are 0 still. -/
def fillIntS (l : List Int) (j n : Nat) : List Value := ((l.take j ++ List.replicate (n - j) 0).map (Value.int .i64))
theorem fillIntS_zero (l : List Int) (n : Nat) : fillIntS l 0 n = List.replicate n (.int .i64 0) := by unfold fillIntS; simp
theorem fillIntS_all (l : List Int) : fillIntS l l.length l.length = l.map (Value.int .i64) := by unfold fillIntS; simp
theorem fillIntS_step {l : List Int} {j : Nat} {x : Int} (hj : l[j]? = some x) {n : Nat} (hn : l.length = n) : (fillIntS l j n).set j (.int .i64 x) = fillIntS l (j + 1) n := by
  have hlt : j < l.length := by
    rcases Nat.lt_or_ge j l.length with h | h
    · exact h
    · rw [List.getElem?_eq_none h] at hj; cases hj
  unfold fillIntS
  rw [← List.map_set]
  congr 1
  have hl : (l.take j).length = j := by rw [List.length_take]; omega
  rw [List.set_append_right _ _ (by omega), hl, Nat.sub_self, show n - j = (n - (j + 1)) + 1 by omega, List.replicate_succ, List.set_cons_zero, List.take_add_one, hj]
  simp

set_option maxRecDepth 100000 in
theorem toIntS_any (a : Option Addr) (n c : Nat) (l : List Int) (w : World) (h : Nums .i64 w a n l) (hn : n ≤ 1048576000) :
    Calls Tryz.prog 25 #[.slice a n c] w (Made .i64 3 w.heap.size l w) := by
  have H := Lib.hid h
  have hl := Lib.hid h.len
  clear h
  obtain ⟨i0, hi, hz0, hz1, hz2⟩ := info_parts infoIntS
  go_enter Tryz.func25, Tryz.ntmps25
  go_wp2_with (with_reducible refine wpList_make_full _ rfl (.tmp 6) (.tmp 6) 24 rfl w.heap.size 3 i0 (.int .i64 0) 1 Tryz.underlying24 hi hz0 hz1 .i64 .i64 _ _ n rfl rfl (by omega) (by omega) ?c1 ?c2 ?c3 ?_)
  case c1 => rw [hz2]; omega
  case c2 => unfold maxLen; omega
  case c3 => omega
  intro w1 hown hgrow
  have hb1 : Below w.heap.size w w1 := (Below.refl _ w).grown hgrow (Nat.le_refl _) (fun _ e => by cases e)
  have HO : Hid (w1.ownsRow w.heap.size 3 1 (.slice (some ⟨w.heap.size, 0, none⟩) n n) n (fillIntS l 0 n)) := by
    rw [fillIntS_zero]
    refine Lib.hid ?_
    simpa [Value.cells, toList_madeCells_one] using hown
  have HB := Lib.hid hb1
  clear hown hgrow hb1 hi hz0 hz1 hz2
  go_wp2
  go_loopw [4] (fun i wr => ∃ j : Nat, j ≤ n ∧ i = .int .i64 j ∧ wr.ownsRow w.heap.size 3 1 (.slice (some ⟨w.heap.size, 0, none⟩) n n) n (fillIntS l j n) ∧ Below w.heap.size w wr) (fun i _ => n - (intOf i).toNat)
  case atStart => exact ⟨0, Nat.zero_le _, rfl, HO.out, HB.out⟩
  case round =>
    obtain ⟨j, hj, rfl, hown, hb⟩ := hrel
    have HO2 := Lib.hid hown
    have HB2 := Lib.hid hb
    clear hown hb
    by_cases hlt : j < n
    · obtain ⟨ad, x, rfl, hx, hc⟩ := (H.out.same HB2.out).at_ hlt
      have hf := HO2.out.frozenAt j
      obtain ⟨u, hu⟩ : ∃ u, wr.cell? ⟨w.heap.size, j, none⟩ = some u := by
        rw [HO2.out.cellAt j (by omega)]
        have : j < (fillIntS l j n).length := by rw [HO2.out.1]; omega
        exact ⟨_, List.getElem?_eq_getElem this⟩
      have HX := Lib.hid hx
      clear hx
      go_wp2
      go_roundw
      case rel =>
        have hs := HO2.out.stored j (.int .i64 x)
        refine ⟨j + 1, by omega, by go_num, ?_, HB2.out.setCell (Nat.le_refl _) _⟩
        rw [← fillIntS_step HX.out hl.out]
        exact hs.1
      case measure => simp [intOf]; omega
    · obtain rfl : j = n := by omega
      go_wp2
      go_ret
      have h1 := HO2.out
      rw [← hl.out, fillIntS_all, hl.out] at h1
      exact ⟨_, _, _, rfl, ⟨hl.out, h1⟩, HB2.out⟩

set_option maxRecDepth 100000 in
theorem eqIntS_yes (a b : Option Addr) (n m c d : Nat) (l : List Int) (w : World) (h : Nums .i64 w a n l) (h' : Nums .i64 w b m l) :
    Calls Tryz.prog 29 #[.slice a n c, .slice b m d] w (Told (.bool true) w) := by
  obtain rfl : n = m := by rw [← h.len, ← h'.len]
  have hn := h.fits
  have H := Lib.hid h
  have H' := Lib.hid h'
  clear h h'
  go_enter Tryz.func29, Tryz.ntmps29
  go_wp2
  go_loopw [5] (fun i wr => ∃ j : Nat, j ≤ n ∧ i = .int .i64 j ∧ Below w.heap.size w wr) (fun i _ => n - (intOf i).toNat)
  case atStart => exact ⟨0, Nat.zero_le _, rfl, Below.refl _ _⟩
  case round =>
    obtain ⟨j, hj, rfl, hb⟩ := hrel
    have HB := Lib.hid hb
    clear hb
    by_cases hlt : j < n
    · obtain ⟨ad, x, rfl, hx, hc⟩ := (H.out.same HB.out).at_ hlt
      obtain ⟨be, y, rfl, hy, hc'⟩ := (H'.out.same HB.out).at_ hlt
      rw [hx] at hy
      cases hy
      clear hx
      go_wp2
      go_quiet (fail)
      go_wp2
      go_roundw
      case rel => exact ⟨j + 1, by omega, by go_num, HB.out.trans ((drewN_same _ _).mono HB.out.size)⟩
      case measure => simp [intOf]; omega
    · go_wp2
      go_ret
      exact ⟨rfl, HB.out⟩

end Go.Proofs.YtcmjadfpifpknaaGreat
namespace Go.Proofs.YtcmjadfpifpknaaGreat
open Go.ChangeShapes Go.WideShapes Go.ChangeAt Go.RowKit
set_option linter.unusedVariables false

theorem mostOf_le (k : Int) : mostOf k ≤ 99 := by
  unfold mostOf
  repeat' split
  all_goals omega
theorem roomF_le {l : List Fd} {j : Nat} {x : Fd} (hok : okTo l l.length) (hx : l[j]? = some x) : 1 ≤ roomF x ∧ roomF x ≤ 100 ∧ 1 ≤ x.max ∧ x.max ≤ 99 := by
  have h := hok j x (lt_of_some hx) hx
  unfold fieldOk at h
  rw [Bool.and_eq_true, decide_eq_true_eq] at h
  have h1 := h.1
  have h2 := mostOf_le x.kind
  by_cases hk : x.kind = 1
  · rw [roomF_num hk]
    omega
  · rw [roomF_more hk]
    omega
theorem longTo_le {l : List Fd} (hok : okTo l l.length) : ∀ j, j ≤ l.length → 0 ≤ longTo l j ∧ longTo l j ≤ 100 * j
  | 0, _ => by simp [longTo]
  | j + 1, hj => by
    obtain ⟨x, hx⟩ : ∃ x, l[j]? = some x := ⟨_, List.getElem?_eq_getElem (by omega)⟩
    have h1 := roomF_le hok hx
    have h2 := longTo_le hok j (by omega)
    rw [longTo_step hx]
    omega
theorem codeTo_few {l : List Fd} {v : List Vl} (hf : fitsFmt l v = true) (j : Nat) (hj : j ≤ l.length) : (codeTo l v j).length ≤ 600 := by
  obtain ⟨h1, h2, h3⟩ := fitsFmt_parts hf
  have h4 := (isFmt_iff.1 h1)
  have h5 := codeTo_long h4.2 h2 h3 j hj
  have h6 := longTo_le h4.2 j hj
  have := h4.1
  omega
/-- What is written for a list of values. -/
noncomputable def encOf (l : List Fd) (v : List Vl) : List Int := if fitsFmt l v = true then codeOf l v else []
theorem encOf_yes {l : List Fd} {v : List Vl} (h : fitsFmt l v = true) : encOf l v = codeOf l v := if_pos h
theorem encOf_no {l : List Fd} {v : List Vl} (h : fitsFmt l v = false) : encOf l v = [] := if_neg (by rw [h]; decide)
theorem encOf_few (l : List Fd) (v : List Vl) : (encOf l v).length ≤ 600 := by
  cases h : fitsFmt l v with
  | false => rw [encOf_no h]; simp
  | true => rw [encOf_yes h]; exact codeTo_few h _ (Nat.le_refl _)
/-- What a function leaves that writes a message. -/
def EncTold (tI : TypeId) (l : List Fd) (v : List Vl) (w : World) (e : Ending) (w' : World) : Prop :=
  ∃ a n c, e = .returned (.tuple #[.slice a n c, .bool (fitsFmt l v)]) ∧ Own .i64 tI w' w.heap.size a n c (encOf l v) ∧ Below w.heap.size w w'

/-- What a function leaves that tells a message's length. -/
noncomputable def lenOf (l : List Fd) (v : List Vl) : Int := if fitsFmt l v = true then ((encOf l v).length : Int) else -1
end Go.Proofs.YtcmjadfpifpknaaGreat
