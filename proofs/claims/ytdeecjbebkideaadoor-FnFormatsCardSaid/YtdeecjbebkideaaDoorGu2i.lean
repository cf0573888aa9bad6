/- The numbers that conditions look at: by the program. -/
import Derived.Test.YtdeecjbebkideaaDoorGu0
import Derived.Test.YtdeecjbebkideaaDoorIntI
import Derived.Test.YtdeecjbebkideaaDoorItems
import Derived.Test.YtdeecjbebkideaaDoorShelf
import Derived.Lib.OwnBridge
import Derived.Sort.OwnSortedInts
namespace Go.Proofs.YtdeecjbebkideaaDoor
open Go.ChangeShapes Go.WideShapes Go.ChangeAt Go.RowKit Go.Sort
set_option linter.unusedVariables false

theorem nums_new1 (w : World) (o : Obj) (k : IntKind) (x : Int) (t : TypeId) : Nums k ((w.alloc o).alloc (.cells #[.int k x] t)) (some ⟨w.heap.size + 1, 0, none⟩) 1 [x] := by
  have := nums_new (w.alloc o) k x t
  rw [World.size_alloc] at this
  exact this

def condsOf (l : List Fd) : List Int := l.filterMap fun x => if x.cond = -1 then none else some x.cond
theorem condsOf_step {l : List Fd} {j : Nat} {x : Fd} (h : l[j]? = some x) : condsOf (l.take (j + 1)) = if x.cond = -1 then condsOf (l.take j) else condsOf (l.take j) ++ [x.cond] := by
  unfold condsOf
  rw [List.take_add_one, h, List.filterMap_append]
  by_cases e : x.cond = -1 <;> simp [e]
theorem condsOf_len (l : List Fd) : (condsOf l).length ≤ l.length := List.length_filterMap_le _ _
theorem putL_pos (l : List Int) (n : Int) : 0 < (putL l n).length := by
  cases l with
  | nil => simp [putL]
  | cons x t =>
    unfold putL
    split
    · simp
    · split <;> simp
def guardsOf (l : List Fd) : List Int := puts [] (condsOf l)
theorem guardsOf_len (l : List Fd) : (guardsOf l).length ≤ l.length := by
  have h1 := puts_len (condsOf l) []
  have h2 := condsOf_len l
  unfold guardsOf
  simp at h1
  omega

/-- A slice of integers of the call's own, in the sort's words. -/
theorem own_holds {t : TypeId} {w : World} {B g n c : Nat} {l : List Int} (h : Own .i64 t w B (some ⟨g, 0, none⟩) n c l) : Holds (Value.int .i64) w g 0 l.toArray ∧ g < w.heap.size ∧ B ≤ g ∧ l.length = n ∧ n ≤ c := by
  obtain ⟨g', cap, e, h1, h2, h3, h4, h5, h6⟩ := Lib.holds_of_ownsRow h.2 (fun e => by cases e)
  cases e
  exact ⟨h6, h2, h1, h5, h3⟩
theorem own_sorted {t : TypeId} {w : World} {B g n c k : Nat} {l : List Int} {os : Array Obj} (h : Own .i64 t w B (some ⟨g, 0, none⟩) n c l) :
    Own .i64 t (grow (putRow (Value.int .i64) (Sort.ahead w k) g 0 (sorted l).toArray) os) B (some ⟨g, 0, none⟩) n c (sorted l) := by
  obtain ⟨h1, h2⟩ := h
  refine ⟨by rw [sorted_len]; exact h1, ?_⟩
  rcases h2.2 with ⟨e, _⟩ | ⟨g', cap, cur, e, hb, hg, hn, hm, hs, ht⟩
  · cases e
  · cases e
    have := ownsRow_sortedI (n := k) (os := os) (ss := l) (ts := sorted l) (sorted_len l) hb hg (by omega) hm hs
    rw [h1] at this
    exact this
theorem own_compact {t : TypeId} {w : World} {B g n c q : Nat} {l : List Int} (h : Own .i64 t w B (some ⟨g, 0, none⟩) n c l) :
    Own .i64 t (putRow (Value.int .i64) (Sort.ahead w q) g 0 (Lib.compact l ++ List.replicate (l.length - (Lib.compact l).length) 0).toArray) B (some ⟨g, 0, none⟩) (Lib.compact l).length c (Lib.compact l) := by
  have hle := Lib.compact_length_le l
  have hln := h.1
  have h1 := Lib.ownsRow_putRow (q := q) (k := (Lib.compact l).length) (ys := Lib.compact l ++ List.replicate (l.length - (Lib.compact l).length) 0) h.2 (by simp; omega) (by omega)
  rw [List.take_left] at h1
  exact ⟨rfl, h1⟩

set_option maxRecDepth 100000 in
theorem guardsOf_any (a : Option Addr) (n c : Nat) (l : List Fd) (w : World) (h : Fds w a n l) (hn : n ≤ 1000000000) :
    Calls Tryd.prog 10 #[.slice a n c] w (Made .i64 3 w.heap.size (guardsOf l) w) := by
  have H := Lib.hid h
  have hl := Lib.hid h.len
  clear h
  obtain ⟨i0, hi, hz0, hz1, hz2⟩ := info_parts infoIntS
  have HI := Lib.hid (And.intro hi (And.intro hz0 (And.intro hz1 hz2)))
  clear hi hz0 hz1 hz2
  go_enter Tryd.func10, Tryd.ntmps10
  go_wp2_with fail
  have HB0 : Hid (Below w.heap.size w (w.alloc (.cells #[] 3))) := Lib.hid ((Below.refl _ w).alloc (Nat.le_refl _) _)
  have HO0 : Hid (Own .i64 3 (w.alloc (.cells #[] 3)) w.heap.size (some ⟨w.heap.size, 0, none⟩) 0 0 []) := Lib.hid (Own.empty (Nat.le_refl _))
  go_loopw [3, 9] (fun s i wr => ∃ j g m c : Nat, j ≤ n ∧ m ≤ j ∧ i = .int .i64 j ∧ s = .slice (some ⟨g, 0, none⟩) m c ∧ Own .i64 3 wr w.heap.size (some ⟨g, 0, none⟩) m c (condsOf (l.take j)) ∧ Below w.heap.size w wr) (fun _ i _ => n - (intOf i).toNat)
  case atStart => exact ⟨0, _, 0, 0, Nat.zero_le _, Nat.le_refl _, rfl, rfl, by simpa [condsOf, puts] using HO0.out, HB0.out⟩
  case round =>
    obtain ⟨j, g, m, c2, hj, hm, rfl, rfl, ho, hb⟩ := hrel
    have HO := Lib.hid ho
    have HB := Lib.hid hb
    clear ho hb
    by_cases hlt : j < n
    · obtain ⟨b, o, ⟨xk, xm, xt, xi⟩, rfl, hx, hc0, hc1, hc2, hc3⟩ := fds_at (H.out.same HB.out) hlt
      have HC := Lib.hid (condsOf_step hx)
      clear hx
      dsimp only at hc0 hc1 hc2 hc3
      by_cases q : xt = -1
      · have e1 : (xt != -1) = false := by simpa using q
        have HE := Lib.hid (HC.out.trans (if_pos q))
        clear q
        go_wp2_with fail
        go_roundw
        case rel => exact ⟨j + 1, g, m, c2, by omega, by omega, by go_num, rfl, by rw [HE.out]; exact HO.out.alloc _, HB.out.alloc HB.out.size _⟩
        case measure => simp [intOf]; omega
      · have e1 : (xt != -1) = true := by simpa using q
        have HE := Lib.hid (HC.out.trans (if_neg q))
        clear q
        go_wp2_with (at_builtin; refine wpl_app _ rfl (.tmp 16) (.tmp 19) 27 rfl .i64 3 i0 (.int .i64 0) 8 Tryd.underlying27 HI.out.1 HI.out.2.1 HI.out.2.2.1 HI.out.2.2.2 rfl rfl ((HO.out.alloc _).alloc _) rfl (nums_new1 _ _ _ _ _) (by omega) ?c3 ?c4 ?_)
        case c3 => omega
        case c4 => have := HB.out.size; omega
        intro a1 c1 w1 ho1 hb1
        obtain ⟨g1, rfl, hg1, hg2⟩ := ho1.head (by omega)
        have HO1 := Lib.hid ho1
        have HB1 : Hid (Below w.heap.size w w1) := Lib.hid (((HB.out.alloc HB.out.size _).alloc (by simp; have := HB.out.size; omega) _).trans hb1)
        clear ho1 hb1
        go_wp2
        go_roundw
        case rel => exact ⟨j + 1, g1, m + 1, c1, by omega, by omega, by go_num, by simp, by rw [HE.out]; exact HO1.out, HB1.out⟩
        case measure => simp [intOf]; omega
    · obtain rfl : j = n := by omega
      have h1 := HO.out
      rw [List.take_of_length_le (by have := hl.out; omega)] at h1
      obtain ⟨hH, hlt', hge, hlen, hcap⟩ := own_holds h1
      have hso := Tryd.slices_Sort_int g 0 c2 (condsOf l) wr hH hlt' (by omega)
      rw [hlen] at hso
      have HS := Lib.hid hso
      have HO2 := Lib.hid h1
      clear hH hso h1
      go_wp2_with fail
      refine HS.out.mono ?_
      rintro e w1 ⟨rfl, k, os, rfl⟩
      have ho3 := own_sorted (k := k) (os := os) HO2.out
      obtain ⟨hH2, hlt2, _, hlen2, _⟩ := own_holds ho3
      have hco := Tryd.slices_Compact_int g 0 c2 (sorted (condsOf l)) _ hH2 (by omega) (by omega)
      rw [hlen2] at hco
      have HO3 := Lib.hid ho3
      have HC := Lib.hid hco
      have HB3 : Hid (Below w.heap.size w (grow (putRow (Value.int .i64) (Sort.ahead wr k) g 0 (sorted (condsOf l)).toArray) os)) := Lib.hid (HB.out.grown (grownBy_sortedI _) HB.out.size (fun _ e => by cases e; exact hge))
      clear ho3 hH2 hco
      go_wp2_with fail
      refine HC.out.mono ?_
      rintro e w2 ⟨rfl, q, rfl⟩
      have ho4 := own_compact (q := q) HO3.out
      rw [hlen2] at ho4
      have HO4 := Lib.hid ho4
      clear ho4
      have HB4 := Lib.hid (Lib.below_putRow (q := q) (enc := Value.int .i64) (d := (Lib.compact (sorted (condsOf l)) ++ List.replicate (m - (Lib.compact (sorted (condsOf l))).length) 0).toArray) HB3.out hge)
      go_wp2
      go_ret
      refine ⟨_, _, _, rfl, ?_, HB4.out⟩
      unfold guardsOf
      rw [puts_eq]
      exact HO4.out
end Go.Proofs.YtdeecjbebkideaaDoor
