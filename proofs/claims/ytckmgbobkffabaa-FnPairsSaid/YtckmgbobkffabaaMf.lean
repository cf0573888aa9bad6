/- The numbers of the moves from a state, by the program. -/
import Derived.Test.YtckmgbobkffabaaKm
import Derived.Test.YtckmgbobkffabaaAp
import Derived.Test.YtckmgbobkffabaaIntI
import Derived.Test.YtckmgbobkffabaaShelf
import Derived.Lib.OwnBridge
import Derived.Sort.OwnSortedInts
import Derived.Handy
namespace Go.Proofs.Ytckmgbobkffabaa
open Go.ChangeShapes Go.WideShapes Go.ChangeAt Go.RowKit Go.Sort
set_option linter.unusedVariables false
set_option linter.unusedSimpArgs false

theorem nums_new1 (w : World) (o : Obj) (k : IntKind) (x : Int) (t : TypeId) : Nums k ((w.alloc o).alloc (.cells #[.int k x] t)) (some ⟨w.heap.size + 1, 0, none⟩) 1 [x] := by
  have := nums_new (w.alloc o) k x t
  rw [World.size_alloc] at this
  exact this

/-- A slice of integers of the call's own, in the sort's words. -/
theorem own_holds {t : TypeId} {w : World} {B g n c : Nat} {l : List Int} (h : Own .i64 t w B (some ⟨g, 0, none⟩) n c l) : Holds (Value.int .i64) w g 0 l.toArray ∧ g < w.heap.size ∧ B ≤ g ∧ l.length = n ∧ n ≤ c := by
  obtain ⟨g', cap, e, h1, h2, h3, h4, h5, h6⟩ := Lib.holds_of_ownsRow h.2 (fun e => by cases e)
  cases e
  exact ⟨h6, h2, h1, h5, h3⟩
theorem own_sorted {t : TypeId} {w : World} {B g n c k : Nat} {l : List Int} {os : Array Obj} (h : Own .i64 t w B (some ⟨g, 0, none⟩) n c l) :
    Own .i64 t (grow (putRow (Value.int .i64) (Sort.ahead w k) g 0 (sorted l).toArray) os) B (some ⟨g, 0, none⟩) n c (sorted l) := by
  obtain ⟨h1, h2⟩ := h
  refine ⟨by rw [sorted_len]; exact h1, ?_⟩
  rcases h2.2 with ⟨e, _⟩ | ⟨g', cap, cur, e, hb, hg, hn, hm, hs, ht⟩
  · cases e
  · cases e
    have := ownsRow_sortedI (n := k) (os := os) (ss := l) (ts := sorted l) (sorted_len l) hb hg (by omega) hm hs
    rw [h1] at this
    exact this
theorem own_compact {t : TypeId} {w : World} {B g n c q : Nat} {l : List Int} (h : Own .i64 t w B (some ⟨g, 0, none⟩) n c l) :
    Own .i64 t (putRow (Value.int .i64) (Sort.ahead w q) g 0 (Lib.compact l ++ List.replicate (l.length - (Lib.compact l).length) 0).toArray) B (some ⟨g, 0, none⟩) (Lib.compact l).length c (Lib.compact l) := by
  have hle := Lib.compact_length_le l
  have hln := h.1
  have h1 := Lib.ownsRow_putRow (q := q) (k := (Lib.compact l).length) (ys := Lib.compact l ++ List.replicate (l.length - (Lib.compact l).length) 0) h.2 (by simp; omega) (by omega)
  rw [List.take_left] at h1
  exact ⟨rfl, h1⟩

set_option maxHeartbeats 2000000 in
set_option maxRecDepth 100000 in
theorem movesFrom_any {w : World} {v : Value} {x : Mac} (s : Int) (b : Bool) (h : MacW w v x) (hn : x.parts ≤ 1000000000) : Calls Try.prog 110 #[v, .int .i64 s, .bool b] w (Made .i64 3 w.heap.size (movesFrom x s b) w) := by
  obtain ⟨a, n, c, q, m, d, rfl, h1, h2, h3⟩ := h
  have HB : Hid (Below w.heap.size w (w.alloc (.cells #[.int .i64 x.st, .slice a n c, .slice q m d] 27))) := Lib.hid (alloc_same w _)
  have HX : Hid ((w.alloc (.cells #[.int .i64 x.st, .slice a n c, .slice q m d] 27)).heap[w.heap.size]? = some (.cells #[.int .i64 x.st, .slice a n c, .slice q m d] 27 (0, 0))) := Lib.hid (heap_alloc_new w (.cells #[.int .i64 x.st, .slice a n c, .slice q m d] 27 (0, 0)))
  have hsz : (w.alloc (.cells #[.int .i64 x.st, .slice a n c, .slice q m d] 27)).heap.size = w.heap.size + 1 := by simp
  have H2 := Lib.hid (h2.same HB.out)
  have hl := h2.len
  have hfit := h2.fits
  have hm9 : m ≤ 1000000000 := by
    unfold Mac.parts at hn
    omega
  have HW2 := Lib.hid h2
  clear h1 h2 h3
  obtain ⟨i0, hi, hz0, hz1, hz2⟩ := info_parts infoIntS
  have HI := Lib.hid (And.intro hi (And.intro hz0 (And.intro hz1 hz2)))
  clear hi hz0 hz1 hz2
  go_enter Try.func110, Try.ntmps110
  go_wp2_with fail
  have HB0 : Hid (Below (w.alloc (.cells #[.int .i64 x.st, .slice a n c, .slice q m d] 27)).heap.size (w.alloc (.cells #[.int .i64 x.st, .slice a n c, .slice q m d] 27)) ((w.alloc (.cells #[.int .i64 x.st, .slice a n c, .slice q m d] 27)).alloc (.cells #[] 3))) := Lib.hid (alloc_same _ _)
  have HO0 : Hid (Own .i64 3 ((w.alloc (.cells #[.int .i64 x.st, .slice a n c, .slice q m d] 27)).alloc (.cells #[] 3)) (w.alloc (.cells #[.int .i64 x.st, .slice a n c, .slice q m d] 27)).heap.size (some ⟨(w.alloc (.cells #[.int .i64 x.st, .slice a n c, .slice q m d] 27)).heap.size, 0, none⟩) 0 0 []) := Lib.hid (Own.empty (Nat.le_refl _))
  have hs0 : ((w.alloc (.cells #[.int .i64 x.st, .slice a n c, .slice q m d] 27)).alloc (.cells #[] 3)).heap.size = w.heap.size + 2 := by simp
  simp only [World.size_alloc] at HO0
  generalize (w.alloc (.cells #[.int .i64 x.st, .slice a n c, .slice q m d] 27)).alloc (.cells #[] 3) = W1 at *
  generalize (w.alloc (.cells #[.int .i64 x.st, .slice a n c, .slice q m d] 27)) = W0 at *
  have b2 := (three_cells ((HB0.out.block w.heap.size (by omega)).trans HX.out)).2.2.1
  go_wp2_with fail
  clear b2
  go_loopw [7, 14] (fun t i wr => ∃ j g k c2 : Nat, j ≤ m ∧ k ≤ j ∧ i = .int .i64 j ∧ t = .slice (some ⟨g, 0, none⟩) k c2 ∧ Own .i64 3 wr w.heap.size (some ⟨g, 0, none⟩) k c2 (msgsOf (x.moves.take j) s b) ∧ Below w.heap.size w wr) (fun _ i _ => m - (intOf i).toNat)
  case atStart => exact ⟨0, _, 0, 0, Nat.zero_le _, Nat.le_refl _, rfl, rfl, by simpa [msgsOf] using HO0.out.lower (B' := w.heap.size) (by omega), HB.out.trans (HB0.out.mono HB.out.size)⟩
  case round =>
    obtain ⟨j, g, k, c2, hj, hk9, rfl, rfl, ho, hb⟩ := hrel
    have HO := Lib.hid ho
    have HB9 := Lib.hid hb
    clear ho hb
    by_cases hlt : j < m
    · obtain ⟨b1, o1, z, rfl, hx, hc0, hc1, hc2, hc3⟩ := mvs_at (HW2.out.same HB9.out) hlt
      cases hk : fromM s b z with
      | true =>
        have HE := Lib.hid (msgs_yes hx hk)
        obtain ⟨e1, e2⟩ : z.frm = s ∧ z.send = b := by simpa [fromM] using hk
        have hsw := HB9.out.size
        clear hx hk
        rw [e1] at hc0
        rw [e2] at hc1
        clear e1 e2
        go_wp2_with (at_builtin; refine wpl_app _ rfl (.tmp 28) (.tmp 31) 31 rfl .i64 3 i0 (.int .i64 0) 8 Try.underlying31 HI.out.1 HI.out.2.1 HI.out.2.2.1 HI.out.2.2.2 rfl rfl ((HO.out.alloc _).alloc _) rfl (nums_new1 _ _ _ _ _) (by omega) ?c3 ?c4 ?_)
        case c3 => omega
        case c4 => simp; omega
        intro a1 c1 w1 ho1 hb1
        obtain ⟨g1, rfl, hg1, hg2⟩ := ho1.head (by omega)
        have HO1 := Lib.hid ho1
        have HB1 : Hid (Below w.heap.size w w1) := Lib.hid (((HB9.out.alloc HB9.out.size _).alloc (by simp; omega) _).trans hb1)
        clear ho1 hb1
        go_wp2_with fail
        go_roundw
        case rel => exact ⟨j + 1, g1, k + 1, c1, by omega, by omega, by go_num, by simp, by rw [HE.out]; exact HO1.out, HB1.out⟩
        case measure => simp [intOf]; omega
      | false =>
        have HE := Lib.hid (msgs_no hx hk)
        clear hx
        by_cases h1 : z.frm = s
        · have h3 : (z.send == b) = false := by
            rw [fromM, h1] at hk
            simpa using hk
          rw [h1] at hc0
          clear hk h1
          go_wp2_with fail
          go_roundw
          case rel => exact ⟨j + 1, g, k, c2, by omega, by omega, by go_num, rfl, by rw [HE.out]; exact HO.out.alloc _, HB9.out.alloc HB9.out.size _⟩
          case measure => simp [intOf]; omega
        · have h3 : (z.frm == s) = false := by simpa using h1
          clear hk h1
          go_wp2_with fail
          go_roundw
          case rel => exact ⟨j + 1, g, k, c2, by omega, by omega, by go_num, rfl, by rw [HE.out]; exact HO.out.alloc _, HB9.out.alloc HB9.out.size _⟩
          case measure => simp [intOf]; omega
    · obtain rfl : j = m := by omega
      have h1 := HO.out
      rw [List.take_of_length_le (by omega)] at h1
      obtain ⟨hH, hlt', hge, hlen, hcap⟩ := own_holds h1
      have hso := Try.slices_Sort_int g 0 c2 (msgsOf x.moves s b) wr hH hlt' (by omega)
      rw [hlen] at hso
      have HS := Lib.hid hso
      have HO2 := Lib.hid h1
      clear hH hso h1
      go_wp2_with fail
      refine HS.out.mono ?_
      rintro e w1 ⟨rfl, kk, os, rfl⟩
      have ho3 := own_sorted (k := kk) (os := os) HO2.out
      obtain ⟨hH2, hlt2, _, hlen2, _⟩ := own_holds ho3
      have hco := Try.slices_Compact_int g 0 c2 (sorted (msgsOf x.moves s b)) _ hH2 (by omega) (by omega)
      rw [hlen2] at hco
      have HO3 := Lib.hid ho3
      have HC := Lib.hid hco
      have HB3 : Hid (Below w.heap.size w (grow (putRow (Value.int .i64) (Sort.ahead wr kk) g 0 (sorted (msgsOf x.moves s b)).toArray) os)) := Lib.hid (HB9.out.grown (grownBy_sortedI _) HB9.out.size (fun _ e => by cases e; exact hge))
      clear ho3 hH2 hco
      go_wp2_with fail
      refine HC.out.mono ?_
      rintro e w2 ⟨rfl, q, rfl⟩
      have ho4 := own_compact (q := q) HO3.out
      rw [hlen2] at ho4
      have HO4 := Lib.hid ho4
      clear ho4
      have HB4 := Lib.hid (Lib.below_putRow (q := q) (enc := Value.int .i64) (d := (Lib.compact (sorted (msgsOf x.moves s b)) ++ List.replicate (k - (Lib.compact (sorted (msgsOf x.moves s b))).length) 0).toArray) HB3.out hge)
      go_wp2
      go_ret
      refine ⟨_, _, _, rfl, ?_, HB4.out⟩
      unfold movesFrom
      rw [puts_eq]
      exact HO4.out
end Go.Proofs.Ytckmgbobkffabaa
