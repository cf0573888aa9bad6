/- The index of the first move with a key, by the model. -/
import Derived.Test.YtckmgbobkffabaaKm
import Derived.Test.YtckmgbobkffabaaAp
import Derived.Handy
namespace Go.Proofs.Ytckmgbobkffabaa
open Go.ChangeShapes Go.WideShapes Go.ChangeAt Go.RowKit Go.Sort
set_option linter.unusedVariables false
set_option linter.unusedSimpArgs false

set_option maxHeartbeats 1000000 in
set_option maxRecDepth 100000 in
theorem specMoveOf_any {w : World} {v : Value} {x : Mac} (s : Int) (b : Bool) (k : Int) (h : MacW w v x) : Calls Try.prog 56 #[v, .int .i64 s, .bool b, .int .i64 k] w (Told (.int .i64 (moveOf x s b k)) w) := by
  obtain ⟨a, n, c, q, m, d, rfl, h1, h2, h3⟩ := h
  have HB : Hid (Below w.heap.size w (w.alloc (.cells #[.int .i64 x.st, .slice a n c, .slice q m d] 27))) := Lib.hid (alloc_same w _)
  have HX : Hid ((w.alloc (.cells #[.int .i64 x.st, .slice a n c, .slice q m d] 27)).heap[w.heap.size]? = some (.cells #[.int .i64 x.st, .slice a n c, .slice q m d] 27 (0, 0))) := Lib.hid (heap_alloc_new w (.cells #[.int .i64 x.st, .slice a n c, .slice q m d] 27 (0, 0)))
  have hsz : (w.alloc (.cells #[.int .i64 x.st, .slice a n c, .slice q m d] 27)).heap.size = w.heap.size + 1 := by simp
  have H2 := Lib.hid (h2.same HB.out)
  have hl := h2.len
  have hfit := h2.fits
  clear h1 h2 h3
  go_enter Try.func56, Try.ntmps56
  go_wp2_with fail
  generalize (w.alloc (.cells #[.int .i64 x.st, .slice a n c, .slice q m d] 27)) = W0 at *
  go_loopw [9] (fun i wr => ∃ j : Nat, j ≤ m ∧ i = .int .i64 j ∧ (x.moves.take j).any (hitM s b k) = false ∧ Below W0.heap.size W0 wr) (fun i _ => m - (intOf i).toNat)
  case atStart => exact ⟨0, Nat.zero_le _, rfl, by simp, Below.refl _ _⟩
  case round =>
    obtain ⟨j, hj, rfl, hno, hb⟩ := hrel
    have HN := Lib.hid hno
    have HB9 := Lib.hid hb
    clear hno hb
    have hX1 := (HB9.out.block w.heap.size (by omega)).trans HX.out
    obtain ⟨_, _, b2, _, _, _⟩ := three_cells hX1
    clear hX1
    by_cases hlt : j < m
    · obtain ⟨b1, o1, z, rfl, hx, hc0, hc1, hc2, hc3⟩ := mvs_at (H2.out.same HB9.out) hlt
      cases hk : hitM s b k z with
      | true =>
        have HE := Lib.hid (firstAt_hit hx HN.out hk)
        obtain ⟨e1, e2, e3⟩ := hitM_iff.1 hk
        clear hx hk
        rw [e1] at hc0
        rw [e2] at hc1
        rw [e3] at hc2
        clear e1 e2 e3
        go_wp2_with fail
        go_ret
        exact ⟨by unfold moveOf; rw [HE.out]; try rfl, HB.out.trans ((HB9.out.mono HB.out.size).alloc (by have := HB9.out.size; omega) _)⟩
      | false =>
        have HS : Hid ((x.moves.take (j + 1)).any (hitM s b k) = false) := Lib.hid (by
          rw [List.take_add_one, hx, List.any_append, HN.out]
          simp [hk])
        clear hx
        by_cases h1 : z.frm = s
        · by_cases h2 : z.send = b
          · have h3 : (z.msg == k) = false := by
              rw [hitM, h1, h2] at hk
              simpa using hk
            rw [h1] at hc0
            rw [h2] at hc1
            clear hk h1 h2
            go_wp2_with fail
            go_roundw
            case rel => exact ⟨j + 1, by omega, by go_num, HS.out, HB9.out.alloc HB9.out.size _⟩
            case measure => simp [intOf]; omega
          · have h3 : (z.send == b) = false := by simpa using h2
            rw [h1] at hc0
            clear hk h1 h2
            go_wp2_with fail
            go_roundw
            case rel => exact ⟨j + 1, by omega, by go_num, HS.out, HB9.out.alloc HB9.out.size _⟩
            case measure => simp [intOf]; omega
        · have h3 : (z.frm == s) = false := by simpa using h1
          clear hk h1
          go_wp2_with fail
          go_roundw
          case rel => exact ⟨j + 1, by omega, by go_num, HS.out, HB9.out.alloc HB9.out.size _⟩
          case measure => simp [intOf]; omega
    · obtain rfl : j = m := by omega
      have h1 := HN.out
      rw [List.take_of_length_le (by omega)] at h1
      have HE := Lib.hid (firstAt_none h1)
      clear h1
      go_wp2_with fail
      go_ret
      exact ⟨by unfold moveOf; rw [HE.out]; try rfl, HB.out.trans (HB9.out.mono HB.out.size)⟩
end Go.Proofs.Ytckmgbobkffabaa
