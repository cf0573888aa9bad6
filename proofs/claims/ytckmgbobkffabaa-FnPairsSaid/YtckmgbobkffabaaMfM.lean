/- The numbers of the moves from a state, by the model. -/
import Derived.Test.YtckmgbobkffabaaKm
import Derived.Test.YtckmgbobkffabaaAp
import Derived.Test.YtckmgbobkffabaaPut4
import Derived.Handy
namespace Go.Proofs.Ytckmgbobkffabaa
open Go.ChangeShapes Go.WideShapes Go.ChangeAt Go.RowKit Go.Sort
set_option linter.unusedVariables false
set_option linter.unusedSimpArgs false

theorem putL_pos (l : List Int) (n : Int) : 0 < (putL l n).length := by
  cases l with
  | nil => simp [putL]
  | cons x t =>
    unfold putL
    split
    · simp
    · split <;> simp
theorem puts_msgs_yes {l : List Mv} {s : Int} {b : Bool} {j : Nat} {x : Mv} (hx : l[j]? = some x) (h : fromM s b x = true) : puts [] (msgsOf (l.take (j + 1)) s b) = putL (puts [] (msgsOf (l.take j) s b)) x.msg := by
  rw [msgs_yes hx h, puts_app]
set_option maxHeartbeats 2000000 in
set_option maxRecDepth 100000 in
theorem specMovesFrom_any {w : World} {v : Value} {x : Mac} (s : Int) (b : Bool) (h : MacW w v x) (hn : x.parts ≤ 100000000) : Calls Try.prog 57 #[v, .int .i64 s, .bool b] w (Made .i64 3 w.heap.size (movesFrom x s b) w) := by
  obtain ⟨a, n, c, q, m, d, rfl, h1, h2, h3⟩ := h
  have HB : Hid (Below w.heap.size w (w.alloc (.cells #[.int .i64 x.st, .slice a n c, .slice q m d] 27))) := Lib.hid (alloc_same w _)
  have HX : Hid ((w.alloc (.cells #[.int .i64 x.st, .slice a n c, .slice q m d] 27)).heap[w.heap.size]? = some (.cells #[.int .i64 x.st, .slice a n c, .slice q m d] 27 (0, 0))) := Lib.hid (heap_alloc_new w (.cells #[.int .i64 x.st, .slice a n c, .slice q m d] 27 (0, 0)))
  have hsz : (w.alloc (.cells #[.int .i64 x.st, .slice a n c, .slice q m d] 27)).heap.size = w.heap.size + 1 := by simp
  have H2 := Lib.hid (h2.same HB.out)
  have hl := h2.len
  have hfit := h2.fits
  have hm9 : m ≤ 100000000 := by
    unfold Mac.parts at hn
    omega
  clear h1 h2 h3
  go_enter Try.func57, Try.ntmps57
  go_wp2_with fail
  have HB0 : Hid (Below (w.alloc (.cells #[.int .i64 x.st, .slice a n c, .slice q m d] 27)).heap.size (w.alloc (.cells #[.int .i64 x.st, .slice a n c, .slice q m d] 27)) ((w.alloc (.cells #[.int .i64 x.st, .slice a n c, .slice q m d] 27)).alloc (.cells #[] 3))) := Lib.hid (alloc_same _ _)
  have HO0 : Hid (Own .i64 3 ((w.alloc (.cells #[.int .i64 x.st, .slice a n c, .slice q m d] 27)).alloc (.cells #[] 3)) (w.alloc (.cells #[.int .i64 x.st, .slice a n c, .slice q m d] 27)).heap.size (some ⟨(w.alloc (.cells #[.int .i64 x.st, .slice a n c, .slice q m d] 27)).heap.size, 0, none⟩) 0 0 []) := Lib.hid (Own.empty (Nat.le_refl _))
  simp only [World.size_alloc] at HO0
  generalize (w.alloc (.cells #[.int .i64 x.st, .slice a n c, .slice q m d] 27)).alloc (.cells #[] 3) = W1 at *
  generalize (w.alloc (.cells #[.int .i64 x.st, .slice a n c, .slice q m d] 27)) = W0 at *
  go_loopw [7, 8] (fun t i wr => ∃ j g k c2 : Nat, j ≤ m ∧ k ≤ j ∧ i = .int .i64 j ∧ t = .slice (some ⟨g, 0, none⟩) k c2 ∧ Own .i64 3 wr W0.heap.size (some ⟨g, 0, none⟩) k c2 (puts [] (msgsOf (x.moves.take j) s b)) ∧ Below W0.heap.size W0 wr) (fun _ i _ => m - (intOf i).toNat)
  case atStart => exact ⟨0, _, 0, 0, Nat.zero_le _, Nat.le_refl _, rfl, rfl, by rw [hsz]; simpa [msgsOf, puts] using HO0.out, HB0.out⟩
  case round =>
    obtain ⟨j, g, k, c2, hj, hk9, rfl, rfl, ho, hb⟩ := hrel
    have HO := Lib.hid ho
    have HB9 := Lib.hid hb
    clear ho hb
    have hX1 := (HB9.out.block w.heap.size (by omega)).trans HX.out
    obtain ⟨_, _, b2, _, _, _⟩ := three_cells hX1
    clear hX1
    by_cases hlt : j < m
    · obtain ⟨b1, o1, z, rfl, hx, hc0, hc1, hc2, hc3⟩ := mvs_at (H2.out.same HB9.out) hlt
      cases hk : fromM s b z with
      | true =>
        have HE := Lib.hid (puts_msgs_yes hx hk)
        obtain ⟨e1, e2⟩ : z.frm = s ∧ z.send = b := by simpa [fromM] using hk
        clear hx hk
        rw [e1] at hc0
        rw [e2] at hc1
        clear e1 e2
        go_wp2_with fail
        refine (specPut_any g k c2 _ z.msg wr HO.out.nums HO.out.room (by omega)).mono ?_
        rintro e w1 ⟨a1, k1, c1, rfl, ho1, hb1⟩
        have hp := putL_pos (puts [] (msgsOf (x.moves.take j) s b)) z.msg
        have hq := putL_len z.msg (puts [] (msgsOf (x.moves.take j) s b))
        have hl1 := ho1.len
        have hl0 := HO.out.len
        obtain ⟨g1, rfl, hg1, hg2⟩ := ho1.head (by omega)
        have HO1 := Lib.hid (ho1.lower HB9.out.size)
        have HB1 : Hid (Below W0.heap.size W0 w1) := Lib.hid (HB9.out.trans (hb1.mono HB9.out.size))
        have hk1 : k1 ≤ j + 1 := by omega
        clear ho1 hb1 hp hq hl1 hl0
        go_wp2_with fail
        go_roundw
        case rel => exact ⟨j + 1, g1, k1, c1, by omega, hk1, by go_num, rfl, by rw [HE.out]; exact HO1.out, HB1.out⟩
        case measure => simp [intOf]; omega
      | false =>
        have HE := Lib.hid (msgs_no hx hk)
        clear hx
        by_cases h1 : z.frm = s
        · have h3 : (z.send == b) = false := by
            rw [fromM, h1] at hk
            simpa using hk
          rw [h1] at hc0
          clear hk h1
          go_wp2_with fail
          go_roundw
          case rel => exact ⟨j + 1, g, k, c2, by omega, by omega, by go_num, rfl, by rw [HE.out]; exact HO.out, HB9.out⟩
          case measure => simp [intOf]; omega
        · have h3 : (z.frm == s) = false := by simpa using h1
          clear hk h1
          go_wp2_with fail
          go_roundw
          case rel => exact ⟨j + 1, g, k, c2, by omega, by omega, by go_num, rfl, by rw [HE.out]; exact HO.out, HB9.out⟩
          case measure => simp [intOf]; omega
    · obtain rfl : j = m := by omega
      have HF : Hid (Own .i64 3 wr W0.heap.size (some ⟨g, 0, none⟩) k c2 (puts [] (msgsOf x.moves s b))) := Lib.hid (by
        have h1 := HO.out
        rw [List.take_of_length_le (by omega)] at h1
        exact h1)
      go_wp2_with fail
      go_ret
      exact ⟨_, _, _, rfl, HF.out.lower HB.out.size, HB.out.trans (HB9.out.mono HB.out.size)⟩
end Go.Proofs.Ytckmgbobkffabaa
