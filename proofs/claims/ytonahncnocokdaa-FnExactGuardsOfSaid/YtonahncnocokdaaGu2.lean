/- The numbers that conditions look at: by the program and by its model. -/
import Derived.Test.YtonahncnocokdaaGu1
import Derived.Test.YtonahncnocokdaaGu2i
import Derived.Test.YtonahncnocokdaaShelf
import Derived.Lib.OwnBridge
import Derived.Sort.OwnSortedInts
namespace Go.Proofs.Ytonahncnocokdaa
open Go.ChangeShapes Go.WideShapes Go.ChangeAt Go.RowKit Go.Sort
set_option linter.unusedVariables false

set_option maxRecDepth 100000 in
theorem specGuardsOf_any (a : Option Addr) (n c : Nat) (l : List Fd) (w : World) (h : Fds w a n l) (hn : n ≤ 1000000000) :
    Calls Try.prog 16 #[.slice a n c] w (Made .i64 3 w.heap.size (guardsOf l) w) := by
  have H := Lib.hid h
  have hl := Lib.hid h.len
  clear h
  go_enter Try.func16, Try.ntmps16
  go_wp2_with fail
  have HB0 : Hid (Below w.heap.size w (w.alloc (.cells #[] 3))) := Lib.hid ((Below.refl _ w).alloc (Nat.le_refl _) _)
  have HO0 : Hid (Own .i64 3 (w.alloc (.cells #[] 3)) w.heap.size (some ⟨w.heap.size, 0, none⟩) 0 0 []) := Lib.hid (Own.empty (Nat.le_refl _))
  go_loopw [3, 4] (fun s i wr => ∃ j g m c : Nat, j ≤ n ∧ m ≤ j ∧ i = .int .i64 j ∧ s = .slice (some ⟨g, 0, none⟩) m c ∧ Own .i64 3 wr w.heap.size (some ⟨g, 0, none⟩) m c (puts [] (condsOf (l.take j))) ∧ Below w.heap.size w wr) (fun _ i _ => n - (intOf i).toNat)
  case atStart => exact ⟨0, _, 0, 0, Nat.zero_le _, Nat.le_refl _, rfl, rfl, by simpa [condsOf, puts] using HO0.out, HB0.out⟩
  case round =>
    obtain ⟨j, g, m, c2, hj, hm, rfl, rfl, ho, hb⟩ := hrel
    have HO := Lib.hid ho
    have HB := Lib.hid hb
    clear ho hb
    by_cases hlt : j < n
    · obtain ⟨b, o, x, rfl, hx, hc0, hc1, hc2, hc3⟩ := fds_at (H.out.same HB.out) hlt
      have HC := Lib.hid (condsOf_step hx)
      clear hx
      by_cases q : x.cond = -1
      · have e1 : (x.cond != -1) = false := by simpa using q
        have HE := Lib.hid (HC.out.trans (if_pos q))
        clear q
        go_wp2_with fail
        go_roundw
        case rel => exact ⟨j + 1, g, m, c2, by omega, by omega, by go_num, rfl, by rw [HE.out]; exact HO.out, HB.out⟩
        case measure => simp [intOf]; omega
      · have e1 : (x.cond != -1) = true := by simpa using q
        have HE := Lib.hid (HC.out.trans (if_neg q))
        clear q
        go_wp2_with fail
        refine (specPut_any g m c2 _ x.cond wr HO.out.nums HO.out.room (by omega)).mono ?_
        rintro e w1 ⟨a1, m1, c1, rfl, ho1, hb1⟩
        obtain ⟨g1, rfl, hg1, hg2⟩ := ho1.head (by have := ho1.len; have := putL_pos (puts [] (condsOf (l.take j))) x.cond; omega)
        have hm1 : m1 ≤ j + 1 := by
          have h1 := ho1.len
          have h2 := putL_len x.cond (puts [] (condsOf (l.take j)))
          have h3 := HO.out.len
          omega
        have HO1 := Lib.hid (ho1.lower HB.out.size)
        have HB1 := Lib.hid (HB.out.trans (hb1.mono HB.out.size))
        clear ho1 hb1
        go_wp2
        go_roundw
        case rel => exact ⟨j + 1, g1, m1, c1, by omega, hm1, by go_num, rfl, by rw [HE.out, puts_app]; exact HO1.out, HB1.out⟩
        case measure => simp [intOf]; omega
    · obtain rfl : j = n := by omega
      go_wp2
      go_ret
      have h1 := HO.out
      rw [List.take_of_length_le (by have := hl.out; omega)] at h1
      exact ⟨_, _, _, rfl, h1, HB.out⟩

end Go.Proofs.Ytonahncnocokdaa
