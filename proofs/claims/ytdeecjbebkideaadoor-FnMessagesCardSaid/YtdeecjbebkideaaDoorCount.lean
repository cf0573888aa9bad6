/- How many fields are there: by the program. -/
import Derived.Test.YtdeecjbebkideaaDoorThere
namespace Go.Proofs.YtdeecjbebkideaaDoor
open Go.ChangeShapes Go.WideShapes Go.ChangeAt Go.RowKit
set_option linter.unusedVariables false

/-- How many of the first j fields are there. -/
def thereTo (l : List Fd) (v : List Vl) : Nat → Nat
  | 0 => 0
  | j + 1 => thereTo l v j + (if isThere l v j = true then 1 else 0)
theorem thereTo_le (l : List Fd) (v : List Vl) : ∀ j, thereTo l v j ≤ j
  | 0 => Nat.le_refl _
  | j + 1 => by
    have := thereTo_le l v j
    unfold thereTo
    split <;> omega
theorem thereTo_yes {l : List Fd} {v : List Vl} {j : Nat} (h : isThere l v j = true) : thereTo l v (j + 1) = thereTo l v j + 1 := by
  show thereTo l v j + (if isThere l v j = true then 1 else 0) = _
  rw [if_pos h]
theorem thereTo_no {l : List Fd} {v : List Vl} {j : Nat} (h : isThere l v j = false) : thereTo l v (j + 1) = thereTo l v j := by
  show thereTo l v j + (if isThere l v j = true then 1 else 0) = _
  rw [if_neg (by rw [h]; decide)]
  omega
set_option maxRecDepth 100000 in
theorem thereCount_any (a : Option Addr) (n c : Nat) (l : List Fd) (b : Option Addr) (m d : Nat) (v : List Vl) (w : World) (h : Fds w a n l) (hv : Vals w b m v) (hn : n ≤ 1000000000) (hm : m ≤ 1000000000) :
    Calls Tryd.prog 18 #[.slice a n c, .slice b m d] w (Told (.int .i64 (thereTo l v n)) w) := by
  have H := Lib.hid h
  have HV := Lib.hid hv
  clear h hv
  go_enter Tryd.func18, Tryd.ntmps18
  go_wp2_with fail
  go_loopw [5, 9] (fun q i wr => ∃ j : Nat, j ≤ n ∧ i = .int .i64 j ∧ q = .int .i64 (thereTo l v j) ∧ Below w.heap.size w wr) (fun _ i _ => n - (intOf i).toNat)
  case atStart => exact ⟨0, Nat.zero_le _, rfl, rfl, Below.refl _ _⟩
  case round =>
    obtain ⟨j, hj, rfl, rfl, hb⟩ := hrel
    have HB := Lib.hid hb
    have hle := thereTo_le l v j
    clear hb
    by_cases hlt : j < n
    · have K := Lib.hid (fun w0 (hb0 : Below w.heap.size w w0) => isThere_any a n c l b m d v j w0 (H.out.same hb0) (HV.out.same hb0) hn hm)
      cases ht : isThere l v j with
      | true =>
        rw [ht] at K
        have HT := Lib.hid (thereTo_yes ht)
        clear ht
        go_wp2_with fail
        refine (K.out _ HB.out).mono ?_
        rintro e w1 ⟨rfl, hb1⟩
        have HB1 := Lib.hid (HB.out.trans (hb1.mono HB.out.size))
        clear hb1
        go_wp2_with fail
        go_roundw
        case rel => exact ⟨j + 1, by omega, by go_num, by rw [HT.out]; go_num, HB1.out⟩
        case measure => simp [intOf]; omega
      | false =>
        rw [ht] at K
        have HT := Lib.hid (thereTo_no ht)
        clear ht
        go_wp2_with fail
        refine (K.out _ HB.out).mono ?_
        rintro e w1 ⟨rfl, hb1⟩
        have HB1 := Lib.hid (HB.out.trans (hb1.mono HB.out.size))
        clear hb1
        go_wp2_with fail
        go_roundw
        case rel => exact ⟨j + 1, by omega, by go_num, by rw [HT.out], HB1.out⟩
        case measure => simp [intOf]; omega
    · obtain rfl : j = n := by omega
      go_wp2_with fail
      go_ret
      exact ⟨rfl, HB.out⟩
theorem thereCount_all (a : Option Addr) (n c : Nat) (l : List Fd) (b : Option Addr) (m d : Nat) (v : List Vl) (w : World) (h : Fds w a n l) (hv : Vals w b m v) (hn : n ≤ 1000000000) (hm : m ≤ 1000000000) :
    Calls Tryd.prog 18 #[.slice a n c, .slice b m d] w (Told (.int .i64 (thereTo l v l.length)) w) := by
  rw [h.len]
  exact thereCount_any a n c l b m d v w h hv hn hm
end Go.Proofs.YtdeecjbebkideaaDoor
