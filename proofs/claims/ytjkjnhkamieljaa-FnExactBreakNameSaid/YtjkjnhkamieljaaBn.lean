/- The names of the ways in which formats differ: by the program and by the model. -/
import Derived.Test.YtjkjnhkamieljaaMem
import Derived.Laws.Rows
import Derived.Handy
namespace Go.Proofs.Ytjkjnhkamieljaa
open Go.ChangeShapes Go.WideShapes Go.ChangeAt Go.RowKit
set_option linter.unusedVariables false

theorem inRange_told (n l h : Int) (w : World) :
    Calls Try.prog 33 #[.int .i64 n, .int .i64 l, .int .i64 h] w (Told (.bool (decide (l ≤ n) && decide (n ≤ h))) w) := by
  by_cases h1 : l ≤ n <;> by_cases h2 : n ≤ h <;> (go_enter Try.func33, Try.ntmps33; go_wp2; go_ret; exact ⟨by simp [h1, h2], Below.refl _ _⟩)
theorem l1In_told (n l h : Int) (w : World) :
    Calls Try.prog 50 #[.int .i64 n, .int .i64 l, .int .i64 h] w (Told (.bool (decide (l ≤ n) && decide (n ≤ h))) w) := by
  by_cases h1 : l ≤ n <;> by_cases h2 : n ≤ h <;> (go_enter Try.func50, Try.ntmps50; go_wp2; go_ret; exact ⟨by simp [h1, h2], Below.refl _ _⟩)
def brName (k : Int) : List UInt8 := if k = 0 then [110, 111, 110, 101] else if k = 1 then [119, 105, 100, 101, 114] else if k = 2 then [116, 97, 105, 108] else if k = 3 then [110, 97, 114, 114, 111, 119, 101, 114] else if k = 4 then [111, 116, 104, 101, 114] else []
def namesRow : Array Value := #[.string ⟨#[110, 111, 110, 101]⟩, .string ⟨#[119, 105, 100, 101, 114]⟩, .string ⟨#[116, 97, 105, 108]⟩, .string ⟨#[110, 97, 114, 114, 111, 119, 101, 114]⟩, .string ⟨#[111, 116, 104, 101, 114]⟩]
theorem names_cell (w : World) (t : TypeId) (v : Value) (i : Nat) (h : namesRow[i]? = some v) : (w.alloc (.cells namesRow t)).cell? ⟨w.heap.size, i, none⟩ = some v := by
  simp only [World.cell?, heap_alloc_new]
  exact h
theorem brName_some {k : Int} (h0 : 0 ≤ k) (h4 : k ≤ 4) : brName k ≠ [] := by
  rcases (by omega : k = 0 ∨ k = 1 ∨ k = 2 ∨ k = 3 ∨ k = 4) with rfl | rfl | rfl | rfl | rfl <;> decide
set_option maxRecDepth 100000 in
theorem breakName_any (k : Int) (w : World) : Calls Try.prog 12 #[.int .i64 k] w (Told (.string ⟨(brName k).toArray⟩) w) := by
  by_cases hk : 0 ≤ k ∧ k ≤ 4
  · obtain ⟨h0, h4⟩ := hk
    rcases (by omega : k = 0 ∨ k = 1 ∨ k = 2 ∨ k = 3 ∨ k = 4) with rfl | rfl | rfl | rfl | rfl
    · have K := Lib.hid (fun (w0 : World) => inRange_told 0 0 4 w0)
      clear h0 h4
      go_enter Try.func12, Try.ntmps12
      go_wp2_with fail
      refine (K.out _).mono ?_
      rintro e w1 ⟨rfl, hb1⟩
      have HB1 := Lib.hid hb1
      have hc : w1.cell? ⟨w.heap.size, 0, none⟩ = some (.string ⟨#[110, 111, 110, 101]⟩) := cell_stay (names_cell w 47 (.string ⟨#[110, 111, 110, 101]⟩) 0 rfl) hb1
      clear hb1
      go_wp2
      go_ret
      exact ⟨rfl, (alloc_same w _).trans (HB1.out.mono (by simp))⟩
    · have K := Lib.hid (fun (w0 : World) => inRange_told 1 0 4 w0)
      clear h0 h4
      go_enter Try.func12, Try.ntmps12
      go_wp2_with fail
      refine (K.out _).mono ?_
      rintro e w1 ⟨rfl, hb1⟩
      have HB1 := Lib.hid hb1
      have hc : w1.cell? ⟨w.heap.size, 1, none⟩ = some (.string ⟨#[119, 105, 100, 101, 114]⟩) := cell_stay (names_cell w 47 (.string ⟨#[119, 105, 100, 101, 114]⟩) 1 rfl) hb1
      clear hb1
      go_wp2
      go_ret
      exact ⟨rfl, (alloc_same w _).trans (HB1.out.mono (by simp))⟩
    · have K := Lib.hid (fun (w0 : World) => inRange_told 2 0 4 w0)
      clear h0 h4
      go_enter Try.func12, Try.ntmps12
      go_wp2_with fail
      refine (K.out _).mono ?_
      rintro e w1 ⟨rfl, hb1⟩
      have HB1 := Lib.hid hb1
      have hc : w1.cell? ⟨w.heap.size, 2, none⟩ = some (.string ⟨#[116, 97, 105, 108]⟩) := cell_stay (names_cell w 47 (.string ⟨#[116, 97, 105, 108]⟩) 2 rfl) hb1
      clear hb1
      go_wp2
      go_ret
      exact ⟨rfl, (alloc_same w _).trans (HB1.out.mono (by simp))⟩
    · have K := Lib.hid (fun (w0 : World) => inRange_told 3 0 4 w0)
      clear h0 h4
      go_enter Try.func12, Try.ntmps12
      go_wp2_with fail
      refine (K.out _).mono ?_
      rintro e w1 ⟨rfl, hb1⟩
      have HB1 := Lib.hid hb1
      have hc : w1.cell? ⟨w.heap.size, 3, none⟩ = some (.string ⟨#[110, 97, 114, 114, 111, 119, 101, 114]⟩) := cell_stay (names_cell w 47 (.string ⟨#[110, 97, 114, 114, 111, 119, 101, 114]⟩) 3 rfl) hb1
      clear hb1
      go_wp2
      go_ret
      exact ⟨rfl, (alloc_same w _).trans (HB1.out.mono (by simp))⟩
    · have K := Lib.hid (fun (w0 : World) => inRange_told 4 0 4 w0)
      clear h0 h4
      go_enter Try.func12, Try.ntmps12
      go_wp2_with fail
      refine (K.out _).mono ?_
      rintro e w1 ⟨rfl, hb1⟩
      have HB1 := Lib.hid hb1
      have hc : w1.cell? ⟨w.heap.size, 4, none⟩ = some (.string ⟨#[111, 116, 104, 101, 114]⟩) := cell_stay (names_cell w 47 (.string ⟨#[111, 116, 104, 101, 114]⟩) 4 rfl) hb1
      clear hb1
      go_wp2
      go_ret
      exact ⟨rfl, (alloc_same w _).trans (HB1.out.mono (by simp))⟩
  · have hq : (decide ((0 : Int) ≤ k) && decide (k ≤ 4)) = false := by simp; omega
    have en : brName k = [] := by
      unfold brName
      rw [if_neg (by omega), if_neg (by omega), if_neg (by omega), if_neg (by omega), if_neg (by omega)]
    have K := Lib.hid (fun (w0 : World) => inRange_told k 0 4 w0)
    rw [hq] at K
    rw [en]
    clear hq hk en
    go_enter Try.func12, Try.ntmps12
    go_wp2_with fail
    refine (K.out _).mono ?_
    rintro e w1 ⟨rfl, hb1⟩
    have HB1 := Lib.hid hb1
    clear hb1
    go_wp2
    go_ret
    exact ⟨rfl, (alloc_same w _).trans (HB1.out.mono (by simp))⟩
set_option maxRecDepth 100000 in
theorem specBreakName_any (k : Int) (w : World) : Calls Try.prog 27 #[.int .i64 k] w (Told (.string ⟨(brName k).toArray⟩) w) := by
  by_cases hk : 0 ≤ k ∧ k ≤ 4
  · obtain ⟨h0, h4⟩ := hk
    rcases (by omega : k = 0 ∨ k = 1 ∨ k = 2 ∨ k = 3 ∨ k = 4) with rfl | rfl | rfl | rfl | rfl
    · have K := Lib.hid (fun (w0 : World) => l1In_told 0 0 4 w0)
      clear h0 h4
      go_enter Try.func27, Try.ntmps27
      go_wp2_with fail
      refine (K.out _).mono ?_
      rintro e w1 ⟨rfl, hb1⟩
      have HB1 := Lib.hid hb1
      clear hb1
      go_wp2
      go_ret
      exact ⟨rfl, HB1.out.trans ((alloc_same w1 _).mono HB1.out.size)⟩
    · have K := Lib.hid (fun (w0 : World) => l1In_told 1 0 4 w0)
      clear h0 h4
      go_enter Try.func27, Try.ntmps27
      go_wp2_with fail
      refine (K.out _).mono ?_
      rintro e w1 ⟨rfl, hb1⟩
      have HB1 := Lib.hid hb1
      clear hb1
      go_wp2
      go_ret
      exact ⟨rfl, HB1.out.trans ((alloc_same w1 _).mono HB1.out.size)⟩
    · have K := Lib.hid (fun (w0 : World) => l1In_told 2 0 4 w0)
      clear h0 h4
      go_enter Try.func27, Try.ntmps27
      go_wp2_with fail
      refine (K.out _).mono ?_
      rintro e w1 ⟨rfl, hb1⟩
      have HB1 := Lib.hid hb1
      clear hb1
      go_wp2
      go_ret
      exact ⟨rfl, HB1.out.trans ((alloc_same w1 _).mono HB1.out.size)⟩
    · have K := Lib.hid (fun (w0 : World) => l1In_told 3 0 4 w0)
      clear h0 h4
      go_enter Try.func27, Try.ntmps27
      go_wp2_with fail
      refine (K.out _).mono ?_
      rintro e w1 ⟨rfl, hb1⟩
      have HB1 := Lib.hid hb1
      clear hb1
      go_wp2
      go_ret
      exact ⟨rfl, HB1.out.trans ((alloc_same w1 _).mono HB1.out.size)⟩
    · have K := Lib.hid (fun (w0 : World) => l1In_told 4 0 4 w0)
      clear h0 h4
      go_enter Try.func27, Try.ntmps27
      go_wp2_with fail
      refine (K.out _).mono ?_
      rintro e w1 ⟨rfl, hb1⟩
      have HB1 := Lib.hid hb1
      clear hb1
      go_wp2
      go_ret
      exact ⟨rfl, HB1.out.trans ((alloc_same w1 _).mono HB1.out.size)⟩
  · have hq : (decide ((0 : Int) ≤ k) && decide (k ≤ 4)) = false := by simp; omega
    have en : brName k = [] := by
      unfold brName
      rw [if_neg (by omega), if_neg (by omega), if_neg (by omega), if_neg (by omega), if_neg (by omega)]
    have K := Lib.hid (fun (w0 : World) => l1In_told k 0 4 w0)
    rw [hq] at K
    rw [en]
    clear hq hk en
    go_enter Try.func27, Try.ntmps27
    go_wp2_with fail
    refine (K.out _).mono ?_
    rintro e w1 ⟨rfl, hb1⟩
    have HB1 := Lib.hid hb1
    clear hb1
    go_wp2
    go_ret
    exact ⟨rfl, HB1.out⟩
end Go.Proofs.Ytjkjnhkamieljaa
