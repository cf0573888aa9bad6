/- What the small draws return: a truth value, an integer of a list, a text of a list, a new cursor. -/
import Derived.Test.YteicmmfgliokdaaDoorDraw
namespace Go.Proofs.YteicmmfgliokdaaDoor
open Go.ChangeShapes Go.WideShapes Go.ChangeAt Go.RowKit
set_option linter.unusedVariables false

theorem ret_int {k : IntKind} {a b : Int} (h : a = b) : Ending.returned (.int k a) = .returned (.int k b) := by rw [h]
theorem ret_str {a b : ByteArray} (h : a = b) : Ending.returned (.string a) = .returned (.string b) := by rw [h]
theorem new_curs {w : World} {a : Option Addr} {n c : Nat} {z : Int} (hn : (n : Int) ≤ 9223372036854775807) (hb : Bytes w a n) :
    Curs (w.alloc (.cells #[.slice a n c, .int .i64 0, .int .i64 z] 41)) w.heap.size a n c :=
  ⟨⟨0, z, Nat.zero_le _, by unfold CurAt; show (w.heap.push _)[w.heap.size]? = _; simp⟩, hb.same (alloc_same _ _), by omega, fun h0 ad e h => by
    obtain ⟨ad', e', x, _, _, hx⟩ := hb 0 h0
    rw [e] at e'
    cases e'
    have := cell_block hx
    rw [add_block] at this
    omega⟩

set_option maxRecDepth 100000 in
theorem once_any (b : Nat) (a : Option Addr) (n c : Nat) (m : Int) (hm : 1 ≤ m) (hm2 : m ≤ 9223372036854775807) (w : World) (hc : Curs w b a n c) :
    Calls Tryd.prog 15 #[.pointer (some ⟨b, 0, none⟩), .int .i64 m] w fun e w' => ∃ t : Bool, e = .returned (.bool t) ∧ Drawn b a n c w w' := by
  have H := Lib.hid hc
  clear hc
  go_enter Tryd.func15, Tryd.ntmps15
  go_wp2_with fail
  refine (below_any b a n c m hm hm2 _ H.out).mono ?_
  rintro e w1 ⟨x, hx0, hx1, rfl, hd1⟩
  have H1 := Lib.hid hd1
  clear hd1
  go_wp2_with fail
  go_ret
  exact ⟨_, rfl, H1.out⟩

set_option maxRecDepth 100000 in
theorem pick_any (b : Nat) (a : Option Addr) (n c : Nat) (lb m : Nat) (zs : List Int) (hm : 1 ≤ m) (hm2 : (m : Int) ≤ 9223372036854775807) (w : World) (hc : Curs w b a n c) (hlb : lb ≠ b)
    (hz : ∀ j, j < m → w.cell? ⟨lb, j, none⟩ = some (.int .i64 (zs.getD j 0))) :
    Calls Tryd.prog 22 #[.pointer (some ⟨b, 0, none⟩), .slice (some ⟨lb, 0, none⟩) m m] w fun e w' => ∃ j : Nat, j < m ∧ e = .returned (.int .i64 (zs.getD j 0)) ∧ Drawn b a n c w w' := by
  have H := Lib.hid hc
  have HZ := Lib.hid hz
  clear hc hz
  go_enter Tryd.func22, Tryd.ntmps22
  go_wp2_with fail
  refine (below_any b a n c m (by omega) hm2 _ H.out).mono ?_
  rintro e w1 ⟨x, hx0, hx1, rfl, hd1⟩
  obtain ⟨k, rfl⟩ : ∃ k : Nat, x = k := ⟨x.toNat, by omega⟩
  have hcell : w1.cell? ⟨lb, k, none⟩ = some (.int .i64 (zs.getD k 0)) := by
    rw [hd1.2.cell (cell_block (HZ.out k (by omega))) hlb]
    exact HZ.out k (by omega)
  have H1 := Lib.hid hd1
  clear hd1
  generalize hv : zs.getD k 0 = v at hcell
  have HV := Lib.hid hv
  clear hv
  go_wp2_with fail
  go_ret
  exact ⟨k, by omega, ret_int HV.out.symm, H1.out⟩
set_option maxRecDepth 100000 in
theorem pickText_any (b : Nat) (a : Option Addr) (n c : Nat) (lb m : Nat) (zs : List ByteArray) (hm : 1 ≤ m) (hm2 : (m : Int) ≤ 9223372036854775807) (w : World) (hc : Curs w b a n c) (hlb : lb ≠ b)
    (hz : ∀ j, j < m → w.cell? ⟨lb, j, none⟩ = some (.string (zs.getD j ⟨#[]⟩))) :
    Calls Tryd.prog 16 #[.pointer (some ⟨b, 0, none⟩), .slice (some ⟨lb, 0, none⟩) m m] w fun e w' => ∃ j : Nat, j < m ∧ e = .returned (.string (zs.getD j ⟨#[]⟩)) ∧ Drawn b a n c w w' := by
  have H := Lib.hid hc
  have HZ := Lib.hid hz
  clear hc hz
  go_enter Tryd.func16, Tryd.ntmps16
  go_wp2_with fail
  refine (below_any b a n c m (by omega) hm2 _ H.out).mono ?_
  rintro e w1 ⟨x, hx0, hx1, rfl, hd1⟩
  obtain ⟨k, rfl⟩ : ∃ k : Nat, x = k := ⟨x.toNat, by omega⟩
  have hcell : w1.cell? ⟨lb, k, none⟩ = some (.string (zs.getD k ⟨#[]⟩)) := by
    rw [hd1.2.cell (cell_block (HZ.out k (by omega))) hlb]
    exact HZ.out k (by omega)
  have H1 := Lib.hid hd1
  clear hd1
  generalize hv : zs.getD k ⟨#[]⟩ = v at hcell
  have HV := Lib.hid hv
  clear hv
  go_wp2_with fail
  go_ret
  exact ⟨k, by omega, ret_str HV.out.symm, H1.out⟩

set_option maxRecDepth 100000 in
theorem new_any (a : Option Addr) (n c : Nat) (hn : (n : Int) ≤ 9223372036854775807) (w : World) (hb : Bytes w a n) :
    Calls Tryd.prog 14 #[.slice a n c] w fun e w' => e = .returned (.pointer (some ⟨w.heap.size, 0, none⟩)) ∧ Curs w' w.heap.size a n c ∧ Below w.heap.size w w' := by
  have HB := Lib.hid hb
  clear hb
  go_enter Tryd.func14, Tryd.ntmps14
  go_wp2
  go_loop [3, 4] (fun h i => ∃ k : Nat, ∃ z : Int, k ≤ n ∧ i = .int .i64 k ∧ h = .int .i64 z) (fun _ i => n - (intOf i).toNat)
  case atStart => exact ⟨0, _, Nat.zero_le _, rfl, rfl⟩
  case round =>
    obtain ⟨k, z, hk, rfl, rfl⟩ := hrel
    by_cases hlt : k < n
    · by_cases h4 : (k : Int) < 4000
      · obtain ⟨ad, rfl, x, hx0, hx1, hx⟩ := HB.out k hlt
        go_wp2
        go_round
        case rel => exact ⟨k + 1, _, by omega, by go_num, rfl⟩
        case measure => simp [intOf]; omega
      · go_wp2
        go_ret
        exact ⟨rfl, new_curs hn HB.out, alloc_same _ _⟩
    · go_wp2
      go_ret
      exact ⟨rfl, new_curs hn HB.out, alloc_same _ _⟩

/-- A list of integers that the call has just laid. -/
theorem pickNew (b : Nat) (a : Option Addr) (n c : Nat) (zs : List Int) (m : Nat) (hm : 1 ≤ m) (hm2 : (m : Int) ≤ 9223372036854775807) (hz : zs.length = m) {cs : Array Value} (hcs : cs = (zs.map (Value.int .i64)).toArray) {T : TypeId} (w : World) (hc : Curs w b a n c) :
    Calls Tryd.prog 22 #[.pointer (some ⟨b, 0, none⟩), .slice (some ⟨w.heap.size, 0, none⟩) m m] (w.alloc (.cells cs T)) fun e w' => ∃ x : Int, x ∈ zs ∧ e = .returned (.int .i64 x) ∧ Drawn b a n c w w' := by
  have hlt := hc.lt
  refine (pick_any b a n c w.heap.size m zs hm hm2 _ (hc.same (alloc_same _ _)) (by omega) (fun j hj => ?_)).mono ?_
  · have hj' : j < zs.length := by omega
    have : (w.alloc (.cells cs T)).heap[w.heap.size]? = some (.cells cs T (0, 0)) := by show (w.heap.push _)[w.heap.size]? = _; simp
    rw [Joins.cell_of_block this, hcs]
    simp [List.getD, List.getElem?_eq_getElem hj']
  · rintro e w1 ⟨j, hj, rfl, hd⟩
    have hj' : j < zs.length := by omega
    exact ⟨zs.getD j 0, by rw [List.getD, List.getElem?_eq_getElem hj']; exact List.getElem_mem hj', rfl, hd.1, ((Only.refl b w).alloc _).trans hd.2⟩
/-- A list of texts that the call has just laid. -/
theorem pickTextNew (b : Nat) (a : Option Addr) (n c : Nat) (zs : List ByteArray) (m : Nat) (hm : 1 ≤ m) (hm2 : (m : Int) ≤ 9223372036854775807) (hz : zs.length = m) {cs : Array Value} (hcs : cs = (zs.map Value.string).toArray) {T : TypeId} (w : World) (hc : Curs w b a n c) :
    Calls Tryd.prog 16 #[.pointer (some ⟨b, 0, none⟩), .slice (some ⟨w.heap.size, 0, none⟩) m m] (w.alloc (.cells cs T)) fun e w' => ∃ x : ByteArray, x ∈ zs ∧ e = .returned (.string x) ∧ Drawn b a n c w w' := by
  have hlt := hc.lt
  refine (pickText_any b a n c w.heap.size m zs hm hm2 _ (hc.same (alloc_same _ _)) (by omega) (fun j hj => ?_)).mono ?_
  · have hj' : j < zs.length := by omega
    have : (w.alloc (.cells cs T)).heap[w.heap.size]? = some (.cells cs T (0, 0)) := by show (w.heap.push _)[w.heap.size]? = _; simp
    rw [Joins.cell_of_block this, hcs]
    simp [List.getD, List.getElem?_eq_getElem hj']
  · rintro e w1 ⟨j, hj, rfl, hd⟩
    have hj' : j < zs.length := by omega
    exact ⟨zs.getD j ⟨#[]⟩, by rw [List.getD, List.getElem?_eq_getElem hj']; exact List.getElem_mem hj', rfl, hd.1, ((Only.refl b w).alloc _).trans hd.2⟩
end Go.Proofs.YteicmmfgliokdaaDoor
