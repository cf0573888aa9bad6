/- Derived keys: a label's bytes are hashed under the key, and 0 becomes 1; in the program and in its model. -/
import Derived.Test.YtnkbahnhngajfaaB2i
import Derived.Test.YtnkbahnhngajfaaUv
import Derived.Laws.IdiomStrings
namespace Go.Proofs.Ytnkbahnhngajfaa
open Go.ChangeShapes Go.WideShapes Go.ChangeAt Go.RowKit
set_option linter.unusedVariables false

/-- The smaller, and the greater, of two. -/
def low2 (a b : Int) : Int := if b < a then b else a
def high2 (a b : Int) : Int := if a < b then b else a
set_option maxRecDepth 100000 in
theorem extremes_any (a b : Int) (blk : Nat) (w : World) (hc : w.cell? ⟨blk, 0, none⟩ = some (.int .i64 b)) :
    Calls Try.prog 61 #[.int .i64 a, .slice (some ⟨blk, 0, none⟩) 1 1] w fun e w' => e = .returned (.tuple #[.int .i64 (low2 a b), .int .i64 (high2 a b)]) ∧ w' = w := by
  go_enter Try.func61, Try.ntmps61
  go_wp2
  go_loop [6, 7, 14] (fun l h i => (i = .int .i64 0 ∧ l = .int .i64 a ∧ h = .int .i64 a) ∨ (i = .int .i64 1 ∧ l = .int .i64 (low2 a b) ∧ h = .int .i64 (high2 a b))) (fun _ _ i => 1 - (intOf i).toNat)
  case atStart => exact Or.inl ⟨rfl, rfl, rfl⟩
  case round =>
    rcases hrel with ⟨rfl, rfl, rfl⟩ | ⟨rfl, rfl, rfl⟩
    · by_cases h1 : b < a
      · have hl : low2 a b = b := if_pos h1
        have hh : high2 a b = a := if_neg (by omega)
        go_wp2
        go_round
        case rel => exact Or.inr ⟨rfl, by rw [hl], by rw [hh]⟩
        case measure => simp [intOf]
      · have hl : low2 a b = a := if_neg h1
        by_cases h2 : a < b
        · have hh : high2 a b = b := if_pos h2
          go_wp2
          go_round
          case rel => exact Or.inr ⟨rfl, by rw [hl], by rw [hh]⟩
          case measure => simp [intOf]
        · have hh : high2 a b = a := if_neg h2
          go_wp2
          go_round
          case rel => exact Or.inr ⟨rfl, by rw [hl], by rw [hh]⟩
          case measure => simp [intOf]
    · go_wp2
      go_ret2
      exact ⟨rfl, rfl⟩


def orOne (y : Int) : Int := if y < 1 then 1 else y
theorem orOne_bd (y : Int) (h : y < 2147483647) : 1 ≤ orOne y ∧ orOne y ≤ 2147483646 := by
  unfold orOne
  split <;> omega
set_option maxRecDepth 100000 in
theorem maxOne_any (y : Int) (w : World) :
    Calls Try.prog 53 #[.int .i64 y, .int .i64 1] w (Told (.int .i64 (orOne y)) w) := by
  go_enter Try.func53, Try.ntmps53
  go_wp2_with (go_at_call 61; refine (extremes_any y 1 w.heap.size _ (by simp)).mono ?_; rintro e w' ⟨rfl, rfl⟩)
  go_ret
  exact ⟨rfl, alloc_same _ _⟩
theorem specMaxOne_any (y : Int) (w : World) :
    Calls Try.prog 54 #[.int .i64 1, .int .i64 y] w fun e w' => e = .returned (.int .i64 (orOne y)) ∧ w = w' := by
  unfold orOne
  by_cases h : 1 < y
  · rw [if_neg (by omega)]
    go_enter Try.func54, Try.ntmps54
    go_wp2
    go_ret
    exact ⟨rfl, rfl⟩
  · by_cases h1 : y < 1
    · rw [if_pos h1]
      go_enter Try.func54, Try.ntmps54
      go_wp2
      go_ret
      exact ⟨rfl, rfl⟩
    · obtain rfl : y = 1 := by omega
      rw [if_neg h1]
      go_enter Try.func54, Try.ntmps54
      go_wp2
      go_ret
      exact ⟨rfl, rfl⟩

/-- The bytes of a string, as integers. -/
def numsOf (s : ByteArray) : List Int := s.data.toList.map fun b => (b.toNat : Int)
theorem numsOf_len (s : ByteArray) : (numsOf s).length = s.size := by simp [numsOf]
theorem numsOf_bs (s : ByteArray) : Bs (numsOf s) := by
  intro x hx
  obtain ⟨b, _, rfl⟩ := List.mem_map.1 hx
  have := b.toNat_lt
  omega
theorem wpl_bytes {P : Program} (w : World) {ops : Array Oper} {rest : List Oper} {o : Oper} {a : Act} {Q : Exit → Act → World → Prop} (hg : o.guard = none) (src dst e : TypeId) (x : Operand) (hop : o.op = Op.convert src dst x)
    (hs : P.underlying src = some .string) (hd : P.underlying dst = some (.slice e)) (he : P.underlying e = some (.int .u8)) (s : ByteArray) (hx : a.eval x = .string s) (hfit : s.size ≤ 1048576)
    (hK : ∀ c w', Nums .u8 w' (some ⟨w.heap.size, 0, none⟩) s.size (numsOf s) → Below w.heap.size w w' → wpList P ops Q rest (a.put o.dst (.slice (some ⟨w.heap.size, 0, none⟩) s.size c)) w') :
    wpList P ops Q (o :: rest) a w := by
  refine wpList_plain hg fun K' hK' => ?_
  have hrun := run_bytes_of_string (P := P) w src dst e s hs hd he
  unfold Oper.wp
  simp only [execOp, hop, hx, hrun, Sem.run_bind, Sem.run_pure, Result.andThen_ok]
  refine hK' _ _ (hK _ _ ⟨numsOf_len s, by omega, fun j hj => ?_⟩ ((Below.refl _ w).drew.alloc (Nat.le_refl _) _))
  refine ⟨_, rfl, ?_⟩
  have h1 : (w.drew.alloc (.cells (bytesRow s (grownCap w s.size 0 e)) e ((bytesRow s (grownCap w s.size 0 e)).size, (bytesRow s (grownCap w s.size 0 e)).size + 1))).heap[w.heap.size]? = some (.cells (bytesRow s (grownCap w s.size 0 e)) e ((bytesRow s (grownCap w s.size 0 e)).size, (bytesRow s (grownCap w s.size 0 e)).size + 1)) := heap_alloc_new w.drew _
  have hadd : (⟨w.heap.size, 0, none⟩ : Addr).add j = ⟨w.heap.size, j, none⟩ := by unfold Addr.add; split <;> simp_all
  have hj' : j < s.data.toList.length := by simpa using hj
  rw [hadd, cell_of_row _ _ j _ _ _ h1]
  unfold bytesRow numsOf
  rw [Array.getElem?_append_left (by simpa using hj)]
  simp only [Array.getElem?_map, List.getD, List.getElem?_map]
  rw [Array.getElem?_eq_getElem (by simpa using hj), List.getElem?_eq_getElem hj']
  simp
end Go.Proofs.Ytnkbahnhngajfaa
