/- How a slice of integers among the arguments is read. The keys of moves: how a map reads them. -/
import Derived.Test.YtckmgbobkffabaaG1
import Derived.Test.YtckmgbobkffabaaG7
import Derived.Test.YtckmgbobkffabaaG2
import Derived.Maps.Own
import Derived.DeepKeys4
namespace Go.Proofs.Ytckmgbobkffabaa
open Go.ChangeShapes Go.WideShapes Go.ChangeAt Go.RowKit
set_option linter.unusedVariables false

theorem laidOut : laidOutB Try.prog = true := by kernel_rfl
set_option maxRecDepth 100000 in
theorem open_nums {k : IntKind} {T E : TypeId} (hT : Try.prog.underlying T = some (.slice E)) (hE : Try.prog.underlying E = some (.int k)) (hone : Try.prog.cellsOf E = 1) {H : Type} {enc : TypeId × Value → H} {W : World} {base : Nat} {v : Value} {d : DataW H} {p : List MemPlace}
  (hval : Value.okWide Try.prog W .any base T v) (h : DataW.Trod enc Try.prog W 0 (fun _ => true) true T v d p) :
  ∃ (a : Option Addr) (n c : Nat) (l : List Int), v = .slice a n c ∧ Nums k W a n l ∧ (∀ x ∈ l, (Lit.int k x).wf = true) ∧ n ≤ c ∧ (c : Int) ≤ 9223372036854775807 := by
 obtain ⟨a0, len, cap, rfl⟩ := okWide_slice hT hval
 obtain ⟨fuel, hf⟩ := h
 rcases open_ints hT hE hone hf with ⟨hcs, hx⟩ | ⟨a, len', cap', zs, hcs, _, hl, hm, hz, hx, hcell, hwz⟩
 ·simp [Value.cells] at hcs
  obtain ⟨rfl, rfl, rfl⟩ := hcs
  exact ⟨none, 0, 0, [], rfl, Nums.none, (fun _ h => by cases h), Nat.le_refl _, by omega⟩
 ·simp [Value.cells] at hcs
  obtain ⟨rfl, rfl, rfl⟩ := hcs
  have hlz : zs.length = cap := by simpa using hz
  unfold maxLen at hm
  refine ⟨some a, len, cap, zs.take len, rfl, ⟨by rw [List.length_take]; omega, by omega, fun j hj => ⟨a, rfl, ?_⟩⟩, fun x hx => hwz x (List.mem_of_mem_take hx), hl, by omega⟩
  rw [hcell j (by omega)]
  simp [List.getD, hj]
theorem bs_of_wf {l : List Int} (h : ∀ x ∈ l, (Lit.int .u8 x).wf = true) : Bs l := by
 intro x hx
 have := h x hx
 simp [Lit.wf, IntKind.min, IntKind.max, IntKind.signed, IntKind.bits] at this
 omega
theorem byte_cells : Try.prog.cellsOf 5 = 1 := by kernel_rfl
theorem int_cells : Try.prog.cellsOf 3 = 1 := by kernel_rfl
end Go.Proofs.Ytckmgbobkffabaa
namespace Go.Proofs.Ytckmgbobkffabaa
open Go.ChangeShapes Go.WideShapes Go.ChangeAt Go.RowKit
set_option linter.unusedVariables false

/-- A key by value. -/
def keyV (s : Int) (b : Bool) (k : Int) : Value := .agg #[.int .i64 s, .bool b, .int .i64 k]
theorem key_law : Maps.Keyed Try.prog 103 := Maps.Keyed.of_law (deep_law_laid laidOut (m := 3) (by omega) (by decide +kernel) (by kernel_rfl) (by kernel_rfl))
def keyL (s : Int) (b : Bool) (k : Int) : Lit := .string (keyBytes [.int .i64 s, .bool b, .int .i64 k])
theorem key_read {s k : Int} (b : Bool) (hs : (Lit.int .i64 s).wf = true) (hk : (Lit.int .i64 k).wf = true) : keyOf Try.prog 103 (keyV s b k) = some (keyL s b k) := by
 have h1 : Try.prog.keyType 103 = true := by kernel_rfl
 unfold keyOf keyV
 rw [Try.underlying103]
 simp only [h1, Bool.true_and]
 have h2 : Value.formed Try.prog 103 (Value.agg #[Value.int IntKind.i64 s, Value.bool b, Value.int IntKind.i64 k]) = true := by
  unfold Value.formed
  rw [Try.underlying103]
  have : Try.prog.cellsOf 103 = 3 := by kernel_rfl
  rw [this]
  rfl
 rw [if_pos h2]
 have hC : Try.prog.cellsOf 103 = 3 := by kernel_rfl
 have hi : Try.prog.cellsOf 3 = 1 := by kernel_rfl
 have hb : Try.prog.cellsOf 4 = 1 := by kernel_rfl
 obtain ⟨d, hd⟩ : ∃ d, Try.prog.types.size + 1 = d + 1 + 1 := ⟨Try.prog.types.size - 1, by
  have : 0 < Try.prog.types.size := by decide +kernel
  omega⟩
 rw [hd]
 have e1 : ∀ n : Int, (Lit.int .i64 n).wf = true → Try.prog.keyLits (d + 1) 3 [Value.int IntKind.i64 n] = some [.int .i64 n] := fun n hn => by
  unfold Program.keyLits
  rw [Try.underlying3]
  simp [hn]
 have e2 : Try.prog.keyLits (d + 1) 4 [Value.bool b] = some [.bool b] := by
  unfold Program.keyLits
  rw [Try.underlying4]
 unfold Program.keyLits
 rw [Try.underlying103]
 simp [Value.cells, hC, hi, hb, e1 s hs, e1 k hk, e2, keyL]
end Go.Proofs.Ytckmgbobkffabaa
