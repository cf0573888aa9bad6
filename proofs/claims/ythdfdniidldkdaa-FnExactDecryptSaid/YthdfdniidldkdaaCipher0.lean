/- The cipher of the program: each byte is shifted by the key stream. -/
import Derived.Test.YthdfdniidldkdaaStream
import Derived.Test.YthdfdniidldkdaaByteS
import Derived.Test.YthdfdniidldkdaaUv
import Derived.Deep.RegionHeld3
import Derived.Deep.AppendLies
namespace Go.Proofs.Ythdfdniidldkdaa
open Go.ChangeShapes Go.WideShapes Go.ChangeAt Go.RowKit
set_option linter.unusedVariables false

theorem size_alloc (w : World) (A : Obj) : (w.alloc A).heap.size = w.heap.size + 1 := by
  show (w.heap.push A).size = _
  simp
theorem heap_alloc3 (w : World) (A M C : Obj) : (((w.alloc A).alloc M).alloc C).heap[w.heap.size]? = some A ∧ (((w.alloc A).alloc M).alloc C).heap[w.heap.size + 1]? = some M ∧ (((w.alloc A).alloc M).alloc C).heap[w.heap.size + 1 + 1]? = some C := by
  have e1 := size_alloc w A
  have e2 := size_alloc (w.alloc A) M
  refine ⟨?_, ?_, ?_⟩
  · rw [Below.heap_alloc _ _ _ (by omega), Below.heap_alloc _ _ _ (by omega), heap_alloc_new]
  · rw [Below.heap_alloc _ _ _ (by omega), ← e1, heap_alloc_new]
  · rw [← e1, ← e2, heap_alloc_new]
theorem keyStream_any (k : Int) (w : World) :
    Calls Try.prog 49 #[.int .i64 k] w fun e w' => ∃ gm gk bm, e = .returned (.func (.func 56) #[] #[.pointer (some ⟨gm, 0, none⟩), .pointer (some ⟨gk, 0, none⟩)]) ∧ Stream w' gm gk bm 0 k ∧ w.heap.size ≤ gm ∧ w.heap.size ≤ gk ∧ w.heap.size ≤ bm ∧ Below w.heap.size w w' := by
  have hmm := @run_makeMap Try.prog
  have hmf : ∀ (fn : Fn) (first cap : Array Value) (w : World), (Instr.makeFunc fn first cap).run Try.prog w = .ok (.func fn first cap) w := fun _ _ _ _ => rfl
  go_enter Try.func49, Try.ntmps49
  go_wp2
  go_ret
  obtain ⟨h1, h2, h3⟩ := heap_alloc3 w (.cells #[.int .i64 k] 3) (.map #[] 0) (.cells #[.map (some (w.heap.size + 1))] 65)
  exact ⟨_, _, w.heap.size + 1, rfl, ⟨h3, h1, ⟨#[], 0, h2, ⟨by simp, Go.MapKept.stamped_empty 0, by simp⟩, Nat.le_refl _, by simp⟩⟩, by omega, by omega, by omega, (((Below.refl _ w).alloc (Nat.le_refl _) _).alloc (by simp) _).alloc (by simp; omega) _⟩

theorem copyBytes_any (a : Option Addr) (n c : Nat) (l : List Int) (w : World) (h : Nums .u8 w a n l) (hn : n ≤ 1000000000000) :
    Calls Try.prog 42 #[.slice a n c] w (Made .u8 5 w.heap.size l w) := by
  have H := Lib.hid h
  clear h
  obtain ⟨i0, hi, hz0, hz1, hz2⟩ := info_parts infoByteS
  have HI := Lib.hid (And.intro hi (And.intro hz0 (And.intro hz1 hz2)))
  clear hi hz0 hz1 hz2
  go_enter Try.func42, Try.ntmps42
  go_wp2_with (at_builtin; refine wpl_app _ rfl (.tmp 3) (.tmp 4) 22 rfl .u8 5 i0 (.int .u8 0) 1 Try.underlying22 HI.out.1 HI.out.2.1 HI.out.2.2.1 HI.out.2.2.2 rfl rfl (Own.empty (Nat.le_refl _)) rfl (H.out.same (alloc_same _ _)) (by omega) ?c1 ?c2 ?_)
  case c1 => omega
  case c2 => simp
  intro a2 c2 w2 ho2 hb2
  have HO2 := Lib.hid ho2
  have HB2 := Lib.hid hb2
  clear ho2 hb2
  go_wp2
  go_ret
  have h1 := HO2.out
  exact ⟨a2, n, c2, rfl, by simpa using h1, (alloc_same _ _).trans HB2.out⟩
end Go.Proofs.Ythdfdniidldkdaa
