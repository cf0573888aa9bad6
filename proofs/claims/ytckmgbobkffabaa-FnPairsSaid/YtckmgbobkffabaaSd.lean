/- What lies beside the blocks that have changed. No function of the program is spoken of. -/
import Derived.Test.YtckmgbobkffabaaItems
namespace Go.Proofs.Ytckmgbobkffabaa
open Go.ChangeShapes Go.WideShapes Go.ChangeAt Go.RowKit
set_option linter.unusedVariables false

/-- Only blocks from lo on and below hi have changed, or are new. -/
structure Inside (lo hi : Nat) (w w' : World) : Prop where
  os : w'.os = w.os
  tape : w'.tape = w.tape
  output : w'.output = w.output
  size : w.heap.size ≤ w'.heap.size
  block : ∀ k, k < w.heap.size → k < lo ∨ hi ≤ k → w'.heap[k]? = w.heap[k]?
theorem Inside.refl (lo hi : Nat) (w : World) : Inside lo hi w w := ⟨rfl, rfl, rfl, Nat.le_refl _, fun _ _ _ => rfl⟩
theorem Inside.trans {lo hi : Nat} {a b c : World} (h : Inside lo hi a b) (k : Inside lo hi b c) : Inside lo hi a c :=
  ⟨k.os.trans h.os, k.tape.trans h.tape, k.output.trans h.output, Nat.le_trans h.size k.size, fun i hi hr => (k.block i (Nat.lt_of_lt_of_le hi h.size) hr).trans (h.block i hi hr)⟩
theorem Inside.row {lo hi : Nat} {w w' : World} {row : Option Nat} (h : w.grownBy w' row) (hr : ∀ r, row = some r → lo ≤ r ∧ r < hi) : Inside lo hi w w' :=
  ⟨h.os, h.tape, h.output, h.size, fun k hk hd => h.block k hk fun e => by have := hr k e.symm; omega⟩
theorem Inside.to {lo hi B0 : Nat} {w0 w w' : World} (h : Inside lo hi w w') (hb : Below B0 w0 w) (h0 : B0 ≤ lo) (h1 : B0 ≤ w.heap.size) : Below B0 w0 w' :=
  hb.trans ⟨h.os, h.tape, h.output, h.size, fun k hk => h.block k (by omega) (Or.inl (by omega))⟩
theorem Inside.below {lo hi : Nat} {a b c : World} (h : Inside lo hi a b) (k : Below a.heap.size b c) : Inside lo hi a c :=
  ⟨k.os.trans h.os, k.tape.trans h.tape, k.output.trans h.output, Nat.le_trans h.size k.size, fun i hi hr => (k.block i hi).trans (h.block i hi hr)⟩
section
variable {w w' : World} {B S n c lo hi : Nat} {a : Option Addr}
/-- The one block of a row, as it was. -/
theorem Inside.one (h : Inside lo hi w w') (ad : Addr) (hd : ad.block < lo ∨ hi ≤ ad.block) (hs : ad.block < w.heap.size) : ∃ w2 : World, w.grownBy w2 none ∧ w2.heap[ad.block]? = w'.heap[ad.block]? := ⟨w, grown_below (Below.refl _ _) _, (h.block _ hs hd).symm⟩
theorem row_aside {t : TypeId} {s : Nat} {v : Value} {xs : List Value} (h : w.ownsRow B t s v n xs) (hg : Inside lo hi w w') (hd : ∀ r, v.ownBlock = some r → r < lo ∨ hi ≤ r) : w'.ownsRow B t s v n xs := by
  refine ⟨h.1, ?_⟩
  rcases h.2 with hn | ⟨g, cap, cur, rfl, hb, hgg, rest⟩
  · exact .inl hn
  · refine .inr ⟨g, cap, cur, rfl, hb, ?_, rest⟩
    rw [hg.block g (Array.getElem?_eq_some_iff.1 hgg).1 (hd g rfl)]
    exact hgg
theorem block_of {p : Option Addr} {m d r : Nat} (h : Value.ownBlock (.slice p m d) = some r) : ∃ ad, p = some ad ∧ ad.block = r := by
  cases p with
  | none => simp [Value.ownBlock] at h
  | some ad => simp only [Value.ownBlock, Option.some.injEq] at h; exact ⟨ad, rfl, h⟩
theorem Own.aside {k : IntKind} {t : TypeId} {m d lo' hi' : Nat} {p : Option Addr} {y : List Int} (h : Own k t w B p m d y) (hg : Inside lo hi w w') (s : Span p lo' hi') (hd : hi ≤ lo' ∨ hi' ≤ lo) : Own k t w' B p m d y :=
  ⟨h.1, row_aside h.2 hg fun r e => by
    obtain ⟨ad, e1, rfl⟩ := block_of e
    have := s ad e1
    omega⟩
theorem OwnI.aside {α : Type} {enc : α → List Value} {s : Nat} {t : TypeId} {m d lo' hi' : Nat} {p : Option Addr} {y : List α} (h : OwnI enc s t w B p m d y) (hg : Inside lo hi w w') (sp : Span p lo' hi') (hd : hi ≤ lo' ∨ hi' ≤ lo) : OwnI enc s t w' B p m d y :=
  ⟨h.1, row_aside h.2 hg fun r e => by
    obtain ⟨ad, e1, rfl⟩ := block_of e
    have := sp ad e1
    omega⟩
end
end Go.Proofs.Ytckmgbobkffabaa
