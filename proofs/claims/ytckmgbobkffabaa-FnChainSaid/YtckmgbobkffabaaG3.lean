/- Machines: how many states, which ones end, the moves; where they lie. No function of the program is spoken of. The helpers of the exact laws at slices of integers: what the program says of integers. -/
import Derived.Test.YtckmgbobkffabaaG2
import Derived.Test.YtckmgbobkffabaaG1
import Derived.Deep.QuietTactic
import Derived.BigQuiet
import Derived.RegionTactic
namespace Go.Proofs.Ytckmgbobkffabaa
open Go.ChangeShapes Go.WideShapes Go.ChangeAt Go.RowKit
set_option linter.unusedVariables false

structure Mac where
 st : Int
 ends : List Bool
 moves : List Mv
deriving DecidableEq
/-- How many elements it holds. -/
def Mac.parts (x : Mac) : Nat := x.ends.length + x.moves.length
/-- How many marks a machine bears. -/
def Mac.many (x : Mac) : Nat := x.ends.length + x.moves.length * 4
/-- A value is this machine. -/
def MacW (w : World) (v : Value) (x : Mac) : Prop :=
 ∃ (a : Option Addr) (n c : Nat) (b : Option Addr) (m d : Nat), v = .agg #[.int .i64 x.st, .slice a n c, .slice b m d] ∧ Bls w a n x.ends ∧ Mvs w b m x.moves ∧ (n ≤ c ∧ (c : Int) ≤ 9223372036854775807) ∧ m ≤ d ∧ (d : Int) ≤ 9223372036854775807
/-- Two slices lie in different blocks. -/
def Sep (a b : Option Addr) : Prop := ∀ p q, a = some p → b = some q → p.block ≠ q.block
/-- A value is this machine, in blocks of the call's own, all below S. -/
def OwnMac (S : Nat) (w : World) (B : Nat) (v : Value) (x : Mac) : Prop :=
 ∃ (a : Option Addr) (n c : Nat) (b : Option Addr) (m d : Nat), v = .agg #[.int .i64 x.st, .slice a n c, .slice b m d] ∧ OwnBl 4 w B a n c x.ends ∧ OwnM 63 w B b m d x.moves ∧ Sep a b ∧ Span a B S ∧ Span b B S ∧ S ≤ w.heap.size ∧ (n ≤ c ∧ (c : Int) ≤ 9223372036854775807) ∧ m ≤ d ∧ (d : Int) ≤ 9223372036854775807
theorem MacW.same {w w' : World} {v : Value} {x : Mac} (h : MacW w v x) (hb : Below w.heap.size w w') : MacW w' v x := by
 obtain ⟨a, n, c, b, m, d, e, h1, h2, h3⟩ := h
 exact ⟨a, n, c, b, m, d, e, h1.same hb, h2.same hb, h3⟩
theorem OwnMac.mac {S : Nat} {w : World} {B : Nat} {v : Value} {x : Mac} (h : OwnMac S w B v x) : MacW w v x := by
 obtain ⟨a, n, c, b, m, d, e, h1, h2, _, _, _, _, h3⟩ := h
 exact ⟨a, n, c, b, m, d, e, h1.items blEnc_len, h2.items Mv.enc_len, h3⟩
theorem OwnMac.same {S : Nat} {w w' : World} {B : Nat} {v : Value} {x : Mac} (h : OwnMac S w B v x) (hb : Below w.heap.size w w') : OwnMac S w' B v x := by
 obtain ⟨a, n, c, b, m, d, e, h1, h2, h3, h4, h5, h6, h7⟩ := h
 exact ⟨a, n, c, b, m, d, e, h1.same hb, h2.same hb, h3, h4, h5, Nat.le_trans h6 hb.size, h7⟩
theorem OwnMac.lower {S : Nat} {w : World} {B B' : Nat} {v : Value} {x : Mac} (h : OwnMac S w B v x) (hB : B' ≤ B) : OwnMac S w B' v x := by
 obtain ⟨a, n, c, b, m, d, e, h1, h2, h3, h4, h5, h6, h7⟩ := h
 exact ⟨a, n, c, b, m, d, e, h1.lower hB, h2.lower hB, h3, h4.mono hB (Nat.le_refl _), h5.mono hB (Nat.le_refl _), h6, h7⟩
theorem OwnMac.aside {S lo hi : Nat} {w w' : World} {B : Nat} {v : Value} {x : Mac} (h : OwnMac S w B v x) (hg : Inside lo hi w w') (hd : hi ≤ B ∨ S ≤ lo) : OwnMac S w' B v x := by
 obtain ⟨a, n, c, b, m, d, e, h1, h2, h3, h4, h5, h6, h7⟩ := h
 exact ⟨a, n, c, b, m, d, e, h1.aside hg h4 hd, h2.aside hg h5 hd, h3, h4, h5, Nat.le_trans h6 hg.size, h7⟩
/-- Marks on another slice. -/
theorem OwnMac.apart {S lo hi : Nat} {w w' : World} {B : Nat} {v : Value} {x : Mac} {p : Option Addr} {k q : Nat} (h : OwnMac S w B v x) (hg : w.grownBy w' (Value.ownBlock (.slice p k q))) (sp : Span p lo hi) (hd : hi ≤ B ∨ S ≤ lo) : OwnMac S w' B v x :=
 h.aside (Inside.row hg fun r e => by obtain ⟨ad, e1, rfl⟩ := block_of e; exact sp ad e1) hd
theorem MacW.shape {w : World} {v : Value} {x : Mac} (h : MacW w v x) : ∃ (a : Option Addr) (n c : Nat) (b : Option Addr) (m d : Nat), v = .agg #[.int .i64 x.st, .slice a n c, .slice b m d] := by
 obtain ⟨a, n, c, b, m, d, e, _⟩ := h
 exact ⟨a, n, c, b, m, d, e⟩
theorem OwnMac.shape {S : Nat} {w : World} {B : Nat} {v : Value} {x : Mac} (h : OwnMac S w B v x) : ∃ (a : Option Addr) (n c : Nat) (b : Option Addr) (m d : Nat), v = .agg #[.int .i64 x.st, .slice a n c, .slice b m d] := h.mac.shape
/-- What is changed in one of two slices leaves the other one. -/
theorem OwnI.sep {α : Type} {enc : α → List Value} {s : Nat} {t : TypeId} {w w' : World} {B n c m d : Nat} {a b : Option Addr} {l : List α} (h : OwnI enc s t w B a n c l) (hg : w.grownBy w' (Value.ownBlock (.slice b m d))) (hs : Sep a b) : OwnI enc s t w' B a n c l := by
 rcases a with _ | p
 ·obtain ⟨h1, h2⟩ := h
  refine ⟨h1, ?_⟩
  rcases h2.2 with ⟨e, hn⟩ | ⟨g, cap, cur, e, _⟩
  ·exact ⟨h2.1, Or.inl ⟨e, hn⟩⟩
  ·cases e
 ·rcases b with _ | q
  ·exact h.apart hg (lo := p.block) (hi := p.block + 1) (lo' := 0) (hi' := 0) (fun ad e => by cases e; omega) Span.none (Or.inr (by omega))
  ·have hne := hs p q rfl rfl
   exact h.apart hg (lo := p.block) (hi := p.block + 1) (lo' := q.block) (hi' := q.block + 1) (fun ad e => by cases e; omega) (fun ad e => by cases e; omega) (by omega)
/-- A cell of another block is written to. -/
theorem OwnI.set {α : Type} {enc : α → List Value} {s : Nat} {t : TypeId} {w : World} {B n c : Nat} {a : Option Addr} {l : List α} (h : OwnI enc s t w B a n c l) {p : Addr} (hd : ∀ ad, a = some ad → ad.block ≠ p.block) (v : Value) : OwnI enc s t (w.setCell p v) B a n c l := by
 have hg : Inside p.block (p.block + 1) w (w.setCell p v) := ⟨rfl, rfl, rfl, by simp, fun k _ hk => Below.heap_setCell _ _ _ _ (by omega)⟩
 exact ⟨h.1, row_aside h.2 hg fun r e => by
  obtain ⟨ad, e1, rfl⟩ := block_of e
  have := hd ad e1
  omega⟩
theorem Sep.symm {a b : Option Addr} (h : Sep a b) : Sep b a := fun p q e f => (h q p f e).symm
/-- What a function leaves that makes a machine. -/
def MadeMac (B : Nat) (x : Mac) (w : World) (e : Ending) (w' : World) : Prop := ∃ v, e = .returned v ∧ OwnMac w'.heap.size w' B v x ∧ Below B w w'
end Go.Proofs.Ytckmgbobkffabaa
namespace Go.Proofs.Ytckmgbobkffabaa
open Go.ChangeShapes Go.WideShapes Go.ChangeAt Go.RowKit
set_option linter.unusedVariables false

theorem infoIntS : (Try.prog.info? 3).map (fun i => (i.zero, i.size, i.bytes)) = some (some (.int .i64 0), 1, 8) := by kernel_rfl

end Go.Proofs.Ytckmgbobkffabaa
