/- Moves: from, whether it sends, the message, to; their four cells. Bools: one cell each. No function of the program is spoken of. What lies beside the blocks that have changed. No function of the program is spoken of. -/
import Derived.Test.YtckmgbobkffabaaG1
namespace Go.Proofs.Ytckmgbobkffabaa
open Go.ChangeShapes Go.WideShapes Go.ChangeAt Go.RowKit
set_option linter.unusedVariables false

structure Mv where
 frm : Int
 send : Bool
 msg : Int
 to : Int
deriving DecidableEq
instance : Inhabited Mv := ⟨⟨0, false, 0, 0⟩⟩
def Mv.enc (x : Mv) : List Value := [.int .i64 x.frm, .bool x.send, .int .i64 x.msg, .int .i64 x.to]
def Mv.val (x : Mv) : Value := .agg #[.int .i64 x.frm, .bool x.send, .int .i64 x.msg, .int .i64 x.to]
theorem Mv.enc_len (x : Mv) : x.enc.length = 4 := rfl
theorem Mv.cells (x : Mv) : ∀ u ∈ x.enc, u.oneCell' = true := by
 intro u hu
 simp only [Mv.enc, List.mem_cons, List.not_mem_nil, or_false] at hu
 rcases hu with rfl | rfl | rfl | rfl <;> rfl
abbrev Mvs := Items Mv.enc 4
abbrev OwnM := OwnI Mv.enc 4
theorem mvs_at {w : World} {a : Option Addr} {n : Nat} {l : List Mv} (h : Mvs w a n l) {j : Nat} (hj : j < n) : ∃ b o x, a = some ⟨b, o, none⟩ ∧ l[j]? = some x ∧
  w.cell? ⟨b, o + j * 4, none⟩ = some (.int .i64 x.frm) ∧ w.cell? ⟨b, o + j * 4 + 1, none⟩ = some (.bool x.send) ∧ w.cell? ⟨b, o + j * 4 + 2, none⟩ = some (.int .i64 x.msg) ∧ w.cell? ⟨b, o + j * 4 + 3, none⟩ = some (.int .i64 x.to) := by
 obtain ⟨b, o, x, e, hl, hx⟩ := h.at_ hj
 exact ⟨b, o, x, e, hl, hx 0 _ rfl, hx 1 _ rfl, hx 2 _ rfl, hx 3 _ rfl⟩

def blEnc (x : Bool) : List Value := [.bool x]
theorem blEnc_len (x : Bool) : (blEnc x).length = 1 := rfl
theorem blEnc_one (x : Bool) : ∀ u ∈ blEnc x, u.oneCell' = true := by
 intro u hu
 simp only [blEnc, List.mem_cons, List.not_mem_nil, or_false] at hu
 rcases hu with rfl; rfl
abbrev Bls := Items blEnc 1
abbrev OwnBl := OwnI blEnc 1
theorem bls_at {w : World} {a : Option Addr} {n : Nat} {l : List Bool} (h : Bls w a n l) {j : Nat} (hj : j < n) : ∃ b o x, a = some ⟨b, o, none⟩ ∧ l[j]? = some x ∧ w.cell? ⟨b, o + j, none⟩ = some (.bool x) := by
 obtain ⟨b, o, x, e, hl, hx⟩ := h.at_ hj
 have := hx 0 _ rfl
 rw [Nat.mul_one, Nat.add_zero] at this
 exact ⟨b, o, x, e, hl, this⟩
theorem flat_bl (l : List Bool) : flatOf blEnc l = l.map Value.bool := by
 induction l with
 | nil => rfl
 | cons x t ih => show Value.bool x :: flatOf blEnc t = _; rw [ih]; rfl

theorem set4 (A : List Value) (p : Nat) (hA : A.length = p) (a b c d : Value) (R : List Value) (v0 v1 v2 v3 : Value) :
  ((((A ++ a :: b :: c :: d :: R).set p v0).set (p + 1) v1).set (p + 2) v2).set (p + 3) v3 = A ++ v0 :: v1 :: v2 :: v3 :: R := by
 subst hA
 rw [List.set_append_right _ _ (Nat.le_refl _), Nat.sub_self, List.set_cons_zero, List.set_append_right _ _ (by omega), List.set_append_right _ _ (by omega), List.set_append_right _ _ (by omega)]
 simp [show A.length + 1 - A.length = 1 by omega, show A.length + 2 - A.length = 2 by omega, show A.length + 3 - A.length = 3 by omega]
/-- Cells in a row of the call's own are there, whatever they hold. -/
theorem row_cell {w : World} {B : Nat} {t : TypeId} {s g n cap : Nat} {xs : List Value} (h : w.ownsRow B t s (.slice (some ⟨g, 0, none⟩) n cap) n xs) {k : Nat} (hk : k < n * s) : ∃ u, w.cell? ⟨g, k, none⟩ = some u := by
 rw [h.cellAt k hk]
 have : k < xs.length := by rw [h.1]; exact hk
 exact ⟨_, List.getElem?_eq_getElem this⟩

end Go.Proofs.Ytckmgbobkffabaa
namespace Go.Proofs.Ytckmgbobkffabaa
open Go.ChangeShapes Go.WideShapes Go.ChangeAt Go.RowKit
set_option linter.unusedVariables false

/-- Only blocks from lo on and below hi have changed, or are new. -/
structure Inside (lo hi : Nat) (w w' : World) : Prop where
 os : w'.os = w.os
 tape : w'.tape = w.tape
 output : w'.output = w.output
 size : w.heap.size ≤ w'.heap.size
 block : ∀ k, k < w.heap.size → k < lo ∨ hi ≤ k → w'.heap[k]? = w.heap[k]?
theorem Inside.refl (lo hi : Nat) (w : World) : Inside lo hi w w := ⟨rfl, rfl, rfl, Nat.le_refl _, fun _ _ _ => rfl⟩
theorem Inside.trans {lo hi : Nat} {a b c : World} (h : Inside lo hi a b) (k : Inside lo hi b c) : Inside lo hi a c :=
 ⟨k.os.trans h.os, k.tape.trans h.tape, k.output.trans h.output, Nat.le_trans h.size k.size, fun i hi hr => (k.block i (Nat.lt_of_lt_of_le hi h.size) hr).trans (h.block i hi hr)⟩
theorem Inside.row {lo hi : Nat} {w w' : World} {row : Option Nat} (h : w.grownBy w' row) (hr : ∀ r, row = some r → lo ≤ r ∧ r < hi) : Inside lo hi w w' :=
 ⟨h.os, h.tape, h.output, h.size, fun k hk hd => h.block k hk fun e => by have := hr k e.symm; omega⟩
theorem Inside.to {lo hi B0 : Nat} {w0 w w' : World} (h : Inside lo hi w w') (hb : Below B0 w0 w) (h0 : B0 ≤ lo) (h1 : B0 ≤ w.heap.size) : Below B0 w0 w' :=
 hb.trans ⟨h.os, h.tape, h.output, h.size, fun k hk => h.block k (by omega) (Or.inl (by omega))⟩
theorem Inside.below {lo hi : Nat} {a b c : World} (h : Inside lo hi a b) (k : Below a.heap.size b c) : Inside lo hi a c :=
 ⟨k.os.trans h.os, k.tape.trans h.tape, k.output.trans h.output, Nat.le_trans h.size k.size, fun i hi hr => (k.block i hi).trans (h.block i hi hr)⟩
section
variable {w w' : World} {B S n c lo hi : Nat} {a : Option Addr}
/-- The one block of a row, as it was. -/
theorem Inside.one (h : Inside lo hi w w') (ad : Addr) (hd : ad.block < lo ∨ hi ≤ ad.block) (hs : ad.block < w.heap.size) : ∃ w2 : World, w.grownBy w2 none ∧ w2.heap[ad.block]? = w'.heap[ad.block]? := ⟨w, grown_below (Below.refl _ _) _, (h.block _ hs hd).symm⟩
theorem row_aside {t : TypeId} {s : Nat} {v : Value} {xs : List Value} (h : w.ownsRow B t s v n xs) (hg : Inside lo hi w w') (hd : ∀ r, v.ownBlock = some r → r < lo ∨ hi ≤ r) : w'.ownsRow B t s v n xs := by
 refine ⟨h.1, ?_⟩
 rcases h.2 with hn | ⟨g, cap, cur, rfl, hb, hgg, rest⟩
 ·exact .inl hn
 ·refine .inr ⟨g, cap, cur, rfl, hb, ?_, rest⟩
  rw [hg.block g (Array.getElem?_eq_some_iff.1 hgg).1 (hd g rfl)]
  exact hgg
theorem block_of {p : Option Addr} {m d r : Nat} (h : Value.ownBlock (.slice p m d) = some r) : ∃ ad, p = some ad ∧ ad.block = r := by
 cases p with
 | none => simp [Value.ownBlock] at h
 | some ad => simp only [Value.ownBlock, Option.some.injEq] at h; exact ⟨ad, rfl, h⟩
theorem Own.aside {k : IntKind} {t : TypeId} {m d lo' hi' : Nat} {p : Option Addr} {y : List Int} (h : Own k t w B p m d y) (hg : Inside lo hi w w') (s : Span p lo' hi') (hd : hi ≤ lo' ∨ hi' ≤ lo) : Own k t w' B p m d y :=
 ⟨h.1, row_aside h.2 hg fun r e => by
  obtain ⟨ad, e1, rfl⟩ := block_of e
  have := s ad e1
  omega⟩
theorem OwnI.aside {α : Type} {enc : α → List Value} {s : Nat} {t : TypeId} {m d lo' hi' : Nat} {p : Option Addr} {y : List α} (h : OwnI enc s t w B p m d y) (hg : Inside lo hi w w') (sp : Span p lo' hi') (hd : hi ≤ lo' ∨ hi' ≤ lo) : OwnI enc s t w' B p m d y :=
 ⟨h.1, row_aside h.2 hg fun r e => by
  obtain ⟨ad, e1, rfl⟩ := block_of e
  have := sp ad e1
  omega⟩
end
end Go.Proofs.Ytckmgbobkffabaa
