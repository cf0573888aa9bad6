/- Moves: from, whether it sends, the message, to; their four cells. Bools: one cell each. No function of the program is spoken of. -/
import Derived.Test.YtckmgbobkffabaaItems
namespace Go.Proofs.Ytckmgbobkffabaa
open Go.ChangeShapes Go.WideShapes Go.ChangeAt Go.RowKit
set_option linter.unusedVariables false

structure Mv where
  frm : Int
  send : Bool
  msg : Int
  to : Int
deriving DecidableEq
instance : Inhabited Mv := ⟨⟨0, false, 0, 0⟩⟩
def Mv.enc (x : Mv) : List Value := [.int .i64 x.frm, .bool x.send, .int .i64 x.msg, .int .i64 x.to]
def Mv.val (x : Mv) : Value := .agg #[.int .i64 x.frm, .bool x.send, .int .i64 x.msg, .int .i64 x.to]
theorem Mv.enc_len (x : Mv) : x.enc.length = 4 := rfl
theorem Mv.cells (x : Mv) : ∀ u ∈ x.enc, u.oneCell' = true := by
  intro u hu
  simp only [Mv.enc, List.mem_cons, List.not_mem_nil, or_false] at hu
  rcases hu with rfl | rfl | rfl | rfl <;> rfl
abbrev Mvs := Items Mv.enc 4
abbrev OwnM := OwnI Mv.enc 4
theorem mvs_at {w : World} {a : Option Addr} {n : Nat} {l : List Mv} (h : Mvs w a n l) {j : Nat} (hj : j < n) : ∃ b o x, a = some ⟨b, o, none⟩ ∧ l[j]? = some x ∧
    w.cell? ⟨b, o + j * 4, none⟩ = some (.int .i64 x.frm) ∧ w.cell? ⟨b, o + j * 4 + 1, none⟩ = some (.bool x.send) ∧ w.cell? ⟨b, o + j * 4 + 2, none⟩ = some (.int .i64 x.msg) ∧ w.cell? ⟨b, o + j * 4 + 3, none⟩ = some (.int .i64 x.to) := by
  obtain ⟨b, o, x, e, hl, hx⟩ := h.at_ hj
  exact ⟨b, o, x, e, hl, hx 0 _ rfl, hx 1 _ rfl, hx 2 _ rfl, hx 3 _ rfl⟩

def blEnc (x : Bool) : List Value := [.bool x]
theorem blEnc_len (x : Bool) : (blEnc x).length = 1 := rfl
theorem blEnc_one (x : Bool) : ∀ u ∈ blEnc x, u.oneCell' = true := by
  intro u hu
  simp only [blEnc, List.mem_cons, List.not_mem_nil, or_false] at hu
  rcases hu with rfl; rfl
abbrev Bls := Items blEnc 1
abbrev OwnBl := OwnI blEnc 1
theorem bls_at {w : World} {a : Option Addr} {n : Nat} {l : List Bool} (h : Bls w a n l) {j : Nat} (hj : j < n) : ∃ b o x, a = some ⟨b, o, none⟩ ∧ l[j]? = some x ∧ w.cell? ⟨b, o + j, none⟩ = some (.bool x) := by
  obtain ⟨b, o, x, e, hl, hx⟩ := h.at_ hj
  have := hx 0 _ rfl
  rw [Nat.mul_one, Nat.add_zero] at this
  exact ⟨b, o, x, e, hl, this⟩
theorem flat_bl (l : List Bool) : flatOf blEnc l = l.map Value.bool := by
  induction l with
  | nil => rfl
  | cons x t ih => show Value.bool x :: flatOf blEnc t = _; rw [ih]; rfl

theorem set4 (A : List Value) (p : Nat) (hA : A.length = p) (a b c d : Value) (R : List Value) (v0 v1 v2 v3 : Value) :
    ((((A ++ a :: b :: c :: d :: R).set p v0).set (p + 1) v1).set (p + 2) v2).set (p + 3) v3 = A ++ v0 :: v1 :: v2 :: v3 :: R := by
  subst hA
  rw [List.set_append_right _ _ (Nat.le_refl _), Nat.sub_self, List.set_cons_zero, List.set_append_right _ _ (by omega), List.set_append_right _ _ (by omega), List.set_append_right _ _ (by omega)]
  simp [show A.length + 1 - A.length = 1 by omega, show A.length + 2 - A.length = 2 by omega, show A.length + 3 - A.length = 3 by omega]
/-- Cells in a row of the call's own are there, whatever they hold. -/
theorem row_cell {w : World} {B : Nat} {t : TypeId} {s g n cap : Nat} {xs : List Value} (h : w.ownsRow B t s (.slice (some ⟨g, 0, none⟩) n cap) n xs) {k : Nat} (hk : k < n * s) : ∃ u, w.cell? ⟨g, k, none⟩ = some u := by
  rw [h.cellAt k hk]
  have : k < xs.length := by rw [h.1]; exact hk
  exact ⟨_, List.getElem?_eq_getElem this⟩

end Go.Proofs.Ytckmgbobkffabaa
