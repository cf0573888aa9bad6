/- Lists of fields that are being drawn: what a step of the cursor leaves; one number stored into one of them. -/
import Derived.Test.YtckmgbobkffabaaDr
import Derived.Test.YtckmgbobkffabaaItemsA
namespace Go.Proofs.Ytckmgbobkffabaa
open Go.ChangeShapes Go.WideShapes Go.ChangeAt Go.RowKit
set_option linter.unusedVariables false

section
variable {α : Type} {enc : α → List Value} {s : Nat}
/-- A step of the cursor leaves what lies in other blocks. -/
theorem OwnI.only {t : TypeId} {w w' : World} {B n c b lo hi : Nat} {a : Option Addr} {l : List α} (h : OwnI enc s t w B a n c l) (ho : Only b w w') (sp : Span a lo hi) (hd : b < lo ∨ hi ≤ b) : OwnI enc s t w' B a n c l := by
  have hg := only_grown ho
  cases a with
  | none => exact ⟨h.1, h.2.kept hg (Or.inl rfl)⟩
  | some ad =>
    have h1 := sp ad rfl
    refine ⟨h.1, h.2.kept hg (Or.inr ?_)⟩
    simp only [Value.ownBlock, ne_eq, Option.some.injEq]
    omega
variable {P : Program} (w : World)
/-- Nothing is appended. -/
theorem run_app_nothingI (B : Nat) (t ty e : TypeId) (i : TypeInfo) (ht : P.underlying t = some (.slice e)) (hi : P.info? e = some i) {v : Value} {n : Nat} {xs : List Value} (hown : w.ownsRow B e s v n xs) (d : Nat) :
    (Builtin.append_ #[t, t] ty #[v, .slice none 0 d]).run P w = .ok v w := by
  rcases hown.2 with ⟨rfl, rfl⟩ | ⟨g, cap, cur, rfl, _, _, hle, _⟩
  · simp [Builtin.append_, run_underlying ht, sizeOf, typeInfo, hi, Builtin.lenOf, Builtin.firstCells]
  · simp [Builtin.append_, run_underlying ht, sizeOf, typeInfo, hi, Builtin.lenOf, Builtin.firstCells, hle, storeCells]
end

def Fd.put (x : Fd) (k : Nat) (v : Int) : Fd := match k with
  | 0 => { x with kind := v }
  | 1 => { x with max := v }
  | 2 => { x with cond := v }
  | _ => { x with is := v }
theorem Fd.put_enc (x : Fd) (k : Nat) (hk : k < 4) (v : Int) : (x.put k v).enc = x.enc.set k (.int .i64 v) := by
  match k, hk with
  | 0, _ => rfl
  | 1, _ => rfl
  | 2, _ => rfl
  | 3, _ => rfl
theorem flat_put : ∀ (l : List Fd) (i k : Nat) (x : Fd) (v : Int), l[i]? = some x → k < 4 → (flatOf Fd.enc l).set (i * 4 + k) (.int .i64 v) = flatOf Fd.enc (l.set i (x.put k v))
  | [], i, k, x, v, h, hk => by simp at h
  | y :: t, 0, k, x, v, h, hk => by
    have : y = x := by simpa using h
    subst this
    have e : flatOf Fd.enc (y :: t) = y.enc ++ flatOf Fd.enc t := by simp [flatOf]
    rw [e, Nat.zero_mul, Nat.zero_add, List.set_append_left _ _ (by rw [Fd.enc_len]; exact hk), ← Fd.put_enc y k hk v, List.set_cons_zero]
    simp [flatOf]
  | y :: t, i + 1, k, x, v, h, hk => by
    have ih := flat_put t i k x v (by simpa using h) hk
    have e : flatOf Fd.enc (y :: t) = y.enc ++ flatOf Fd.enc t := by simp [flatOf]
    rw [e, List.set_append_right _ _ (by rw [Fd.enc_len]; omega), Fd.enc_len, show (i + 1) * 4 + k - 4 = i * 4 + k by omega, ih, List.set_cons_succ]
    simp [flatOf]
/-- Each Max is an integer of 64 bits. -/
def FM (l : List Fd) : Prop := ∀ x ∈ l, I64 x.max
/-- One number is stored into a list of the call's own. -/
theorem ownf_put {t : TypeId} {w : World} {B g n c : Nat} {l : List Fd} (h : OwnF t w B (some ⟨g, 0, none⟩) n c l) {i : Nat} (hi : i < n) (k : Nat) (hk : k < 4) (v : Int) :
    ∃ l', OwnF t (w.setCell ⟨g, i * 4 + k, none⟩ (.int .i64 v)) B (some ⟨g, 0, none⟩) n c l' ∧ w.grownBy (w.setCell ⟨g, i * 4 + k, none⟩ (.int .i64 v)) (some g) ∧ (FM l → I64 v → FM l') := by
  have hs := h.2.stored (i * 4 + k) (.int .i64 v)
  have hl : i < l.length := by rw [h.1]; exact hi
  rw [flat_put l i k _ v (List.getElem?_eq_getElem hl) hk] at hs
  refine ⟨_, ⟨by rw [List.length_set]; exact h.1, hs.1⟩, hs.2, fun hf hv x hx => ?_⟩
  obtain ⟨j, hj⟩ := List.getElem?_of_mem hx
  by_cases e : j = i
  · subst e
    rw [List.getElem?_set_self hl] at hj
    cases hj
    have h0 := hf (l[j]) (List.getElem_mem hl)
    match k, hk with
    | 0, _ => exact h0
    | 1, _ => exact hv
    | 2, _ => exact h0
    | 3, _ => exact h0
  · rw [List.getElem?_set_ne (by omega)] at hj
    exact hf x (List.mem_of_getElem? hj)
/-- A write to a slice of the call's own leaves the cursor. -/
theorem Curs.far {u w : World} {b g : Nat} {a : Option Addr} {n c : Nat} (h : Curs u b a n c) (hg : u.grownBy w (some g)) (h0 : g ≠ b) {v : World} (hv : Curs v b a n c) (hd : Drawn b a n c v u) (hgv : v.heap.size ≤ g) : Drawn b a n c v w :=
  hd.under hv (B := v.heap.size) ⟨hg.os, hg.tape, hg.output, hg.size, fun k hk => hg.block k (Nat.lt_of_lt_of_le hk hd.2.size) (fun e => by cases e; omega)⟩ (Nat.le_refl _)
end Go.Proofs.Ytckmgbobkffabaa
