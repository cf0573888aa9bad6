/- Elements of any kind are copied into a slice of the call's own. No function of the program is spoken of. -/
import Derived.Test.YtjkjnhkamieljaaItemsA
import Derived.Laws.CopyOwn
namespace Go.Proofs.Ytjkjnhkamieljaa
open Go.ChangeShapes Go.WideShapes Go.ChangeAt Go.RowKit
set_option linter.unusedVariables false

section
variable {P : Program} {α : Type} {enc : α → List Value} {s : Nat}
theorem flat_one (h1 : ∀ x, ∀ u ∈ enc x, u.oneCell' = true) (l : List α) : ∀ v ∈ flatOf enc l, v.oneCell' = true := by
  intro v hv
  obtain ⟨x, _, hx⟩ := List.mem_flatMap.1 hv
  exact h1 x v hx
/-- The run of a copy of the first elements into a row that is known. -/
theorem run_copyI (hs : ∀ x, (enc x).length = s) (h0 : 0 < s) (h1 : ∀ x, ∀ u ∈ enc x, u.oneCell' = true) (w : World) (dT sT ty e : TypeId) (i : TypeInfo) (hu : P.underlying dT = some (.slice e)) (hi : P.info? e = some i) (hsize : i.size = s)
    {B g n k d : Nat} {a : Option Addr} {l : List α} {zs : List Value} (hown : w.ownsRow B e s (.slice (some ⟨g, 0, none⟩) n n) n zs) (hsrc : Items enc s w a k l) :
    ∃ w', (Builtin.copy_ #[dT, sT] ty #[.slice (some ⟨g, 0, none⟩) n n, .slice a k d]).run P w = .ok (goInt (Nat.min k n : Nat)) w' ∧ OwnI enc s e w' B (some ⟨g, 0, none⟩) (Nat.min k n) n (l.take n) ∧ Below B w w' := by
  obtain ⟨hl0, hz⟩ := hown
  rcases hz with ⟨hz, _⟩ | ⟨g', cap, cur, hv, hB, hg, hn, hcap, hcur, htake⟩
  · cases hz
  cases hv
  have hlen : (l.take n).length = Nat.min k n := by
    rw [List.length_take, hsrc.len]
    exact Nat.min_comm _ _
  have htk : l.take (Nat.min k n) = l.take n := by
    rcases Nat.le_total n k with h2 | h2
    · rw [show Nat.min k n = n from Nat.min_eq_right h2]
    · rw [show Nat.min k n = k from Nat.min_eq_left h2, List.take_of_length_le (by rw [hsrc.len]; exact Nat.le_refl _), List.take_of_length_le (by rw [hsrc.len]; exact h2)]
  have hcl : (flatOf enc (l.take n)).length = Nat.min k n * s := by rw [flatOf_len hs, hlen]
  have hfit : 0 + 0 + (flatOf enc (l.take n)).length ≤ cur.size := by
    rw [hcl, hcur]
    have : Nat.min k n * s ≤ n * s := Nat.mul_le_mul_right _ (Nat.min_le_right _ _)
    omega
  have hst := run_storeCells_at P g 0 e (flatOf enc (l.take n)) 0 cur w hg hfit (flat_one h1 _)
  refine ⟨w.setRow g (cur.toList.take (0 + 0) ++ flatOf enc (l.take n) ++ cur.toList.drop (0 + 0 + (flatOf enc (l.take n)).length)).toArray, ?_, ?_, ?_⟩
  · have hsz : (sizeOf e).run P w = .ok s w := by simp [sizeOf, typeInfo, hi, hsize]
    cases a with
    | none =>
      have hk : k = 0 := by
        cases l with
        | nil => simpa using hsrc.len.symm
        | cons x r => obtain ⟨b, o, e0, _⟩ := hsrc.cell 0 x rfl; cases e0
      subst hk
      have hl : l = [] := List.eq_nil_of_length_eq_zero hsrc.len
      subst hl
      have hm : Nat.min 0 n = 0 := Nat.min_eq_left (Nat.zero_le _)
      simp [Builtin.copy_, run_underlying hu, Builtin.lenOf, Builtin.firstCells, sizeOf, typeInfo, hi, hm, flatOf, storeCells]
      exact (setRow_self w g cur e _ hg).symm
    | some ad =>
      have hld : (loadCells ad (Nat.min k n * s)).run P w = .ok (flatOf enc (l.take n)).toArray w := by
        rw [← hcl]
        refine run_loadCells_list (P := P) w ad _ ?_
        intro j v hj
        have hk : Items enc s w (some ad) (Nat.min k n) (l.take n) := by rw [← htk]; exact hsrc.take _ (Nat.min_le_left _ _)
        cases hl : l.take n with
        | nil => rw [hl] at hj; simp [flatOf] at hj
        | cons x r =>
          obtain ⟨b, o, e0, _⟩ := hk.cell 0 x (by rw [hl]; rfl)
          cases e0
          have := items_flat hs h0 hk j v hj
          exact this
      simp [Builtin.copy_, run_underlying hu, Builtin.lenOf, Builtin.firstCells, sizeOf, typeInfo, hi, hsize, hld, hst]
  · refine ⟨hlen, hcl, Or.inr ⟨g, n, _, rfl, hB, setRow_heap w g cur _ e _ hg, Nat.min_le_right _ _, hcap, ?_, ?_⟩⟩
    · simp
      rw [hcur]
      omega
    · rw [← hcl]
      simp
  · exact below_setRow (Below.refl _ _) hB _
theorem wpl_copyI (hs : ∀ x, (enc x).length = s) (h0 : 0 < s) (h1 : ∀ x, ∀ u ∈ enc x, u.oneCell' = true) {w : World} {ops : Array Oper} {rest : List Oper} {o : Oper} {act : Act} {Q : Exit → Act → World → Prop} (hgd : o.guard = none) (q x : Operand) (t t' : TypeId)
    (ho : o.op = .call { callee := .builtin .copy, args := #[q, x], argTypes := #[t, t'] })
    (e : TypeId) (i : TypeInfo) (ht : P.underlying t = some (.slice e)) (hi : P.info? e = some i) (hsize : i.size = s)
    {B g n k d : Nat} {a : Option Addr} {l : List α} {zs : List Value} (hq : act.eval q = .slice (some ⟨g, 0, none⟩) n n) (hown : w.ownsRow B e s (.slice (some ⟨g, 0, none⟩) n n) n zs) (hx : act.eval x = .slice a k d) (hsrc : Items enc s w a k l)
    (h : ∀ m w', m = Nat.min k n → OwnI enc s e w' B (some ⟨g, 0, none⟩) m n (l.take n) → Below B w w' → wpList P ops Q rest (act.put o.dst (.int .i64 (m : Nat))) w') : wpList P ops Q (o :: rest) act w := by
  refine wpList_plain hgd fun K hK => ?_
  obtain ⟨w', hr, h2, h3⟩ := run_copyI (P := P) (d := d) hs h0 h1 w t t' o.type e i ht hi hsize hown hsrc
  unfold Oper.wp
  simp [execOp, ho, resolve, invoke, builtin, hq, hx, hr, Result.andThen]
  exact hK _ _ (h _ _ rfl h2 h3)
end
end Go.Proofs.Ytjkjnhkamieljaa
