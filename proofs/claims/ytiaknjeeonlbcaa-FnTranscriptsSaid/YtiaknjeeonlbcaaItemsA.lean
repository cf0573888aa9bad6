/- Elements of any kind are appended to a slice of the call's own. No function of the program is spoken of. -/
import Derived.Test.YtiaknjeeonlbcaaItems
namespace Go.Proofs.Ytiaknjeeonlbcaa
open Go.ChangeShapes Go.WideShapes Go.ChangeAt Go.RowKit
set_option linter.unusedVariables false

section
variable {α : Type} {enc : α → List Value} {s : Nat}
theorem flatOf_one (x : α) : flatOf enc [x] = enc x := by simp [flatOf]
theorem items_flat (hs : ∀ x, (enc x).length = s) (h0 : 0 < s) {w : World} {b o m : Nat} {l : List α} (h : Items enc s w (some ⟨b, o, none⟩) m l) : ∀ p u, (flatOf enc l)[p]? = some u → w.cell? ((⟨b, o, none⟩ : Addr).add p) = some u := by
  intro p u hp
  have hlt : p < l.length * s := by
    rcases Nat.lt_or_ge p (l.length * s) with h1 | h1
    · exact h1
    · rw [List.getElem?_eq_none (by rw [flatOf_len hs]; exact h1)] at hp; cases hp
  have hj : p / s < l.length := Nat.div_lt_of_lt_mul (by rw [Nat.mul_comm]; exact hlt)
  have hi : p % s < s := Nat.mod_lt _ h0
  have e : p / s * s + p % s = p := by rw [Nat.mul_comm]; exact Nat.div_add_mod p s
  have h2 := flatOf_at hs l (p / s) _ (p % s) (List.getElem?_eq_getElem hj) hi
  rw [e, hp] at h2
  obtain ⟨b', o', e', hc⟩ := h.cell (p / s) _ (List.getElem?_eq_getElem hj)
  cases e'
  have h3 := hc (p % s) u h2.symm
  rw [Nat.add_assoc, e] at h3
  have e2 : (⟨b, o, none⟩ : Addr).add p = ⟨b, o + p, none⟩ := by
    unfold Addr.add
    by_cases hq : p = 0 <;> simp [hq]
  rw [e2]
  exact h3
theorem items_new (hs : ∀ x, (enc x).length = s) (w : World) (x : α) (t : TypeId) : Items enc s (w.alloc (.cells (enc x).toArray t)) (some ⟨w.heap.size, 0, none⟩) 1 [x] :=
  ⟨rfl, by omega, fun j y hj => by
    have hj0 : j = 0 := by
      rcases Nat.eq_zero_or_pos j with h | h
      · exact h
      · rw [List.getElem?_eq_none (by simp; omega)] at hj; cases hj
    subst hj0
    have : y = x := by simpa using hj.symm
    subst this
    refine ⟨_, _, rfl, fun i v hv => ?_⟩
    unfold World.cell?
    rw [show (⟨w.heap.size, 0 + 0 * s + i, none⟩ : Addr).block = w.heap.size from rfl, heap_alloc_new]
    simpa using hv⟩
variable {P : Program} (w : World)
theorem run_appI (hs : ∀ x, (enc x).length = s) (h0 : 0 < s) (h1 : ∀ x, ∀ u ∈ enc x, u.oneCell' = true) (t ty e : TypeId) (i : TypeInfo) (z : Value) (bytes : Nat) (ht : P.underlying t = some (.slice e)) (hi : P.info? e = some i) (hz : i.zero = some z) (hsize : i.size = s) (hby : i.bytes = bytes) (hzs : z.cells.size = s)
    {B n c m d b o : Nat} {a : Option Addr} {l l' : List α} (ho : OwnI enc s e w B a n c l) (hn : Items enc s w (some ⟨b, o, none⟩) m l') (hbytes : (n + m) * bytes ≤ 140737488355328) (h63 : n + m ≤ maxLen) (hB : B ≤ w.heap.size) :
    ∃ a' c' w', (Builtin.append_ #[t, t] ty #[.slice a n c, .slice (some ⟨b, o, none⟩) m d]).run P w = .ok (.slice a' (n + m) c') w' ∧ OwnI enc s e w' B a' (n + m) c' (l ++ l') ∧ w.grownBy w' (Value.ownBlock (.slice a n c)) := by
  obtain ⟨v', w', hr, h2, h3, _, _⟩ := run_append_own_at (P := P) w B t ty e i z s bytes ht hi hz hsize hby hzs h0 (.slice a n c) n (flatOf enc l) ho.2 ⟨b, o, none⟩ m d (flatOf enc l') (by rw [flatOf_len hs, hn.len]) (items_flat hs h0 hn) (fun u hu => by
      obtain ⟨x, _, hx⟩ := List.mem_flatMap.1 hu
      exact h1 x u hx) h63 hbytes hB
  rw [← flatOf_app] at h2
  have hl : (l ++ l').length = n + m := by rw [List.length_append, ho.1, hn.len]
  rcases h2.2 with ⟨rfl, hn'⟩ | ⟨g, cap, cur, rfl, hrest⟩
  · exact ⟨none, 0, w', by rw [hn']; exact hr, ⟨hl, by rw [hn'] at h2 ⊢; exact h2⟩, h3⟩
  · exact ⟨_, cap, w', hr, ⟨hl, h2⟩, h3⟩
theorem wpl_appI (hs : ∀ x, (enc x).length = s) (h0 : 0 < s) (h1 : ∀ x, ∀ u ∈ enc x, u.oneCell' = true) {ops : Array Oper} {rest : List Oper} {o : Oper} {act : Act} {Q : Exit → Act → World → Prop} (hgd : o.guard = none) (q x : Operand) (t : TypeId)
    (ho : o.op = .call { callee := .builtin .append, args := #[q, x], argTypes := #[t, t] })
    (e : TypeId) (i : TypeInfo) (z : Value) (bytes : Nat) (ht : P.underlying t = some (.slice e)) (hi : P.info? e = some i) (hz : i.zero = some z) (hsize : i.size = s) (hby : i.bytes = bytes) (hzs : z.cells.size = s)
    {B n c m d b off : Nat} {a : Option Addr} {l l' : List α} (hq : act.eval q = .slice a n c) (hown : OwnI enc s e w B a n c l) (hx : act.eval x = .slice (some ⟨b, off, none⟩) m d) (hnew : Items enc s w (some ⟨b, off, none⟩) m l')
    (hb1 : 0 < bytes) (hbytes : (n + m) * bytes ≤ 140737488355328) (hB : B ≤ w.heap.size)
    (h : ∀ a' c' w', OwnI enc s e w' B a' (n + m) c' (l ++ l') → Below B w w' → wpList P ops Q rest (act.put o.dst (.slice a' (n + m) c')) w') : wpList P ops Q (o :: rest) act w := by
  refine wpList_plain hgd fun K hK => ?_
  have h63 : n + m ≤ maxLen := by
    have := Nat.mul_le_mul_left (n + m) hb1
    unfold maxLen
    omega
  obtain ⟨a', c', w', hr, h2, h3⟩ := run_appI (P := P) (d := d) w hs h0 h1 t o.type e i z bytes ht hi hz hsize hby hzs hown hnew hbytes h63 hB
  unfold Oper.wp execOp
  simp only [ho, resolve, invoke, builtin, Sem.run_bind, Sem.run_pure, Result.andThen_ok, List.map_toArray, List.map_cons, List.map_nil, hq, hx, hr]
  exact hK _ _ (h a' c' w' h2 (grown_to h3 (Below.refl B w) hown.span (Nat.le_refl _) hB))
end
/-- Strings, as elements. -/
def strEnc (x : ByteArray) : List Value := [.string x]
theorem strEnc_len (x : ByteArray) : (strEnc x).length = 1 := rfl
theorem strEnc_one (x : ByteArray) : ∀ u ∈ strEnc x, u.oneCell' = true := by
  intro u hu
  have : u = .string x := by simpa [strEnc] using hu
  subst this
  rfl
end Go.Proofs.Ytiaknjeeonlbcaa
