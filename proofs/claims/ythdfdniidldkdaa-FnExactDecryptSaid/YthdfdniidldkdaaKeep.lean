/- A map that the call itself has made, of which every entry meets G; a variable of many cells, stored and read whole. No function of the program is spoken of. -/
import Derived.Test.YthdfdniidldkdaaMem
import Derived.Maps.OwnOps
import Derived.Deep.RegionHeld3
import Derived.Laws.Tables
import Derived.Laws.Rows
namespace Go.Proofs.Ythdfdniidldkdaa
open Go.ChangeShapes Go.WideShapes Go.ChangeAt Go.RowKit
open Go.ChangeMaps Go.MapKept
open Go.WideElems (Fit rd rg pl rd_val)
open Go.Maps (Keyed)
set_option linter.unusedVariables false

/-- What an entry holds is not looked at by the reader: G speaks of it. -/
abbrev unread (_ : Value) : Option (DataW Unit × List MemPlace) := some (.nil, [])
/-- Block b is a map of at most n entries, and every one of them meets G. -/
def Keeps (P : Program) (k : TypeId) (w : World) (b n : Nat) (G : Value → Value → Prop) : Prop :=
  ∃ es clock, w.heap[b]? = some (.map es clock) ∧ Fit P k unread es clock ∧ es.size ≤ n ∧ ∀ x ∈ es.toList, G x.key x.val

section
variable {P : Program} {k t e : TypeId} {w w' : World} {b n : Nat} {G : Value → Value → Prop}
theorem Keeps.made (w : World) (P : Program) (k : TypeId) (G : Value → Value → Prop) : Keeps P k (w.alloc (.map #[] 0)) w.heap.size 0 G :=
  ⟨#[], 0, (MapKept.heap_alloc w _).1, ⟨by simp, stamped_empty 0, by simp⟩, Nat.le_refl _, by simp⟩
theorem Keeps.of_heap (h : Keeps P k w b n G) (e : w'.heap[b]? = w.heap[b]?) : Keeps P k w' b n G := by
  obtain ⟨es, clock, h1, h2⟩ := h
  exact ⟨es, clock, e.trans h1, h2⟩
theorem Keeps.lt (h : Keeps P k w b n G) : b < w.heap.size := by
  obtain ⟨es, clock, h1, _⟩ := h
  exact (Array.getElem?_eq_some_iff.1 h1).1
theorem Keeps.mono (h : Keeps P k w b n G) {n' : Nat} (hn : n ≤ n') : Keeps P k w b n' G := by
  obtain ⟨es, clock, h1, h2, h3, h4⟩ := h
  exact ⟨es, clock, h1, h2, Nat.le_trans h3 hn, h4⟩
theorem Keeps.look (h : Keeps P k w b n G) (K : Keyed P k) (ht : P.underlying t = some (.map k e)) {z : Value} (hz : (zeroValue e).run P w = .ok z w) {key : Value} {kl : Lit} (hkey : keyOf P k key = some kl) :
    (Instr.lookup t (.map (some b)) key true).run P w = .ok (.tuple #[z, .bool false]) w ∨ ∃ v, (Instr.lookup t (.map (some b)) key true).run P w = .ok (.tuple #[v, .bool true]) w ∧ G key v := by
  obtain ⟨es, clock, hb, F, _, hG⟩ := h
  rcases Maps.fit_look true K ht hz hb F hkey with ⟨h1, _, _⟩ | ⟨e0, y, hm, he, hr, _⟩
  · exact Or.inl h1
  · exact Or.inr ⟨e0.val, hr, by rw [← he]; exact hG e0 hm⟩
theorem Keeps.put (h : Keeps P k w b n G) (K : Keyed P k) (ht : P.underlying t = some (.map k e)) (hn : n < maxLen) {key val : Value} {kl : Lit} (hkey : keyOf P k key = some kl) (hv : G key val) :
    ∃ w', (Instr.mapUpdate t (.map (some b)) key val).run P w = .ok () w' ∧ Keeps P k w' b (n + 1) G ∧ w.grownBy w' (some b) := by
  obtain ⟨es, clock, hb, F, hs, hG⟩ := h
  obtain ⟨es', clock', hrun, F', hput, _, _, hwho⟩ := Maps.fit_store (R' := unread) (yv := (.nil, [])) (val := val) K ht hb F (Nat.lt_of_le_of_lt hs hn) (fun _ _ _ _ hz => hz) hkey rfl
  refine ⟨_, hrun, ⟨es', clock', heap_setBlock_same hb _, F', ?_, ?_⟩, ⟨rfl, rfl, rfl, by simp [setBlock], fun i _ hi => heap_setBlock_other hb _ (fun e => hi (by rw [e]))⟩⟩
  · have e1 : es'.size = ((es'.toList.map (rg P k unread)).foldr DataW.insert []).length := by rw [length_sorted]; simp
    rw [e1, hput]
    unfold putKey
    rw [length_insert]
    have e2 := List.length_filter_le (notKey kl) ((es.toList.map (rg P k unread)).foldr DataW.insert [])
    rw [length_sorted] at e2
    simp at e2
    omega
  · intro x hx
    rcases hwho x hx with ⟨h1, _⟩ | ⟨h1, h2⟩
    · exact hG x h1
    · rw [h1, h2]; exact hv
end

section
variable {P : Program} (w : World)
theorem wpl_put {ops : Array Oper} {rest : List Oper} {o : Oper} {a : Act} {Q : Exit → Act → World → Prop} (hg : o.guard = none) (m x v : Operand) (t : TypeId) (hop : o.op = Op.mapUpdate t m x v)
    (k e : TypeId) (K : Keyed P k) (ht : P.underlying t = some (.map k e)) (b n : Nat) (G : Value → Value → Prop)
    (hm : a.eval m = .map (some b)) (hk : Keeps P k w b n G) (hn : n < maxLen) (key val : Value) (kl : Lit) (hx : a.eval x = key) (hv : a.eval v = val) (hkey : keyOf P k key = some kl) (hG : G key val)
    (hK : ∀ w', Keeps P k w' b (n + 1) G → w.grownBy w' (some b) → wpList P ops Q rest (a.put o.dst undef) w') :
    wpList P ops Q (o :: rest) a w := by
  refine wpList_plain hg fun K' hK' => ?_
  obtain ⟨w', hrun, r1, r2⟩ := hk.put K ht hn hkey hG
  unfold Oper.wp
  simp [execOp, hop, hm, hx, hv, hrun, Result.andThen]
  exact hK' _ _ (hK w' r1 r2)

/-- A variable of many cells is stored whole. -/
theorem wpl_store_whole {ops : Array Oper} {rest : List Oper} {o : Oper} {a : Act} {Q : Exit → Act → World → Prop} (hgd : o.guard = none) (ty : TypeId) (x y : Operand) (ho : o.op = .store ty x y)
    (g : Nat) (cells : Array Value) (hx : a.eval x = .pointer (some ⟨g, 0, none⟩)) (hy : a.eval y = .agg cells)
    (t : TypeId) (old : Array Value) (hg : w.heap[g]? = some (.cells old t (0, 0))) (hi : (P.info? ty).map (·.size) = some cells.size)
    (hold : old.size = cells.size) (h1 : cells.all (·.oneCell') = true)
    (h : ∀ w', w'.heap[g]? = some (.cells cells t (0, 0)) → w.grownBy w' (some g) → wpList P ops Q rest (a.put o.dst undef) w') : wpList P ops Q (o :: rest) a w :=
  wpList_store_row hgd ty x y ho g cells hx hy t old hg hi hold h1 (h _ (setRow_heap w g old cells t _ hg) ⟨rfl, rfl, rfl, by simp, fun i _ hi => setRow_other w g i cells (fun e => hi (by rw [e]))⟩)
end
end Go.Proofs.Ythdfdniidldkdaa
