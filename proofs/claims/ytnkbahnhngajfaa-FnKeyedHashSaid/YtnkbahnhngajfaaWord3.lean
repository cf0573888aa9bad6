/- The draw of a label under a key; append where it is guarded. -/
import Derived.Test.YtnkbahnhngajfaaWord2
namespace Go.Proofs.Ytnkbahnhngajfaa
open Go.ChangeShapes Go.WideShapes Go.ChangeAt Go.RowKit
set_option linter.unusedVariables false

theorem strNew (b : Nat) (a : Option Addr) (n c m : Nat) (hm : 1 ≤ m) (hm2 : (m : Int) ≤ 9223372036854775807) {cs : Array Value} (hcs : ∀ j, j < m → ∃ s : ByteArray, s.size ≤ 100 ∧ cs[j]? = some (.string s)) {T : TypeId} (w : World) (hc : Curs w b a n c) :
    Calls Try.prog 51 #[.pointer (some ⟨b, 0, none⟩), .slice (some ⟨w.heap.size, 0, none⟩) m m] (w.alloc (.cells cs T)) fun e w' => ∃ s : ByteArray, s.size ≤ 100 ∧ e = .returned (.string s) ∧ Drawn b a n c w w' := by
  have hlt := hc.lt
  refine (str_any b a n c w.heap.size m hm hm2 _ (hc.same (alloc_same _ _)) (by omega) (fun j hj => ?_)).mono ?_
  · obtain ⟨s, hs, hx⟩ := hcs j hj
    refine ⟨s, hs, ?_⟩
    have : (w.alloc (.cells cs T)).heap[w.heap.size]? = some (.cells cs T (0, 0)) := by show (w.heap.push _)[w.heap.size]? = _; simp
    rw [Joins.cell_of_block this, hx]
  · rintro e w1 ⟨s, hs, rfl, hd⟩
    exact ⟨s, hs, rfl, hd.1, ((Only.refl b w).alloc _).trans hd.2⟩

set_option maxRecDepth 100000 in
theorem drawDerive_any (a : Option Addr) (n c : Nat) (w : World) (hc : Code w a n) :
    Calls Try.prog 22 #[.slice a n c] w fun e w' => ∃ (k : Int) (s : ByteArray), e = .returned (.tuple #[.int .i64 k, .string s]) ∧ s.size ≤ 100 ∧ Word k ∧ Below w.heap.size w w' := by
  have H := Lib.hid hc
  clear hc
  go_enter Try.func22, Try.ntmps22
  go_wp2_with fail
  refine (new_any a n c H.out.2 _ H.out.1).mono ?_
  rintro e w1 ⟨rfl, hc1, hb1⟩
  have hlt := hc1.lt
  have H1 := Lib.hid hc1
  have HB := Lib.hid hb1
  clear hc1 hb1
  go_wp2_with fail
  refine (word_any w.heap.size a n c _ H1.out).mono ?_
  rintro e w2 ⟨k, rfl, hk, hd2⟩
  have HW := Lib.hid hk
  have H2 := Lib.hid hd2
  clear hd2 hk
  go_wp2_with fail
  refine (strNew w.heap.size a n c 6 (by omega) (by omega) (fun j hj => ?_) _ H2.out.1).mono ?_
  · rcases (show j = 0 ∨ j = 1 ∨ j = 2 ∨ j = 3 ∨ j = 4 ∨ j = 5 by omega) with rfl | rfl | rfl | rfl | rfl | rfl <;> exact ⟨_, by decide, rfl⟩
  rintro e w3 ⟨s, hs, rfl, hd3⟩
  have H3 := Lib.hid (H2.out.trans hd3)
  clear hd3
  go_wp2_with fail
  go_ret2
  exact ⟨k, s, rfl, hs, HW.out, HB.out.trans (H3.out.below (Nat.le_refl _) HB.out.size)⟩

theorem Own.cellHere {k : IntKind} {t : TypeId} {w : World} {B n c g : Nat} {l : List Int} (h : Own k t w B (some ⟨g, 0, none⟩) n c l) {j : Nat} {x : Int} (hx : l[j]? = some x) : w.cell? ⟨g, j, none⟩ = some (.int k x) ∧ w.frozen? ⟨g, j, none⟩ = false := by
  have hj : j < l.length := by
    rcases Nat.lt_or_ge j l.length with h1 | h1
    · exact h1
    · rw [List.getElem?_eq_none h1] at hx; cases hx
  refine ⟨?_, h.2.frozenAt j⟩
  rw [h.2.cellAt j (by have := h.1; omega), List.getElem?_map, hx]
  rfl
/-- Integers are appended where a guard that holds stands ahead. -/
theorem wpl_app_when {P : Program} (w : World) {ops : Array Oper} {rest : List Oper} {o : Oper} {act : Act} {Q : Exit → Act → World → Prop} (hgd : Region.wanted o (yielded ops act.tmps) = true) (s x : Operand) (t : TypeId)
    (ho : o.op = .call { callee := .builtin .append, args := #[s, x], argTypes := #[t, t] })
    (k : IntKind) (e : TypeId) (i : TypeInfo) (z : Value) (bytes : Nat) (ht : P.underlying t = some (.slice e)) (hi : P.info? e = some i) (hz : i.zero = some z) (hsize : i.size = 1) (hby : i.bytes = bytes) (hzs : z.cells.size = 1)
    {B n c m d : Nat} {a b : Option Addr} {l l' : List Int} (hs : act.eval s = .slice a n c) (hown : Own k e w B a n c l) (hx : act.eval x = .slice b m d) (hnew : Nums k w b m l')
    (hb1 : 0 < bytes) (hbytes : (n + m) * bytes ≤ 140737488355328) (hB : B ≤ w.heap.size)
    (h : ∀ a' c' w', Own k e w' B a' (n + m) c' (l ++ l') → Below B w w' → wpList P ops Q rest (act.put o.dst (.slice a' (n + m) c')) w') : wpList P ops Q (o :: rest) act w := by
  refine wpList_step fun K hK => ?_
  rw [if_pos hgd]
  have h63 : n + m ≤ maxLen := by
    have := Nat.mul_le_mul_left (n + m) hb1
    unfold maxLen
    omega
  obtain ⟨a', c', w', hr, h2, h3⟩ := run_app (P := P) (d := d) w t o.type e i z bytes ht hi hz hsize hby hzs hown hnew hbytes h63 hB
  unfold Oper.wp execOp
  simp only [ho, resolve, invoke, builtin, Sem.run_bind, Sem.run_pure, Result.andThen_ok, List.map_toArray, List.map_cons, List.map_nil, hs, hx, hr]
  exact hK _ _ (h a' c' w' h2 h3)
end Go.Proofs.Ytnkbahnhngajfaa
