/- How lists of values, and a field or a value handed over by itself, are read among the arguments. -/
import Derived.Test.YtnjjfagokbbelaaVal
import Derived.Test.YtnjjfagokbbelaaOpenF
import Derived.Lib.SmallJoins
namespace Go.Proofs.Ytnjjfagokbbelaa
open Go.ChangeShapes Go.WideShapes Go.ChangeAt Go.RowKit
set_option linter.unusedVariables false

theorem trod_nums {k : IntKind} {P : Program} {T E : TypeId} (hT : P.underlying T = some (.slice E)) (hE : P.underlying E = some (.int k)) (hone : P.cellsOf E = 1) {H : Type} {enc : TypeId × Value → H} {W : World} {n : Nat} {cs : List Value} {x : DataW H × List MemPlace}
    (h : DataW.trod enc P W 0 (fun _ => true) true n T cs = some x) :
    ∃ (a : Option Addr) (m c : Nat) (l : List Int), cs = [.slice a m c] ∧ Nums k W a m l ∧ (∀ x ∈ l, (Lit.int k x).wf = true) ∧ m ≤ c ∧ (c : Int) ≤ 9223372036854775807 := by
  rcases open_ints hT hE hone h with ⟨hcs, hx⟩ | ⟨a, len', cap', zs, hcs, _, hl, hm, hz, hx, hcell, hwz⟩
  · exact ⟨none, 0, 0, [], hcs, Nums.none, (fun _ h => by cases h), Nat.le_refl _, by omega⟩
  · have hlz : zs.length = cap' := by simpa using hz
    unfold maxLen at hm
    refine ⟨some a, len', cap', zs.take len', hcs, ⟨by rw [List.length_take]; omega, by omega, fun j hj => ⟨a, rfl, ?_⟩⟩, fun x hx => hwz x (List.mem_of_mem_take hx), hl, by omega⟩
    rw [hcell j (by omega)]
    simp [List.getD, hj]
theorem trod_some {H : Type} {P : Program} {enc : TypeId × Value → H} {w : World} {base n : Nat} {spare : Nat → Bool} {held : Bool} {t : TypeId} {cs : List Value} {o : Option (DataW H × List MemPlace)}
    (h : DataW.trod enc P w base spare held n t cs = o) (ho : o.isSome = true) : ∃ x, DataW.trod enc P w base spare held n t cs = some x := by
  cases o with
  | none => cases ho
  | some y => exact ⟨y, h⟩

def Vl.wf (x : Vl) : Prop := (Lit.int .i64 x.num).wf = true ∧ ∀ y ∈ x.items, (Lit.int .i64 y).wf = true
set_option maxRecDepth 100000 in
theorem open_vals {T E I : TypeId} {f0 f1 : Field} (hT : Try.prog.underlying T = some (.slice E)) (hE : Try.prog.underlying E = some (.struct #[f0, f1])) (hone : Go.Deep.oneCellFields Try.prog #[f0, f1] = true) (hC : Try.prog.cellsOf E = 2)
    (t0 : Try.prog.underlying f0.type = some (.int .i64)) (t1 : Try.prog.underlying f1.type = some (.slice I)) (tI : Try.prog.underlying I = some (.int .i64)) (hI : Try.prog.cellsOf I = 1)
    {H : Type} {enc : TypeId × Value → H} {W : World} {base : Nat} {v : Value} {d : DataW H} {p : List MemPlace}
    (hval : Value.okWide Try.prog W .any base T v) (h : DataW.Trod enc Try.prog W 0 (fun _ => true) true T v d p) :
    ∃ (a : Option Addr) (n c : Nat) (l : List Vl), v = .slice a n c ∧ Vals W a n l ∧ (∀ x ∈ l, x.wf) ∧ n ≤ c ∧ (c : Int) ≤ 9223372036854775807 := by
  obtain ⟨a0, len, cap, rfl⟩ := okWide_slice hT hval
  obtain ⟨fuel, hf⟩ := h
  rcases Go.Deep.open_slice hT hf with ⟨hcs, hx⟩ | ⟨a, len', cap', m, n, D, Pl, hcs, hb, hl, hm, hmm, hx, hi⟩
  · simp [Value.cells] at hcs
    obtain ⟨rfl, rfl, rfl⟩ := hcs
    exact ⟨none, 0, 0, [], rfl, Vals.nothing, (fun _ h => by cases h), Nat.le_refl _, by omega⟩
  · simp [Value.cells] at hcs
    obtain ⟨rfl, rfl, rfl⟩ := hcs
    simp only [if_true] at hmm
    subst hmm
    have each : ∀ i, i < len → ∃ x : Vl, (∃ q k e, W.cell? ((a.add (i * 2)).add 0) = some (.int .i64 x.num) ∧ W.cell? ((a.add (i * 2)).add 1) = some (.slice q k e) ∧ Nums .i64 W q k x.items ∧ k ≤ e ∧ (e : Int) ≤ 9223372036854775807) ∧ x.wf := by
      intro i hil
      obtain ⟨cs', hc, ht'⟩ := hi i (by omega)
      rw [hC] at hc
      obtain ⟨ys, k, _, _, hlen, hyl, hfs⟩ := DataW.trod_struct hE ht'
      obtain ⟨_, hcl, hat⟩ := World.cells?_some hc
      obtain ⟨o0, k0⟩ := Go.Deep.hone_of hone 0 f0 rfl
      obtain ⟨o1, k1⟩ := Go.Deep.hone_of hone 1 f1 rfl
      match cs', hlen.trans hC with
      | [c0, c1], _ =>
        have g0 := hfs 0 f0 rfl
        have g1 := hfs 1 f1 rfl
        rw [o0, k0] at g0
        rw [o1, k1] at g1
        have hys : ys.length = 2 := hyl
        obtain ⟨x0, rfl, w0⟩ := one_cell t0 g0 (by rw [List.getElem?_eq_getElem (by omega)]; rfl)
        obtain ⟨y1, g1'⟩ := trod_some g1 (by rw [List.getElem?_eq_getElem (by omega)]; rfl)
        obtain ⟨q, kk, e, l, hq, hN, hw, hr⟩ := trod_nums t1 tI hI g1'
        have hc1 : c1 = .slice q kk e := by simpa using hq
        subst hc1
        exact ⟨⟨x0, l⟩, ⟨q, kk, e, by rw [hat 0 (by omega)]; rfl, by rw [hat 1 (by omega)]; rfl, hN, hr⟩, w0, hw⟩
    have each' : ∀ i, ∃ x : Vl, i < len → (∃ q k e, W.cell? ((a.add (i * 2)).add 0) = some (.int .i64 x.num) ∧ W.cell? ((a.add (i * 2)).add 1) = some (.slice q k e) ∧ Nums .i64 W q k x.items ∧ k ≤ e ∧ (e : Int) ≤ 9223372036854775807) ∧ x.wf := fun i => by
      by_cases h : i < len
      · obtain ⟨x, hx⟩ := each i h
        exact ⟨x, fun _ => hx⟩
      · exact ⟨⟨0, []⟩, fun h' => absurd h' h⟩
    obtain ⟨g, hg⟩ := Classical.axiomOfChoice each'
    unfold maxLen at hm
    refine ⟨some a, len, m, (List.range len).map g, rfl, ⟨by simp, by omega, fun j x hj => ?_⟩, ?_, hl, by omega⟩
    · have hjl : j < len := by
        rcases Nat.lt_or_ge j len with h | h
        · exact h
        · rw [List.getElem?_eq_none (by simpa using h)] at hj; cases hj
      rw [List.getElem?_map, List.getElem?_range hjl] at hj
      cases hj
      obtain ⟨q, k, e, h0, h1, hN, hr⟩ := (hg j hjl).1
      obtain ⟨q', k', e', z0, _⟩ := (hg 0 (by omega)).1
      obtain ⟨b, o, spot⟩ := a
      have hspot : spot = none := by
        rw [addr_add, show (0 * 2 + 0) = 0 from rfl, show (⟨b, o, spot⟩ : Addr).add 0 = ⟨b, o, spot⟩ from rfl] at z0
        exact World.cell?_spot z0
      subst hspot
      have e0 : ∀ i, ((⟨b, o, none⟩ : Addr).add (j * 2)).add i = ⟨b, o + j * 2 + i, none⟩ := fun i => by
        rw [addr_add]
        unfold Addr.add
        split <;> simp_all <;> omega
      rw [e0] at h0 h1
      exact ⟨b, o, q, k, e, rfl, h0, h1, hN, hr⟩
    · intro x hx
      obtain ⟨i, hi', rfl⟩ := List.mem_map.1 hx
      exact (hg i (List.mem_range.1 hi')).2
set_option maxRecDepth 100000 in
/-- A value by itself. -/
theorem open_val {E I : TypeId} {f0 f1 : Field} (hE : Try.prog.underlying E = some (.struct #[f0, f1])) (hone : Go.Deep.oneCellFields Try.prog #[f0, f1] = true) (hC : Try.prog.cellsOf E = 2)
    (t0 : Try.prog.underlying f0.type = some (.int .i64)) (t1 : Try.prog.underlying f1.type = some (.slice I)) (tI : Try.prog.underlying I = some (.int .i64)) (hI : Try.prog.cellsOf I = 1)
    {H : Type} {enc : TypeId × Value → H} {W : World} {base : Nat} {v : Value} {d : DataW H} {p : List MemPlace}
    (hval : Value.okWide Try.prog W .any base E v) (h : DataW.Trod enc Try.prog W 0 (fun _ => true) true E v d p) :
    ∃ (k : Int) (a : Option Addr) (n c : Nat) (l : List Int), v = .agg #[.int .i64 k, .slice a n c] ∧ Nums .i64 W a n l ∧ ((Lit.int .i64 k).wf = true ∧ ∀ x ∈ l, (Lit.int .i64 x).wf = true) ∧ n ≤ c ∧ (c : Int) ≤ 9223372036854775807 := by
  obtain ⟨v0, v1, y0, y1, n, rfl, _, _, h0, h1⟩ := Go.Joins.open_agg2 hE hone hC hval h
  obtain ⟨x0, rfl, w0⟩ := one_cell t0 h0 rfl
  obtain ⟨q, kk, e, l, hq, hN, hw, hr⟩ := trod_nums t1 tI hI h1
  have hc1 : v1 = .slice q kk e := by simpa using hq
  subst hc1
  exact ⟨x0, q, kk, e, l, rfl, hN, ⟨w0, hw⟩, hr⟩
set_option maxRecDepth 100000 in
/-- A field by itself. -/
theorem open_fd {E : TypeId} {f0 f1 f2 f3 : Field} (hE : Try.prog.underlying E = some (.struct #[f0, f1, f2, f3])) (hone : Go.Deep.oneCellFields Try.prog #[f0, f1, f2, f3] = true) (hC : Try.prog.cellsOf E = 4)
    (t0 : Try.prog.underlying f0.type = some (.int .i64)) (t1 : Try.prog.underlying f1.type = some (.int .i64)) (t2 : Try.prog.underlying f2.type = some (.int .i64)) (t3 : Try.prog.underlying f3.type = some (.int .i64))
    {H : Type} {enc : TypeId × Value → H} {W : World} {base : Nat} {v : Value} {d : DataW H} {p : List MemPlace}
    (hval : Value.okWide Try.prog W .any base E v) (h : DataW.Trod enc Try.prog W 0 (fun _ => true) true E v d p) : ∃ x : Fd, v = x.val ∧ x.wf := by
  obtain ⟨v0, v1, v2, v3, y0, y1, y2, y3, n, rfl, _, _, h0, h1, h2, h3⟩ := Go.Joins.open_agg4 hE hone hC hval h
  obtain ⟨x0, rfl, w0⟩ := one_cell t0 h0 rfl
  obtain ⟨x1, rfl, w1⟩ := one_cell t1 h1 rfl
  obtain ⟨x2, rfl, w2⟩ := one_cell t2 h2 rfl
  obtain ⟨x3, rfl, w3⟩ := one_cell t3 h3 rfl
  exact ⟨⟨x0, x1, x2, x3⟩, rfl, w0, w1, w2, w3⟩
end Go.Proofs.Ytnjjfagokbbelaa
