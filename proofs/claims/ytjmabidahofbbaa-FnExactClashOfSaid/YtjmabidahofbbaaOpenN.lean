/- How a slice of entries among the arguments is read. -/
import Derived.Test.YtjmabidahofbbaaEnt
import Derived.Test.YtjmabidahofbbaaOpen
import Derived.Deep.Slices
import Derived.Deep.Fields
import Derived.ChangeSame
namespace Go.Proofs.Ytjmabidahofbbaa
open Go.ChangeShapes Go.WideShapes Go.ChangeAt Go.RowKit
set_option linter.unusedVariables false

def En.wf (x : En) : Prop := (Lit.int .i64 x.tag).wf = true ∧ (Lit.int .i64 x.vend).wf = true

theorem one_cellN {P : Program} {H : Type} {enc : TypeId × Value → H} {w : World} {base n : Nat} {spare : Nat → Bool} {held : Bool} {t : TypeId} {c : Value} {o : Option (DataW H × List MemPlace)} (ht : P.underlying t = some (.int .i64))
    (h : DataW.trod enc P w base spare held n t [c] = o) (ho : o.isSome = true) : ∃ x, c = .int .i64 x ∧ (Lit.int .i64 x).wf = true := by
  cases o with
  | none => cases ho
  | some y =>
    obtain ⟨x, h1, _, h2⟩ := DataW.trod_int ht h
    injection h1 with h3
    exact ⟨x, h3, h2⟩

theorem one_bool {P : Program} {H : Type} {enc : TypeId × Value → H} {w : World} {base n : Nat} {spare : Nat → Bool} {held : Bool} {t : TypeId} {c : Value} {o : Option (DataW H × List MemPlace)} (ht : P.underlying t = some .bool)
    (h : DataW.trod enc P w base spare held n t [c] = o) (ho : o.isSome = true) : ∃ x, c = .bool x := by
  cases o with
  | none => cases ho
  | some y =>
    obtain ⟨x, h1, _⟩ := DataW.trod_bool ht h
    injection h1 with h3
    exact ⟨x, h3⟩

set_option maxRecDepth 100000 in
theorem open_ens {T E : TypeId} {f0 f1 f2 : Field} (hT : Try.prog.underlying T = some (.slice E)) (hE : Try.prog.underlying E = some (.struct #[f0, f1, f2])) (hone : Go.Deep.oneCellFields Try.prog #[f0, f1, f2] = true) (hC : Try.prog.cellsOf E = 3)
    (t0 : Try.prog.underlying f0.type = some (.int .i64)) (t1 : Try.prog.underlying f1.type = some (.int .i64)) (t2 : Try.prog.underlying f2.type = some .bool)
    {H : Type} {enc : TypeId × Value → H} {W : World} {base : Nat} {v : Value} {d : DataW H} {p : List MemPlace}
    (hval : Value.okWide Try.prog W .any base T v) (h : DataW.Trod enc Try.prog W 0 (fun _ => true) true T v d p) :
    ∃ (a : Option Addr) (n c : Nat) (l : List En), v = .slice a n c ∧ Ens W a n l ∧ (∀ x ∈ l, x.wf) ∧ n ≤ c ∧ (c : Int) ≤ 9223372036854775807 := by
  obtain ⟨a0, len, cap, rfl⟩ := okWide_slice hT hval
  obtain ⟨fuel, hf⟩ := h
  rcases Go.Deep.open_slice hT hf with ⟨hcs, hx⟩ | ⟨a, len', cap', m, n, D, Pl, hcs, hb, hl, hm, hmm, hx, hi⟩
  · simp [Value.cells] at hcs
    obtain ⟨rfl, rfl, rfl⟩ := hcs
    exact ⟨none, 0, 0, [], rfl, Items.nothing, (fun _ h => by cases h), Nat.le_refl _, by omega⟩
  · simp [Value.cells] at hcs
    obtain ⟨rfl, rfl, rfl⟩ := hcs
    simp only [if_true] at hmm
    subst hmm
    have each : ∀ i, i < len → ∃ x : En, (∀ j u, x.enc[j]? = some u → W.cell? ((a.add (i * 3)).add j) = some u) ∧ x.wf := by
      intro i hil
      obtain ⟨cs', hc, ht'⟩ := hi i (by omega)
      rw [hC] at hc
      obtain ⟨ys, k, _, _, hlen, hyl, hfs⟩ := DataW.trod_struct hE ht'
      obtain ⟨_, hcl, hat⟩ := World.cells?_some hc
      obtain ⟨o0, k0⟩ := Go.Deep.hone_of hone 0 f0 rfl
      obtain ⟨o1, k1⟩ := Go.Deep.hone_of hone 1 f1 rfl
      obtain ⟨o2, k2⟩ := Go.Deep.hone_of hone 2 f2 rfl
      match cs', hlen.trans hC with
      | [c0, c1, c2], _ =>
        have g0 := hfs 0 f0 rfl
        have g1 := hfs 1 f1 rfl
        have g2 := hfs 2 f2 rfl
        rw [o0, k0] at g0
        rw [o1, k1] at g1
        rw [o2, k2] at g2
        have hys : ys.length = 3 := hyl
        obtain ⟨x0, rfl, w0⟩ := one_cellN t0 g0 (by rw [List.getElem?_eq_getElem (by omega)]; rfl)
        obtain ⟨x1, rfl, w1⟩ := one_cellN t1 g1 (by rw [List.getElem?_eq_getElem (by omega)]; rfl)
        obtain ⟨x2, rfl⟩ := one_bool t2 g2 (by rw [List.getElem?_eq_getElem (by omega)]; rfl)
        refine ⟨⟨x0, x1, x2⟩, fun j u hu => ?_, w0, w1⟩
        have hj : j < 3 := by
          rcases Nat.lt_or_ge j 3 with h | h
          · exact h
          · rw [List.getElem?_eq_none (by exact h)] at hu; cases hu
        rw [hat j hj]
        exact hu
    have each' : ∀ i, ∃ x : En, i < len → (∀ j u, x.enc[j]? = some u → W.cell? ((a.add (i * 3)).add j) = some u) ∧ x.wf := fun i => by
      by_cases h : i < len
      · obtain ⟨x, hx⟩ := each i h
        exact ⟨x, fun _ => hx⟩
      · exact ⟨⟨0, 0, false⟩, fun h' => absurd h' h⟩
    obtain ⟨g, hg⟩ := Classical.axiomOfChoice each'
    unfold maxLen at hm
    refine ⟨some a, len, m, (List.range len).map g, rfl, ⟨by simp, by omega, fun j x hj => ?_⟩, ?_, hl, by omega⟩
    · have hjl : j < len := by
        rcases Nat.lt_or_ge j len with h | h
        · exact h
        · rw [List.getElem?_eq_none (by simpa using h)] at hj; cases hj
      rw [List.getElem?_map, List.getElem?_range hjl] at hj
      cases hj
      have hc := (hg j hjl).1
      have h0 := (hg 0 (by omega)).1 0 _ rfl
      obtain ⟨b, o, spot⟩ := a
      have hspot : spot = none := by
        rw [addr_add, show (0 * 3 + 0) = 0 from rfl, show (⟨b, o, spot⟩ : Addr).add 0 = ⟨b, o, spot⟩ from rfl] at h0
        exact World.cell?_spot h0
      subst hspot
      refine ⟨b, o, rfl, fun i v hv => ?_⟩
      have := hc i v hv
      rw [addr_add] at this
      have e : (⟨b, o, none⟩ : Addr).add (j * 3 + i) = ⟨b, o + j * 3 + i, none⟩ := by
        unfold Addr.add
        split <;> simp_all <;> omega
      rw [e] at this
      exact this
    · intro x hx
      obtain ⟨i, hi', rfl⟩ := List.mem_map.1 hx
      exact (hg i (List.mem_range.1 hi')).2
end Go.Proofs.Ytjmabidahofbbaa
