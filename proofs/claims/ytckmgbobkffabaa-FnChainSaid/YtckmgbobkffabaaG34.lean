/- How a slice of moves and a slice of bools among the arguments are read. Machines as they lie in a list: a number and where the two lists lie. -/
import Derived.Test.YtckmgbobkffabaaG3
import Derived.Lib.SmallJoins
import Derived.Deep.Grids
import Derived.Test.YtckmgbobkffabaaG10
import Derived.Deep.Slices
import Derived.Deep.Fields
import Derived.ChangeSame
import Derived.Test.YtckmgbobkffabaaG32
import Derived.Test.YtckmgbobkffabaaG12
import Derived.Test.YtckmgbobkffabaaG1
namespace Go.Proofs.Ytckmgbobkffabaa
open Go.ChangeShapes Go.WideShapes Go.ChangeAt Go.RowKit
set_option linter.unusedVariables false

def Mv.wf (x : Mv) : Prop := (Lit.int .i64 x.frm).wf = true ∧ (Lit.int .i64 x.msg).wf = true ∧ (Lit.int .i64 x.to).wf = true

theorem one_cellM {P : Program} {H : Type} {enc : TypeId × Value → H} {w : World} {base n : Nat} {spare : Nat → Bool} {held : Bool} {t : TypeId} {c : Value} {o : Option (DataW H × List MemPlace)} (ht : P.underlying t = some (.int .i64))
  (h : DataW.trod enc P w base spare held n t [c] = o) (ho : o.isSome = true) : ∃ x, c = .int .i64 x ∧ (Lit.int .i64 x).wf = true := by
 cases o with
 | none => cases ho
 | some y =>
  obtain ⟨x, h1, _, h2⟩ := DataW.trod_int ht h
  injection h1 with h3
  exact ⟨x, h3, h2⟩

theorem one_bool {P : Program} {H : Type} {enc : TypeId × Value → H} {w : World} {base n : Nat} {spare : Nat → Bool} {held : Bool} {t : TypeId} {c : Value} {o : Option (DataW H × List MemPlace)} (ht : P.underlying t = some .bool)
  (h : DataW.trod enc P w base spare held n t [c] = o) (ho : o.isSome = true) : ∃ x, c = .bool x := by
 cases o with
 | none => cases ho
 | some y =>
  obtain ⟨x, h1, _⟩ := DataW.trod_bool ht h
  injection h1 with h3
  exact ⟨x, h3⟩

set_option maxRecDepth 100000 in
theorem open_mvs {T E : TypeId} {f0 f1 f2 f3 : Field} (hT : Try.prog.underlying T = some (.slice E)) (hE : Try.prog.underlying E = some (.struct #[f0, f1, f2, f3])) (hone : Go.Deep.oneCellFields Try.prog #[f0, f1, f2, f3] = true) (hC : Try.prog.cellsOf E = 4)
  (t0 : Try.prog.underlying f0.type = some (.int .i64)) (t1 : Try.prog.underlying f1.type = some .bool) (t2 : Try.prog.underlying f2.type = some (.int .i64)) (t3 : Try.prog.underlying f3.type = some (.int .i64))
  {H : Type} {enc : TypeId × Value → H} {W : World} {base : Nat} {v : Value} {d : DataW H} {p : List MemPlace}
  (hval : Value.okWide Try.prog W .any base T v) (h : DataW.Trod enc Try.prog W 0 (fun _ => true) true T v d p) :
  ∃ (a : Option Addr) (n c : Nat) (l : List Mv), v = .slice a n c ∧ Mvs W a n l ∧ (∀ x ∈ l, x.wf) ∧ n ≤ c ∧ (c : Int) ≤ 9223372036854775807 := by
 obtain ⟨a0, len, cap, rfl⟩ := okWide_slice hT hval
 obtain ⟨fuel, hf⟩ := h
 rcases Go.Deep.open_slice hT hf with ⟨hcs, hx⟩ | ⟨a, len', cap', m, n, D, Pl, hcs, hb, hl, hm, hmm, hx, hi⟩
 ·simp [Value.cells] at hcs
  obtain ⟨rfl, rfl, rfl⟩ := hcs
  exact ⟨none, 0, 0, [], rfl, Items.nothing, (fun _ h => by cases h), Nat.le_refl _, by omega⟩
 ·simp [Value.cells] at hcs
  obtain ⟨rfl, rfl, rfl⟩ := hcs
  simp only [if_true] at hmm
  subst hmm
  have each : ∀ i, i < len → ∃ x : Mv, (∀ j u, x.enc[j]? = some u → W.cell? ((a.add (i * 4)).add j) = some u) ∧ x.wf := by
   intro i hil
   obtain ⟨cs', hc, ht'⟩ := hi i (by omega)
   rw [hC] at hc
   obtain ⟨ys, k, _, _, hlen, hyl, hfs⟩ := DataW.trod_struct hE ht'
   obtain ⟨_, hcl, hat⟩ := World.cells?_some hc
   obtain ⟨o0, k0⟩ := Go.Deep.hone_of hone 0 f0 rfl
   obtain ⟨o1, k1⟩ := Go.Deep.hone_of hone 1 f1 rfl
   obtain ⟨o2, k2⟩ := Go.Deep.hone_of hone 2 f2 rfl
   obtain ⟨o3, k3⟩ := Go.Deep.hone_of hone 3 f3 rfl
   match cs', hlen.trans hC with
   | [c0, c1, c2, c3], _ =>
    have g0 := hfs 0 f0 rfl
    have g1 := hfs 1 f1 rfl
    have g2 := hfs 2 f2 rfl
    have g3 := hfs 3 f3 rfl
    rw [o0, k0] at g0
    rw [o1, k1] at g1
    rw [o2, k2] at g2
    rw [o3, k3] at g3
    have hys : ys.length = 4 := hyl
    obtain ⟨x0, rfl, w0⟩ := one_cellM t0 g0 (by rw [List.getElem?_eq_getElem (by omega)]; rfl)
    obtain ⟨x1, rfl⟩ := one_bool t1 g1 (by rw [List.getElem?_eq_getElem (by omega)]; rfl)
    obtain ⟨x2, rfl, w2⟩ := one_cellM t2 g2 (by rw [List.getElem?_eq_getElem (by omega)]; rfl)
    obtain ⟨x3, rfl, w3⟩ := one_cellM t3 g3 (by rw [List.getElem?_eq_getElem (by omega)]; rfl)
    refine ⟨⟨x0, x1, x2, x3⟩, fun j u hu => ?_, w0, w2, w3⟩
    have hj : j < 4 := by
     rcases Nat.lt_or_ge j 4 with h | h
     ·exact h
     ·rw [List.getElem?_eq_none (by exact h)] at hu; cases hu
    rw [hat j hj]
    exact hu
  have each' : ∀ i, ∃ x : Mv, i < len → (∀ j u, x.enc[j]? = some u → W.cell? ((a.add (i * 4)).add j) = some u) ∧ x.wf := fun i => by
   by_cases h : i < len
   ·obtain ⟨x, hx⟩ := each i h
    exact ⟨x, fun _ => hx⟩
   ·exact ⟨⟨0, false, 0, 0⟩, fun h' => absurd h' h⟩
  obtain ⟨g, hg⟩ := Classical.axiomOfChoice each'
  unfold maxLen at hm
  refine ⟨some a, len, m, (List.range len).map g, rfl, ⟨by simp, by omega, fun j x hj => ?_⟩, ?_, hl, by omega⟩
  ·have hjl : j < len := by
    rcases Nat.lt_or_ge j len with h | h
    ·exact h
    ·rw [List.getElem?_eq_none (by simpa using h)] at hj; cases hj
   rw [List.getElem?_map, List.getElem?_range hjl] at hj
   cases hj
   have hc := (hg j hjl).1
   have h0 := (hg 0 (by omega)).1 0 _ rfl
   obtain ⟨b, o, spot⟩ := a
   have hspot : spot = none := by
    rw [addr_add, show (0 * 4 + 0) = 0 from rfl, show (⟨b, o, spot⟩ : Addr).add 0 = ⟨b, o, spot⟩ from rfl] at h0
    exact World.cell?_spot h0
   subst hspot
   refine ⟨b, o, rfl, fun i v hv => ?_⟩
   have := hc i v hv
   rw [addr_add] at this
   have e : (⟨b, o, none⟩ : Addr).add (j * 4 + i) = ⟨b, o + j * 4 + i, none⟩ := by
    unfold Addr.add
    split <;> simp_all <;> omega
   rw [e] at this
   exact this
  ·intro x hx
   obtain ⟨i, hi', rfl⟩ := List.mem_map.1 hx
   exact (hg i (List.mem_range.1 hi')).2
set_option maxRecDepth 100000 in
theorem trod_mvs {T E : TypeId} {f0 f1 f2 f3 : Field} (hT : Try.prog.underlying T = some (.slice E)) (hE : Try.prog.underlying E = some (.struct #[f0, f1, f2, f3])) (hone : Go.Deep.oneCellFields Try.prog #[f0, f1, f2, f3] = true) (hC : Try.prog.cellsOf E = 4)
  (t0 : Try.prog.underlying f0.type = some (.int .i64)) (t1 : Try.prog.underlying f1.type = some .bool) (t2 : Try.prog.underlying f2.type = some (.int .i64)) (t3 : Try.prog.underlying f3.type = some (.int .i64))
  {H : Type} {enc : TypeId × Value → H} {W : World} {fuel : Nat} {cs : List Value} {y : DataW H × List MemPlace} (h : DataW.trod enc Try.prog W 0 (fun _ => true) true fuel T cs = some y) :
  ∃ (a : Option Addr) (n c : Nat) (l : List Mv), cs = [.slice a n c] ∧ Mvs W a n l ∧ (∀ x ∈ l, x.wf) ∧ n ≤ c ∧ (c : Int) ≤ 9223372036854775807 := by
 rcases Go.Deep.open_slice hT h with ⟨hcs, hx⟩ | ⟨a, len, cap, m, n, D, Pl, hcs, hb, hl, hm, hmm, hx, hi⟩
 ·exact ⟨none, 0, 0, [], hcs, Items.nothing, (fun _ h => by cases h), Nat.le_refl _, by omega⟩
 ·simp only [if_true] at hmm
  subst hmm
  have each : ∀ i, i < len → ∃ x : Mv, (∀ j u, x.enc[j]? = some u → W.cell? ((a.add (i * 4)).add j) = some u) ∧ x.wf := by
   intro i hil
   obtain ⟨cs', hc, ht'⟩ := hi i (by omega)
   rw [hC] at hc
   obtain ⟨ys, k, _, _, hlen, hyl, hfs⟩ := DataW.trod_struct hE ht'
   obtain ⟨_, hcl, hat⟩ := World.cells?_some hc
   obtain ⟨o0, k0⟩ := Go.Deep.hone_of hone 0 f0 rfl
   obtain ⟨o1, k1⟩ := Go.Deep.hone_of hone 1 f1 rfl
   obtain ⟨o2, k2⟩ := Go.Deep.hone_of hone 2 f2 rfl
   obtain ⟨o3, k3⟩ := Go.Deep.hone_of hone 3 f3 rfl
   match cs', hlen.trans hC with
   | [c0, c1, c2, c3], _ =>
    have g0 := hfs 0 f0 rfl
    have g1 := hfs 1 f1 rfl
    have g2 := hfs 2 f2 rfl
    have g3 := hfs 3 f3 rfl
    rw [o0, k0] at g0
    rw [o1, k1] at g1
    rw [o2, k2] at g2
    rw [o3, k3] at g3
    have hys : ys.length = 4 := hyl
    obtain ⟨x0, rfl, w0⟩ := one_cellM t0 g0 (by rw [List.getElem?_eq_getElem (by omega)]; rfl)
    obtain ⟨x1, rfl⟩ := one_bool t1 g1 (by rw [List.getElem?_eq_getElem (by omega)]; rfl)
    obtain ⟨x2, rfl, w2⟩ := one_cellM t2 g2 (by rw [List.getElem?_eq_getElem (by omega)]; rfl)
    obtain ⟨x3, rfl, w3⟩ := one_cellM t3 g3 (by rw [List.getElem?_eq_getElem (by omega)]; rfl)
    refine ⟨⟨x0, x1, x2, x3⟩, fun j u hu => ?_, w0, w2, w3⟩
    have hj : j < 4 := by
     rcases Nat.lt_or_ge j 4 with h | h
     ·exact h
     ·rw [List.getElem?_eq_none (by exact h)] at hu; cases hu
    rw [hat j hj]
    exact hu
  have each' : ∀ i, ∃ x : Mv, i < len → (∀ j u, x.enc[j]? = some u → W.cell? ((a.add (i * 4)).add j) = some u) ∧ x.wf := fun i => by
   by_cases h : i < len
   ·obtain ⟨x, hx⟩ := each i h
    exact ⟨x, fun _ => hx⟩
   ·exact ⟨⟨0, false, 0, 0⟩, fun h' => absurd h' h⟩
  obtain ⟨g, hg⟩ := Classical.axiomOfChoice each'
  unfold maxLen at hm
  refine ⟨some a, len, m, (List.range len).map g, hcs, ⟨by simp, by omega, fun j x hj => ?_⟩, ?_, hl, by omega⟩
  ·have hjl : j < len := by
    rcases Nat.lt_or_ge j len with h | h
    ·exact h
    ·rw [List.getElem?_eq_none (by simpa using h)] at hj; cases hj
   rw [List.getElem?_map, List.getElem?_range hjl] at hj
   cases hj
   have hc := (hg j hjl).1
   have h0 := (hg 0 (by omega)).1 0 _ rfl
   obtain ⟨b, o, spot⟩ := a
   have hspot : spot = none := by
    rw [addr_add, show (0 * 4 + 0) = 0 from rfl, show (⟨b, o, spot⟩ : Addr).add 0 = ⟨b, o, spot⟩ from rfl] at h0
    exact World.cell?_spot h0
   subst hspot
   refine ⟨b, o, rfl, fun i v hv => ?_⟩
   have := hc i v hv
   rw [addr_add] at this
   have e : (⟨b, o, none⟩ : Addr).add (j * 4 + i) = ⟨b, o + j * 4 + i, none⟩ := by
    unfold Addr.add
    split <;> simp_all <;> omega
   rw [e] at this
   exact this
  ·intro x hx
   obtain ⟨i, hi', rfl⟩ := List.mem_map.1 hx
   exact (hg i (List.mem_range.1 hi')).2

theorem trod_bls {T E : TypeId} (hT : Try.prog.underlying T = some (.slice E)) (hE : Try.prog.underlying E = some .bool) (hone : Try.prog.cellsOf E = 1)
  {H : Type} {enc : TypeId × Value → H} {W : World} {fuel : Nat} {cs : List Value} {y : DataW H × List MemPlace} (h : DataW.trod enc Try.prog W 0 (fun _ => true) true fuel T cs = some y) :
  ∃ (a : Option Addr) (n c : Nat) (l : List Bool), cs = [.slice a n c] ∧ Bls W a n l ∧ n ≤ c ∧ (c : Int) ≤ 9223372036854775807 := by
 rcases Go.Deep.open_bools hT hE hone h with ⟨hcs, hx⟩ | ⟨a, len, cap, B, hcs, hb, hl, hm, hx, hi⟩
 ·exact ⟨none, 0, 0, [], hcs, Items.nothing, Nat.le_refl _, by omega⟩
 ·unfold maxLen at hm
  refine ⟨some a, len, cap, (List.range len).map B, hcs, ⟨by simp, by omega, fun j x hj => ?_⟩, hl, by omega⟩
  have hjl : j < len := by
   rcases Nat.lt_or_ge j len with h | h
   ·exact h
   ·rw [List.getElem?_eq_none (by simpa using h)] at hj; cases hj
  rw [List.getElem?_map, List.getElem?_range hjl] at hj
  cases hj
  have h0 := hi 0 (by omega)
  obtain ⟨b, o, spot⟩ := a
  have hspot : spot = none := by
   rw [show (⟨b, o, spot⟩ : Addr).add 0 = ⟨b, o, spot⟩ from rfl] at h0
   exact World.cell?_spot h0
  subst hspot
  refine ⟨b, o, rfl, fun i v hv => ?_⟩
  have h1 : i = 0 := by
   rcases Nat.eq_zero_or_pos i with q | q
   ·exact q
   ·rw [List.getElem?_eq_none (by exact q)] at hv; cases hv
  subst h1
  cases hv
  have := hi j (by omega)
  have e : (⟨b, o, none⟩ : Addr).add j = ⟨b, o + j * 1 + 0, none⟩ := by
   unfold Addr.add
   split <;> simp_all
  rw [e] at this
  exact this

def Mac.wf (x : Mac) : Prop := (Lit.int .i64 x.st).wf = true ∧ ∀ z ∈ x.moves, z.wf
set_option maxRecDepth 100000 in
/-- A machine by itself. -/
theorem open_mac {E S1 M : TypeId} {f0 f1 f2 g0 g1 g2 g3 : Field} (hE : Try.prog.underlying E = some (.struct #[f0, f1, f2])) (hone : Go.Deep.oneCellFields Try.prog #[f0, f1, f2] = true) (hC : Try.prog.cellsOf E = 3)
  (t0 : Try.prog.underlying f0.type = some (.int .i64)) (t1 : Try.prog.underlying f1.type = some (.slice S1)) (u1 : Try.prog.underlying S1 = some .bool) (c1 : Try.prog.cellsOf S1 = 1)
  (t2 : Try.prog.underlying f2.type = some (.slice M)) (hM : Try.prog.underlying M = some (.struct #[g0, g1, g2, g3])) (honeM : Go.Deep.oneCellFields Try.prog #[g0, g1, g2, g3] = true) (hCM : Try.prog.cellsOf M = 4)
  (m0 : Try.prog.underlying g0.type = some (.int .i64)) (m1 : Try.prog.underlying g1.type = some .bool) (m2 : Try.prog.underlying g2.type = some (.int .i64)) (m3 : Try.prog.underlying g3.type = some (.int .i64))
  {H : Type} {enc : TypeId × Value → H} {W : World} {base : Nat} {v : Value} {d : DataW H} {p : List MemPlace}
  (hval : Value.okWide Try.prog W .any base E v) (h : DataW.Trod enc Try.prog W 0 (fun _ => true) true E v d p) : ∃ x : Mac, MacW W v x ∧ x.wf := by
 obtain ⟨v0, v1, v2, y0, y1, y2, n, rfl, _, _, h0, h1, h2⟩ := Go.Joins.open_agg3 hE hone hC hval h
 obtain ⟨x0, rfl, w0⟩ := one_cellM t0 h0 rfl
 obtain ⟨a, k, c, l1, e1, b1, r1⟩ := trod_bls t1 u1 c1 h1
 obtain ⟨b, m, dd, l2, e2, b2, w2, r2⟩ := trod_mvs t2 hM honeM hCM m0 m1 m2 m3 h2
 have f1 : v1 = .slice a k c := by simpa using e1
 have f2 : v2 = .slice b m dd := by simpa using e2
 subst f1 f2
 exact ⟨⟨x0, l1, l2⟩, ⟨a, k, c, b, m, dd, rfl, b1, b2, r1, r2⟩, w0, w2⟩
end Go.Proofs.Ytckmgbobkffabaa
namespace Go.Proofs.Ytckmgbobkffabaa
open Go.ChangeShapes Go.WideShapes Go.ChangeAt Go.RowKit
set_option linter.unusedVariables false
set_option linter.unusedSimpArgs false

/-- A machine as it lies in memory: its number, and where its two lists lie. -/
structure Mh where
 st : Int
 p : Option Addr
 m : Nat
 c : Nat
 q : Option Addr
 k : Nat
 d : Nat
def Mh.enc (x : Mh) : List Value := [.int .i64 x.st, .slice x.p x.m x.c, .slice x.q x.k x.d]
def Mh.val (x : Mh) : Value := .agg #[.int .i64 x.st, .slice x.p x.m x.c, .slice x.q x.k x.d]
theorem Mh.enc_len (x : Mh) : x.enc.length = 3 := rfl
theorem Mh.one (x : Mh) : ∀ u ∈ x.enc, u.oneCell' = true := by
 intro u hu
 simp only [Mh.enc, List.mem_cons, List.not_mem_nil, or_false] at hu
 rcases hu with rfl | rfl | rfl <;> rfl
def zeroMh : Mh := ⟨0, none, 0, 0, none, 0, 0⟩
theorem infoMcS : (Try.prog.info? 27).map (fun i => (i.zero, i.size, i.bytes)) = some (some (.agg #[.int .i64 0, .slice none 0 0, .slice none 0 0]), 3, 56) := by kernel_rfl
/-- A value that is a machine is a header. -/
theorem MacW.head {w : World} {v : Value} {x : Mac} (h : MacW w v x) : ∃ y : Mh, v = y.val ∧ y.st = x.st := by
 obtain ⟨p, m, c, q, k, d, rfl⟩ := h.shape
 exact ⟨⟨x.st, p, m, c, q, k, d⟩, rfl, rfl⟩
/-- The rows of each machine lie apart from block g. -/
def RowsM (w : World) (g : Nat) (hs : List Mh) (l : List Mac) : Prop :=
 hs.length = l.length ∧ ∀ (j : Nat) (h : Mh) (x : Mac), hs[j]? = some h → l[j]? = some x → h.st = x.st ∧ ∃ S B, OwnMac S w B h.val x ∧ (g < B ∨ S ≤ g)
theorem RowsM.nil {w : World} {g : Nat} : RowsM w g [] [] := ⟨rfl, fun j h x e => by simp at e⟩
theorem RowsM.same {w w' : World} {g : Nat} {hs : List Mh} {l : List Mac} (h : RowsM w g hs l) (hb : Below w.heap.size w w') : RowsM w' g hs l :=
 ⟨h.1, fun j y x h1 h2 => by
  obtain ⟨e, S, B, ho, hd⟩ := h.2 j y x h1 h2
  exact ⟨e, S, B, ho.same hb, hd⟩⟩
theorem RowsM.aside {w w' : World} {g : Nat} {hs : List Mh} {l : List Mac} (h : RowsM w g hs l) (hb : Inside g (g + 1) w w') : RowsM w' g hs l :=
 ⟨h.1, fun j y x h1 h2 => by
  obtain ⟨e, S, B, ho, hd⟩ := h.2 j y x h1 h2
  exact ⟨e, S, B, ho.aside hb (by omega), hd⟩⟩
theorem RowsM.push {w : World} {g S B : Nat} {hs : List Mh} {l : List Mac} {y : Mh} {x : Mac} (h : RowsM w g hs l) (ho : OwnMac S w B y.val x) (he : y.st = x.st) (hd : g < B ∨ S ≤ g) : RowsM w g (hs ++ [y]) (l ++ [x]) :=
 ⟨by rw [List.length_append, List.length_append, h.1]; rfl, fun j y2 x2 h1 h2 => by
  by_cases hj : j < hs.length
  ·rw [List.getElem?_append_left hj] at h1
   rw [List.getElem?_append_left (by rw [← h.1]; exact hj)] at h2
   exact h.2 j y2 x2 h1 h2
  ·have hj2 : j = hs.length := by
    have := at_lt h1
    rw [List.length_append] at this
    simp at this
    omega
   subst hj2
   rw [List.getElem?_append_right (Nat.le_refl _), Nat.sub_self] at h1
   rw [h.1, List.getElem?_append_right (Nat.le_refl _), Nat.sub_self] at h2
   simp at h1 h2
   subst h1
   subst h2
   exact ⟨he, S, B, ho, hd⟩⟩
/-- A list of headers and what they head, as it is read. -/
theorem macs_of {w : World} {a : Option Addr} {n g : Nat} {hs : List Mh} {l : List Mac} (h : Items Mh.enc 3 w a n hs) (hr : RowsM w g hs l) : Macs w a n l :=
 ⟨by rw [← hr.1]; exact h.len, h.fits, fun j x hj => by
  have hlt : j < hs.length := by rw [hr.1]; exact at_lt hj
  have hy := List.getElem?_eq_getElem hlt
  obtain ⟨b, o, e, hc⟩ := h.cell j _ hy
  obtain ⟨es, S, B, ho, _⟩ := hr.2 j _ x hy hj
  have h0 := hc 0 _ rfl
  have h1 := hc 1 _ rfl
  have h2 := hc 2 _ rfl
  have hm := ho.mac
  unfold Mh.val at hm
  rw [es] at h0 hm
  exact ⟨b, o, _, _, _, _, _, _, e, h0, h1, h2, hm⟩⟩
end Go.Proofs.Ytckmgbobkffabaa
