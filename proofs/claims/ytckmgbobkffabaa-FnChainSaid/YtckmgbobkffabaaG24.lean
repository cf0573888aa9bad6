/- A set of pairs of states, as a map of the call's own; what a search by depth leaves. A search by depth through the pairs that two machines reach by the same moves: by the program. -/
import Derived.Test.YtckmgbobkffabaaG10
import Derived.Test.YtckmgbobkffabaaG13
import Derived.Test.YtckmgbobkffabaaG2
import Derived.Test.YtckmgbobkffabaaG17
import Derived.Test.YtckmgbobkffabaaG18
import Derived.Test.YtckmgbobkffabaaG23
import Derived.Test.YtckmgbobkffabaaG1
namespace Go.Proofs.Ytckmgbobkffabaa
open Go.ChangeShapes Go.WideShapes Go.ChangeAt Go.RowKit
set_option linter.unusedVariables false
set_option linter.unusedSimpArgs false

/-- A pair of states by value. -/
def pairV (p : Int × Int) : Value := .agg #[.int .i64 p.1, .int .i64 p.2]
theorem pair_law : Maps.Keyed Try.prog 87 := Maps.Keyed.of_law (deep_law_laid laidOut (m := 3) (by omega) (by decide +kernel) (by kernel_rfl) (by kernel_rfl))
def pairL (p : Int × Int) : Lit := .string (keyBytes [.int .i64 p.1, .int .i64 p.2])
def In6 (p : Int × Int) : Prop := (0 ≤ p.1 ∧ p.1 < 6) ∧ 0 ≤ p.2 ∧ p.2 < 6
theorem wf6 {x : Int} (h : 0 ≤ x ∧ x < 6) : (Lit.int .i64 x).wf = true := by
 have h1 : -9223372036854775808 ≤ x := by omega
 have h2 : x ≤ 9223372036854775807 := by omega
 simp [Lit.wf, IntKind.min, IntKind.max, IntKind.signed, IntKind.bits]
 omega
set_option maxRecDepth 100000 in
theorem pair_read {p : Int × Int} (h : In6 p) : keyOf Try.prog 87 (pairV p) = some (pairL p) := by
 have hs := wf6 h.1
 have hk := wf6 h.2
 have h1 : Try.prog.keyType 87 = true := by kernel_rfl
 unfold keyOf pairV
 rw [Try.underlying87]
 simp only [h1, Bool.true_and]
 have h2 : Value.formed Try.prog 87 (Value.agg #[Value.int IntKind.i64 p.1, Value.int IntKind.i64 p.2]) = true := by
  unfold Value.formed
  rw [Try.underlying87]
  have : Try.prog.cellsOf 87 = 2 := by kernel_rfl
  rw [this]
  rfl
 rw [if_pos h2]
 have hC : Try.prog.cellsOf 87 = 2 := by kernel_rfl
 have hi : Try.prog.cellsOf 3 = 1 := by kernel_rfl
 obtain ⟨d, hd⟩ : ∃ d, Try.prog.types.size + 1 = d + 1 + 1 := ⟨Try.prog.types.size - 1, by
  have : 0 < Try.prog.types.size := by decide +kernel
  omega⟩
 rw [hd]
 have e1 : ∀ n : Int, (Lit.int .i64 n).wf = true → Try.prog.keyLits (d + 1) 3 [Value.int IntKind.i64 n] = some [.int .i64 n] := fun n hn => by
  unfold Program.keyLits
  rw [Try.underlying3]
  simp [hn]
 unfold Program.keyLits
 rw [Try.underlying87]
 simp [Value.cells, hC, hi, e1 _ hs, e1 _ hk, pairL]
set_option maxRecDepth 100000 in
theorem pairL_inj {p q : Int × Int} (hp : In6 p) (hq : In6 q) (h : pairL p = pairL q) : p = q := by
 have h1 := pair_read hp
 have h2 := pair_read hq
 rw [h] at h1
 have e := pair_law.inj h1 h2
 unfold pairV at e
 injection e with e
 have := congrArg Array.toList e
 simp at this
 exact Prod.ext this.1 this.2
/-- What the map holds: every pair that was met. -/
def metD : List (Int × Int) → DataW Value
 | [] => .map []
 | p :: M => (metD M).put (pairL p) (.held (.bool true))
section
open Go.Maps
theorem metD_isMap : ∀ M, IsMap (metD M)
 | [] => isMap_empty
 | p :: M => (metD_isMap M).put _ _
theorem metD_at {p : Int × Int} (hp : In6 p) (z : DataW Value) : ∀ {M : List (Int × Int)}, (∀ q ∈ M, In6 q) → (metD M).atKey (pairL p) z = if p ∈ M then .held (.bool true) else z
 | [], _ => by simp [metD, DataW.atKey]
 | q :: M, h => by
  have ih := metD_at hp z (M := M) fun r hr => h r (by simp [hr])
  by_cases e : p = q
  ·subst e
   unfold metD
   rw [atKey_put_same (metD_isMap M) (by simp [WideAt.IsKeyLit, pairL]), if_pos (by simp)]
  ·unfold metD
   rw [atKey_put_other (fun e2 => e (pairL_inj hp (h q (by simp)) e2)), ih]
   simp [e]
end
/-- Block g is a set of the pairs of M. -/
def Met (w : World) (g : Nat) (M : List (Int × Int)) : Prop := w.ownsMap Try.prog 87 heldR g M.length (metD M)
theorem Met.same {w w' : World} {g : Nat} {M : List (Int × Int)} (h : Met w g M) (hb : Below w.heap.size w w') : Met w' g M := by
 have hlt := World.ownsMap.lt h
 obtain ⟨es, ck, e1, F, e2, e3⟩ := h
 exact ⟨es, ck, (hb.block g hlt).trans e1, F, e2, e3⟩
theorem met_zero (w : World) : (zeroValue 4).run Try.prog w = .ok (.bool false) w := by kernel_rfl
set_option maxRecDepth 100000 in
theorem met_look {w : World} {g : Nat} {M : List (Int × Int)} {p : Int × Int} (h : Met w g M) (hp : In6 p) (hM : ∀ q ∈ M, In6 q) :
  (Instr.lookup 88 (.map (some g)) (.agg #[.int .i64 p.1, .int .i64 p.2]) false).run Try.prog w = .ok (.bool (decide (p ∈ M))) w := by
 obtain ⟨es, ck, hb, F, hs, hD⟩ := h
 rcases Maps.fit_look false pair_law Try.underlying88 (met_zero w) hb F (pair_read hp) with ⟨h1, _, h3⟩ | ⟨e0, y, _, _, hr, hR, hat, _⟩
 ·have hn : p ∉ M := fun hm => by
   have q := h3 (.lit (.bool false))
   rw [← hD, metD_at hp _ hM, if_pos hm] at q
   cases q
  rw [decide_eq_false hn]
  exact h1
 ·have hR2 : y = (.held e0.val, []) := by
   unfold heldR at hR
   exact (Option.some.inj hR).symm
  by_cases hm : p ∈ M
  ·have q := hat (.lit (.bool false))
   rw [← hD, metD_at hp _ hM, if_pos hm, hR2] at q
   injection q with q
   rw [decide_eq_true hm]
   rw [q]
   exact hr
  ·have q := hat (.lit (.bool false))
   rw [← hD, metD_at hp _ hM, if_neg hm, hR2] at q
   cases q
theorem met_made (w : World) : Met (w.alloc (.map #[] 0)) w.heap.size [] := World.ownsMap_made w Try.prog 87 heldR

/-- What a search by depth from p leaves: M were met before, M' are met behind it. -/
structure DfsTo (nx : Int → Int → List (Int × Int)) (F : Int × Int → Bool) (M : List (Int × Int)) (p : Int × Int) (r : Bool) (M' : List (Int × Int)) : Prop where
 nodup : M'.Nodup
 sub : ∀ q ∈ M, q ∈ M'
 len : M.length ≤ M'.length
 reach : ∀ q ∈ M', ReachG nx q
 yes : r = true → p ∈ M' ∧ ∀ q ∈ M', q ∉ M → F q = true ∧ ∀ z ∈ nx q.1 q.2, z ∈ M'
 no : r = false → ∃ q, ReachG nx q ∧ F q = false
/-- What it has left once the pairs of l, which follow the one that came last, were searched from. -/
structure LoopTo (nx : Int → Int → List (Int × Int)) (F : Int × Int → Bool) (M0 : List (Int × Int)) (l M' : List (Int × Int)) : Prop where
 nodup : M'.Nodup
 sub : ∀ q ∈ M0, q ∈ M'
 len : M0.length ≤ M'.length
 reach : ∀ q ∈ M', ReachG nx q
 all : ∀ z ∈ l, z ∈ M'
 new : ∀ q ∈ M', q ∉ M0 → F q = true ∧ ∀ z ∈ nx q.1 q.2, z ∈ M'
variable {nx : Int → Int → List (Int × Int)} {F : Int × Int → Bool} {M M0 M1 M2 l : List (Int × Int)} {p z : Int × Int}
theorem DfsTo.old (hn : M.Nodup) (hr : ∀ q ∈ M, ReachG nx q) (hp : p ∈ M) : DfsTo nx F M p true M :=
 ⟨hn, fun _ h => h, Nat.le_refl _, hr, fun _ => ⟨hp, fun q h1 h2 => absurd h1 h2⟩, fun h => nomatch h⟩
theorem DfsTo.bad (hn : M.Nodup) (hr : ∀ q ∈ M, ReachG nx q) (hp : p ∉ M) (hrp : ReachG nx p) (hF : F p = false) : DfsTo nx F M p false (p :: M) :=
 ⟨List.nodup_cons.2 ⟨hp, hn⟩, fun q h => by simp [h], by simp, fun q h => by
  rcases List.mem_cons.1 h with h | h
  ·rw [h]; exact hrp
  ·exact hr q h, (fun h => nomatch h), fun _ => ⟨p, hrp, hF⟩⟩
theorem LoopTo.start (hn : M.Nodup) (hr : ∀ q ∈ M, ReachG nx q) (hp : p ∉ M) (hrp : ReachG nx p) : LoopTo nx F (p :: M) [] (p :: M) :=
 ⟨List.nodup_cons.2 ⟨hp, hn⟩, fun q h => h, Nat.le_refl _, fun q h => by
  rcases List.mem_cons.1 h with h | h
  ·rw [h]; exact hrp
  ·exact hr q h, by simp, fun q h1 h2 => absurd h1 h2⟩
theorem LoopTo.step (h : LoopTo nx F M0 l M1) (k : DfsTo nx F M1 z true M2) : LoopTo nx F M0 (l ++ [z]) M2 :=
 ⟨k.nodup, fun q hq => k.sub q (h.sub q hq), Nat.le_trans h.len k.len, k.reach, fun y hy => by
  rcases List.mem_append.1 hy with e | e
  ·exact k.sub y (h.all y e)
  ·have : y = z := by simpa using e
   rw [this]
   exact (k.yes rfl).1, fun q h1 h2 => by
  by_cases hq : q ∈ M1
  ·obtain ⟨a1, a2⟩ := h.new q hq h2
   exact ⟨a1, fun y hy => k.sub y (a2 y hy)⟩
  ·exact (k.yes rfl).2 q h1 hq⟩
theorem LoopTo.fail (h : LoopTo nx F (p :: M) l M1) (k : DfsTo nx F M1 z false M2) : DfsTo nx F M p false M2 :=
 ⟨k.nodup, fun q hq => k.sub q (h.sub q (by simp [hq])), Nat.le_trans (by have := h.len; simp only [List.length_cons] at this; omega) k.len, k.reach, (fun e => nomatch e), fun _ => k.no rfl⟩
theorem LoopTo.done (h : LoopTo nx F (p :: M) (nx p.1 p.2) M1) (hF : F p = true) : DfsTo nx F M p true M1 :=
 ⟨h.nodup, fun q hq => h.sub q (by simp [hq]), by have := h.len; simp only [List.length_cons] at this; omega, h.reach, fun _ => ⟨h.sub p (by simp), fun q h1 h2 => by
  by_cases e : q = p
  ·rw [e]
   exact ⟨hF, h.all⟩
  ·exact h.new q h1 (by simp [e, h2])⟩, fun e => nomatch e⟩
/-- What the whole search says. -/
theorem DfsTo.whole {r : Bool} (h : DfsTo nx F [] (0, 0) r M) : r = true ↔ ∀ q, ReachG nx q → F q = true := by
 cases r with
 | true =>
  refine ⟨fun _ q hq => ?_, fun _ => rfl⟩
  obtain ⟨h1, h2⟩ := h.yes rfl
  have key : ∀ q, ReachG nx q → q ∈ M := fun q hq => by
   induction hq with
   | start => exact h1
   | step _ hz ih => exact (h2 _ ih (by simp)).2 _ hz
  exact (h2 q (key q hq) (by simp)).1
 | false =>
  refine ⟨(fun e => nomatch e), fun e => ?_⟩
  obtain ⟨q, h1, h2⟩ := h.no rfl
  rw [e q h1] at h2
  exact h2.symm
theorem small_in6 (hs : SmallG nx) {q : Int × Int} (h : ReachG nx q) : In6 q := hs q h
theorem met_le (hs : SmallG nx) (hn : M.Nodup) (hr : ∀ q ∈ M, ReachG nx q) : M.length ≤ 36 := by
 have h := nodup_le (m := allP) hn fun p hp => mem_allP (hs p (hr p hp)).1 (hs p (hr p hp)).2
 simpa [allP] using h
theorem met_room (hs : SmallG nx) (hn : M.Nodup) (hr : ∀ q ∈ M, ReachG nx q) (hp : p ∉ M) (hrp : ReachG nx p) : M.length < 36 := by
 have h := met_le (M := p :: M) hs (List.nodup_cons.2 ⟨hp, hn⟩) fun q h => by
  rcases List.mem_cons.1 h with h | h
  ·rw [h]; exact hrp
  ·exact hr q h
 simp only [List.length_cons] at h
 omega
end Go.Proofs.Ytckmgbobkffabaa
namespace Go.Proofs.Ytckmgbobkffabaa
open Go.ChangeShapes Go.WideShapes Go.ChangeAt Go.RowKit
set_option linter.unusedVariables false
set_option linter.unusedSimpArgs false

/-- Of the blocks that were there, only g has changed. -/
def OnlyG (g : Nat) (w w' : World) : Prop := Inside g (g + 1) w w'
theorem OnlyG.of {g : Nat} {w w' : World} (h : Below w.heap.size w w') : OnlyG g w w' := (Inside.refl g (g + 1) w).below h
theorem OnlyG.trans {g : Nat} {a b c : World} (h : OnlyG g a b) (k : OnlyG g b c) : OnlyG g a c := Inside.trans h k
theorem OnlyG.at_ {g i : Nat} {w w' : World} {o : Obj} (h : OnlyG g w w') (hx : w.heap[i]? = some o) (hne : g < i) : w'.heap[i]? = some o :=
 (Inside.block h i (Array.getElem?_eq_some_iff.1 hx).1 (Or.inr (by omega))).trans hx
theorem OnlyG.to {g B0 : Nat} {w0 w w' : World} (h : OnlyG g w w') (hb : Below B0 w0 w) (h0 : B0 ≤ g) (h1 : B0 ≤ w.heap.size) : Below B0 w0 w' := Inside.to h hb h0 h1
theorem OnlyG.size {g : Nat} {w w' : World} (h : OnlyG g w w') : w.heap.size ≤ w'.heap.size := Inside.size h
theorem OnlyG.grow {g : Nat} {w w' : World} (h : w.grownBy w' (some g)) : OnlyG g w w' := Inside.row h fun r e => by
 cases e
 exact ⟨Nat.le_refl _, Nat.lt_succ_self _⟩
theorem pair_cells {w : World} {g : Nat} {t : TypeId} {a b : Value} (h : w.heap[g]? = some (.cells #[a, b] t (0, 0))) : w.cell? ⟨g, 0, none⟩ = some a ∧ w.cell? ⟨g, 1, none⟩ = some b :=
 ⟨(block_cell h 0).trans rfl, (block_cell h 1).trans rfl⟩
theorem thrice (w : World) (c1 c2 c3 : Array Value) (t1 t2 t3 : TypeId) : Below w.heap.size w (((w.alloc (.cells c1 t1)).alloc (.cells c2 t2)).alloc (.cells c3 t3)) ∧ (((w.alloc (.cells c1 t1)).alloc (.cells c2 t2)).alloc (.cells c3 t3)).heap[w.heap.size]? = some (.cells c1 t1 (0, 0)) ∧ (((w.alloc (.cells c1 t1)).alloc (.cells c2 t2)).alloc (.cells c3 t3)).heap[w.heap.size + 1]? = some (.cells c2 t2 (0, 0)) ∧ (((w.alloc (.cells c1 t1)).alloc (.cells c2 t2)).alloc (.cells c3 t3)).heap[w.heap.size + 1 + 1]? = some (.cells c3 t3 (0, 0)) := by
 obtain ⟨h1, h2, h3, h4⟩ := twice w c1 c2 t1 t2
 have hb := alloc_same ((w.alloc (.cells c1 t1)).alloc (.cells c2 t2)) (.cells c3 t3)
 have h5 := heap_alloc_new ((w.alloc (.cells c1 t1)).alloc (.cells c2 t2)) (.cells c3 t3 (0, 0))
 have hs : ((w.alloc (.cells c1 t1)).alloc (.cells c2 t2)).heap.size = w.heap.size + 1 + 1 := by simp
 rw [hs] at h5
 exact ⟨h1.trans (hb.mono h1.size), (hb.block _ (Array.getElem?_eq_some_iff.1 h2).1).trans h2, (hb.block _ (Array.getElem?_eq_some_iff.1 h3).1).trans h3, h5⟩

set_option maxRecDepth 100000 in
set_option maxHeartbeats 8000000 in
theorem followsFrom_any {a b : Mac} (hz : ∀ z ∈ a.moves, Wmv z) (hz' : ∀ z ∈ b.moves, Wmv z) (hia : isMac a = true) (hib : isMac b = true) (hn : a.parts ≤ 10000000) (hn' : b.parts ≤ 10000000) {ca cb : Array Value} {w0 : World} (h : MacW w0 (.agg ca) a) (h' : MacW w0 (.agg cb) b) (g : Nat) (hg0 : w0.heap.size ≤ g) :
  ∀ (k : Nat) (p : Int × Int) (M : List (Int × Int)) (w : World), Below w0.heap.size w0 w → M.Nodup → (∀ q ∈ M, ReachG (samesP a b) q) → ReachG (samesP a b) p → 36 ≤ M.length + k → Met w g M →
  Calls Try.prog 70 #[.agg ca, .agg cb, .agg #[.int .i64 p.1, .int .i64 p.2], .map (some g)] w fun e w' => ∃ r M', e = .returned (.bool r) ∧ DfsTo (samesP a b) (fun q => followsAtP a b q.1 q.2) M p r M' ∧ Met w' g M' ∧ OnlyG g w w' := by
 obtain ⟨ap, np, cp, q, n, c, e1⟩ := h.shape
 obtain ⟨ap', np', cp', q', n', c', e2⟩ := h'.shape
 cases e1
 cases e2
 have HSM := Lib.hid (sames_small hia hib)
 have HLN := Lib.hid (And.intro (isMac_len hia) (isMac_len hib))
 have HFA : Hid (∀ (x y : Int) (W' : World), Below w0.heap.size w0 W' → Calls Try.prog 100 #[.agg #[.int .i64 a.st, .slice ap np cp, .slice q n c], .agg #[.int .i64 b.st, .slice ap' np' cp', .slice q' n' c'], .int .i64 x, .int .i64 y] W' (Told (.bool (followsAtP a b x y)) W')) :=
  Lib.hid fun x y W' hb => followsAt_any x y (h.same hb) (h'.same hb) hz hz' hn hn'
 have HSA : Hid (∀ (x y : Int) (W' : World), Below w0.heap.size w0 W' → Calls Try.prog 83 #[.agg #[.int .i64 a.st, .slice ap np cp, .slice q n c], .agg #[.int .i64 b.st, .slice ap' np' cp', .slice q' n' c'], .int .i64 x, .int .i64 y] W' (MadeR W'.heap.size (samesP a b x y) W')) :=
  Lib.hid fun x y W' hb => sameMoves_any x y (h.same hb) (h'.same hb) hz hz' hn hn'
 clear h h' hz hz' hia hib
 intro k
 induction k with
 | zero =>
  intro p M w hb hnd hr hrp hk hm
  have hp : p ∈ M := by
   by_cases hp : p ∈ M
   ·exact hp
   ·have := met_room HSM.out hnd hr hp hrp
    omega
  obtain ⟨hB, hX, hY, hP⟩ := thrice w #[.int .i64 a.st, .slice ap np cp, .slice q n c] #[.int .i64 b.st, .slice ap' np' cp', .slice q' n' c'] #[.int .i64 p.1, .int .i64 p.2] 27 27 87
  have HL := met_look (hm.same hB) (small_in6 HSM.out hrp) (fun q hq => small_in6 HSM.out (hr q hq))
  rw [decide_eq_true hp] at HL
  have HB := Lib.hid hB
  have HD := Lib.hid (DfsTo.old (F := fun q => followsAtP a b q.1 q.2) hnd hr hp)
  have HM := Lib.hid (hm.same hB)
  obtain ⟨p0, p1⟩ := pair_cells hP
  clear hB hX hY hP hm hnd hr hrp hp
  go_enter Try.func70, Try.ntmps70
  go_wp2_with fail
  go_ret
  exact ⟨true, M, rfl, HD.out, HM.out, OnlyG.of HB.out⟩
 | succ k ih =>
  intro p M w hb hnd hr hrp hk hm
  have hgw : g < w.heap.size := World.ownsMap.lt hm
  obtain ⟨hB, hX, hY, hP⟩ := thrice w #[.int .i64 a.st, .slice ap np cp, .slice q n c] #[.int .i64 b.st, .slice ap' np' cp', .slice q' n' c'] #[.int .i64 p.1, .int .i64 p.2] 27 27 87
  have HL := met_look (hm.same hB) (small_in6 HSM.out hrp) (fun q hq => small_in6 HSM.out (hr q hq))
  have HB := Lib.hid hB
  have HM := Lib.hid (hm.same hB)
  have HX := Lib.hid hX
  have HY := Lib.hid hY
  have HP := Lib.hid hP
  have HB0 := Lib.hid hb
  have hs0 := hb.size
  by_cases hp : p ∈ M
  ·rw [decide_eq_true hp] at HL
   have HD := Lib.hid (DfsTo.old (F := fun q => followsAtP a b q.1 q.2) hnd hr hp)
   obtain ⟨p0, p1⟩ := pair_cells hP
   clear hB hX hY hP hm hnd hr hrp hp ih hb
   go_enter Try.func70, Try.ntmps70
   go_wp2_with fail
   go_ret
   exact ⟨true, M, rfl, HD.out, HM.out, OnlyG.of HB.out⟩
  ·rw [decide_eq_false hp] at HL
   have HKEY := pair_read (small_in6 HSM.out hrp)
   have hml := met_room HSM.out hnd hr hp hrp
   have HIH := Lib.hid ih
   have HQ := Lib.hid (And.intro hnd (And.intro hr (And.intro hp hrp)))
   obtain ⟨p0, p1⟩ := pair_cells hP
   clear hB hX hY hP hm hnd hr hrp hp ih hb
   unfold pairV at HKEY
   go_enter Try.func70, Try.ntmps70
   have hml2 : M.length < maxLen := by unfold maxLen; omega
   go_wp2_with (at_mapUpdate; refine wpList_mapUpdate_own _ rfl _ _ _ 88 rfl 87 4 pair_law Try.underlying88 heldR g M.length (metD M) rfl HM.out hml2 _ _ (pairL p) rfl rfl HKEY (.held (.bool true)) [] rfl ?_; intro w2 hown2 hgrow2; have HIN := Lib.hid (OnlyG.grow hgrow2); obtain ⟨x0, x1, x2, -⟩ := three_cells (HIN.out.at_ HX.out (by omega)); obtain ⟨y0, y1, y2, -⟩ := three_cells (HIN.out.at_ HY.out (by omega)); obtain ⟨r0, r1⟩ := pair_cells (HIN.out.at_ HP.out (by omega)); clear p0 p1 HL)
   clear x0 x1 x2 y0 y1 y2 r0 r1 hgrow2
   have HM2 : Hid (Met w2 g (p :: M)) := Lib.hid hown2
   clear hown2 HM HKEY
   generalize ((w.alloc (.cells #[.int .i64 a.st, .slice ap np cp, .slice q n c] 27)).alloc (.cells #[.int .i64 b.st, .slice ap' np' cp', .slice q' n' c'] 27)).alloc (.cells #[.int .i64 p.1, .int .i64 p.2] 87) = W1 at *
   have hs1 := HB.out.size
   have HBW1 : Hid (Below w0.heap.size w0 W1) := Lib.hid (HB0.out.trans (HB.out.mono hs0))
   have hs2 := HIN.out.size
   have HBW2 : Hid (Below w0.heap.size w0 w2) := Lib.hid (HIN.out.to HBW1.out hg0 (by omega))
   have HOG : Hid (OnlyG g w w2) := Lib.hid ((OnlyG.of HB.out).trans HIN.out)
   have HNEW := Lib.hid (LoopTo.start (F := fun q => followsAtP a b q.1 q.2) HQ.out.1 HQ.out.2.1 HQ.out.2.2.1 HQ.out.2.2.2)
   cases hf : followsAtP a b p.1 p.2 with
   | false =>
    have HD : Hid (DfsTo (samesP a b) (fun q => followsAtP a b q.1 q.2) M p false (p :: M)) := Lib.hid (DfsTo.bad HQ.out.1 HQ.out.2.1 HQ.out.2.2.1 HQ.out.2.2.2 hf)
    have HC := Lib.hid (HFA.out p.1 p.2 w2 HBW2.out)
    rw [hf] at HC
    clear hf
    refine HC.out.mono ?_
    rintro e w3 ⟨rfl, hb3⟩
    have HO3 := Lib.hid (HOG.out.trans (OnlyG.of hb3))
    have HM3 := Lib.hid (HM2.out.same hb3)
    clear hb3
    go_wp2_with fail
    go_ret
    exact ⟨false, p :: M, rfl, HD.out, HM3.out, HO3.out⟩
   | true =>
    have HFP := Lib.hid hf
    have HC := Lib.hid (HFA.out p.1 p.2 w2 HBW2.out)
    rw [hf] at HC
    clear hf
    refine HC.out.mono ?_
    rintro e w3 ⟨rfl, hb3⟩
    have HO3 := Lib.hid (HOG.out.trans (OnlyG.of hb3))
    have HI3 : Hid (OnlyG g W1 w3) := Lib.hid (HIN.out.trans (OnlyG.of hb3))
    have HM3 := Lib.hid (HM2.out.same hb3)
    have HBW3 : Hid (Below w0.heap.size w0 w3) := Lib.hid (HBW2.out.trans (hb3.mono HBW2.out.size))
    have hs3 := hb3.size
    clear hb3
    obtain ⟨x0, x1, x2, -⟩ := three_cells (HI3.out.at_ HX.out (by omega))
    obtain ⟨y0, y1, y2, -⟩ := three_cells (HI3.out.at_ HY.out (by omega))
    obtain ⟨r0, r1⟩ := pair_cells (HI3.out.at_ HP.out (by omega))
    go_wp2_with fail
    clear x0 x1 x2 y0 y1 y2 r0 r1
    refine (HSA.out p.1 p.2 w3 HBW3.out).mono ?_
    rintro e w4 ⟨g4, m, c4, rfl, ho4, hb4⟩
    have hml4 := ho4.count
    have hsl := samesP_len a b p.1 p.2
    have hl12 := HLN.out.1
    have hroom := ho4.room
    have HO4 : Hid (OwnR w4.heap.size w4 w3.heap.size g4 m c4 (samesP a b p.1 p.2)) := Lib.hid ho4
    have HI4 : Hid (OnlyG g W1 w4) := Lib.hid (HI3.out.trans (OnlyG.of hb4))
    have HG4 : Hid (OnlyG g w w4) := Lib.hid (HO3.out.trans (OnlyG.of hb4))
    have HM4 := Lib.hid (HM3.out.same hb4)
    have HBW4 : Hid (Below w0.heap.size w0 w4) := Lib.hid (HBW3.out.trans (hb4.mono HBW3.out.size))
    have hs4 := hb4.size
    clear ho4 hb4
    go_wp2_with fail
    go_loopw [32] (fun i wr => ∃ (j : Nat) (M1 : List (Int × Int)), j ≤ m ∧ i = .int .i64 j ∧ LoopTo (samesP a b) (fun q => followsAtP a b q.1 q.2) (p :: M) ((samesP a b p.1 p.2).take j) M1 ∧ Met wr g M1 ∧ OnlyG g w4 wr) (fun i _ => m - (intOf i).toNat)
    case atStart => exact ⟨0, p :: M, Nat.zero_le _, rfl, HNEW.out, HM4.out, OnlyG.of (Below.refl _ _)⟩
    case round =>
     obtain ⟨j, M1, hj, rfl, hlo, hmt, hon⟩ := hrel
     have HLO := Lib.hid hlo
     have HMT := Lib.hid hmt
     have HON := Lib.hid hon
     have hsr := hon.size
     clear hlo hmt hon
     by_cases hlt : j < m
     ·obtain ⟨r, z, hzz, hc0, hrow, o1, o2, o3⟩ := (HO4.out.aside HON.out (Or.inl (by omega))).at_ hlt
      have HZZ := Lib.hid hzz
      have HROW := Lib.hid hrow
      obtain ⟨d0, d1⟩ := two_cells hrow
      obtain ⟨x0, x1, x2, -⟩ := three_cells ((HI4.out.trans HON.out).at_ HX.out (by omega))
      obtain ⟨y0, y1, y2, -⟩ := three_cells ((HI4.out.trans HON.out).at_ HY.out (by omega))
      have hrz : ReachG (samesP a b) z := ReachG.step HQ.out.2.2.2 (List.mem_of_getElem? hzz)
      have hM1 := HLO.out.len
      simp only [List.length_cons] at hM1
      have HBR : Hid (Below w0.heap.size w0 wr) := Lib.hid (HON.out.to HBW4.out hg0 (by omega))
      have HREC : Hid (∀ W', Below wr.heap.size wr W' → _) := Lib.hid (fun W' hb' => HIH.out z M1 W' (HBR.out.trans (hb'.mono HBR.out.size)) HLO.out.nodup HLO.out.reach hrz (by omega) (HMT.out.same hb'))
      clear hzz hrow hrz
      go_wp2_with fail
      go_still_tail 10, (by kernel_rfl)
      have H2 : Hid (Below wr.heap.size wr wr.drew) := Lib.hid (Below.refl _ _).drew
      change wpList _ _ _ _ _ wr.drew
      generalize wr.drew = w5 at H2 ⊢
      clear x0 x1 x2 y0 y1 y2 d0 d1 hc0
      go_wp2_with fail
      refine (HREC.out w5 H2.out).mono ?_
      rintro e w6 ⟨rr, M2, rfl, hdf, hmt2, hon2⟩
      have HO6 : Hid (OnlyG g w4 w6) := Lib.hid (HON.out.trans ((OnlyG.of H2.out).trans hon2))
      have HM6 := Lib.hid hmt2
      clear hmt2 hon2
      cases rr with
      | false =>
       have HD := Lib.hid (HLO.out.fail hdf)
       clear hdf
       go_wp2_with fail
       go_ret
       exact ⟨false, M2, rfl, HD.out, HM6.out, HG4.out.trans HO6.out⟩
      | true =>
       have HS := Lib.hid (HLO.out.step hdf)
       clear hdf
       go_wp2_with fail
       go_roundw
       case rel => exact ⟨j + 1, M2, by omega, by go_num, by rw [List.take_add_one, HZZ.out]; exact HS.out, HM6.out, HO6.out⟩
       case measure => simp [intOf]; omega
     ·obtain rfl : j = m := by omega
      have hlo := HLO.out
      rw [List.take_of_length_le (by omega)] at hlo
      have HD := Lib.hid (hlo.done HFP.out)
      clear hlo
      go_wp2_with fail
      go_ret
      exact ⟨true, M1, rfl, HD.out, HMT.out, HG4.out.trans HON.out⟩
end Go.Proofs.Ytckmgbobkffabaa
