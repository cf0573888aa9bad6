/- Deals are compared: by the program and by the model. How a hello and an answer among the arguments are read. How an edit, a deal and a list of edits among the arguments are read. The extensions without some tags: by the program. -/
import Derived.Test.YtcmjadfpifpknaaG16
import Derived.Test.YtcmjadfpifpknaaG8
import Derived.Test.YtcmjadfpifpknaaG14
import Derived.Lib.SmallJoins
import Derived.Deep.Slices
import Derived.Deep.Fields
import Derived.Test.YtcmjadfpifpknaaG11
import Derived.Deep.LoopGhost
namespace Go.Proofs.Ytcmjadfpifpknaa
open Go.ChangeShapes Go.WideShapes Go.ChangeAt Go.RowKit
set_option linter.unusedVariables false
set_option linter.unusedSimpArgs false

def eqDl (x y : Dl) : Bool := (x.ok == y.ok) && ((x.ver == y.ver) && decide (x.tags = y.tags))
theorem equalTags_any {a b : Option Addr} {n m c d : Nat} {l l' : List Int} {w : World} (h : Nums .i64 w a n l) (h' : Nums .i64 w b m l') :
    Calls Try.prog 50 #[.slice a n c, .slice b m d] w (Told (.bool (decide (l = l'))) w) := by
  by_cases e : l = l'
  · subst e
    rw [decide_eq_true rfl]
    exact equalInts_yes h h'
  · rw [decide_eq_false e]
    exact equalInts_no h h' e
theorem specEqualTags_any {a b : Option Addr} {n m c d : Nat} {l l' : List Int} {w : World} (h : Nums .i64 w a n l) (h' : Nums .i64 w b m l') :
    Calls Try.prog 49 #[.slice a n c, .slice b m d] w (Told (.bool (decide (l = l'))) w) := by
  by_cases e : l = l'
  · subst e
    rw [decide_eq_true rfl]
    exact specEqualInts_yes h h'
  · rw [decide_eq_false e]
    exact specEqualInts_no h h' e
set_option maxHeartbeats 4000000 in
set_option maxRecDepth 100000 in
theorem equalDeals_any {w : World} {v v' : Value} {x y : Dl} (h : DlW w v x) (h' : DlW w v' y) : Calls Try.prog 24 #[v, v'] w (Told (.bool (eqDl x y)) w) := by
  obtain ⟨a, n, c, rfl, h1, h2⟩ := h
  obtain ⟨b, m, d, rfl, h3, h4⟩ := h'
  have HB := Lib.hid (((Below.refl _ w).alloc (Nat.le_refl _) (.cells #[.bool x.ok, .int .i64 x.ver, .slice a n c] 53)).alloc (by simp) (.cells #[.bool y.ok, .int .i64 y.ver, .slice b m d] 53))
  have HK := Lib.hid (equalTags_any (c := c) (d := d) (h1.same HB.out) (h3.same HB.out))
  clear h1 h2 h3 h4
  unfold eqDl
  cases ho : (x.ok == y.ok) with
  | false =>
    rw [Bool.false_and]
    go_enter Try.func24, Try.ntmps24
    go_wp2_with fail
    go_ret
    exact ⟨rfl, HB.out⟩
  | true =>
    rw [Bool.true_and]
    cases hv : (x.ver == y.ver) with
    | false =>
      rw [Bool.false_and]
      go_enter Try.func24, Try.ntmps24
      go_wp2_with fail
      go_ret
      exact ⟨rfl, HB.out⟩
    | true =>
      rw [Bool.true_and]
      go_enter Try.func24, Try.ntmps24
      go_wp2_with fail
      refine HK.out.mono ?_
      rintro e w1 ⟨rfl, hb⟩
      have HB2 := Lib.hid (HB.out.trans (hb.mono HB.out.size))
      clear hb
      go_wp2_with fail
      go_ret
      exact ⟨rfl, HB2.out⟩
set_option maxHeartbeats 4000000 in
set_option maxRecDepth 100000 in
theorem specEqualDeals_any {w : World} {v v' : Value} {x y : Dl} (h : DlW w v x) (h' : DlW w v' y) : Calls Try.prog 22 #[v, v'] w (Told (.bool (eqDl x y)) w) := by
  obtain ⟨a, n, c, rfl, h1, h2⟩ := h
  obtain ⟨b, m, d, rfl, h3, h4⟩ := h'
  have HB := Lib.hid (((Below.refl _ w).alloc (Nat.le_refl _) (.cells #[.bool x.ok, .int .i64 x.ver, .slice a n c] 53)).alloc (by simp) (.cells #[.bool y.ok, .int .i64 y.ver, .slice b m d] 53))
  have HK := Lib.hid (specEqualTags_any (c := c) (d := d) (h1.same HB.out) (h3.same HB.out))
  clear h1 h2 h3 h4
  unfold eqDl
  cases ho : (x.ok == y.ok) with
  | false =>
    rw [Bool.false_and]
    go_enter Try.func22, Try.ntmps22
    go_wp2_with fail
    go_ret
    exact ⟨rfl, HB.out⟩
  | true =>
    rw [Bool.true_and]
    cases hv : (x.ver == y.ver) with
    | false =>
      rw [Bool.false_and]
      go_enter Try.func22, Try.ntmps22
      go_wp2_with fail
      go_ret
      exact ⟨rfl, HB.out⟩
    | true =>
      rw [Bool.true_and]
      go_enter Try.func22, Try.ntmps22
      go_wp2_with fail
      refine HK.out.mono ?_
      rintro e w1 ⟨rfl, hb⟩
      have HB2 := Lib.hid (HB.out.trans (hb.mono HB.out.size))
      clear hb
      go_wp2_with fail
      go_ret
      exact ⟨rfl, HB2.out⟩
end Go.Proofs.Ytcmjadfpifpknaa
namespace Go.Proofs.Ytcmjadfpifpknaa
open Go.ChangeShapes Go.WideShapes Go.ChangeAt Go.RowKit
set_option linter.unusedVariables false

set_option maxRecDepth 100000 in
theorem trod_vals {T E I : TypeId} {f0 f1 : Field} (hT : Try.prog.underlying T = some (.slice E)) (hE : Try.prog.underlying E = some (.struct #[f0, f1])) (hone : Go.Deep.oneCellFields Try.prog #[f0, f1] = true) (hC : Try.prog.cellsOf E = 2)
    (t0 : Try.prog.underlying f0.type = some (.int .i64)) (t1 : Try.prog.underlying f1.type = some (.slice I)) (tI : Try.prog.underlying I = some (.int .i64)) (hI : Try.prog.cellsOf I = 1)
    {H : Type} {enc : TypeId × Value → H} {W : World} {fuel : Nat} {cs : List Value} {y : DataW H × List MemPlace} (h : DataW.trod enc Try.prog W 0 (fun _ => true) true fuel T cs = some y) :
    ∃ (a : Option Addr) (n c : Nat) (l : List Vl), cs = [.slice a n c] ∧ Vals W a n l ∧ (∀ x ∈ l, x.wf) ∧ n ≤ c ∧ (c : Int) ≤ 9223372036854775807 := by
  rcases Go.Deep.open_slice hT h with ⟨hcs, hx⟩ | ⟨a, len, cap, m, n, D, Pl, hcs, hb, hl, hm, hmm, hx, hi⟩
  · exact ⟨none, 0, 0, [], hcs, Vals.nothing, (fun _ h => by cases h), Nat.le_refl _, by omega⟩
  · simp only [if_true] at hmm
    subst hmm
    have each : ∀ i, i < len → ∃ x : Vl, (∃ q k e, W.cell? ((a.add (i * 2)).add 0) = some (.int .i64 x.num) ∧ W.cell? ((a.add (i * 2)).add 1) = some (.slice q k e) ∧ Nums .i64 W q k x.items ∧ k ≤ e ∧ (e : Int) ≤ 9223372036854775807) ∧ x.wf := by
      intro i hil
      obtain ⟨cs', hc, ht'⟩ := hi i (by omega)
      rw [hC] at hc
      obtain ⟨ys, k, _, _, hlen, hyl, hfs⟩ := DataW.trod_struct hE ht'
      obtain ⟨_, hcl, hat⟩ := World.cells?_some hc
      obtain ⟨o0, k0⟩ := Go.Deep.hone_of hone 0 f0 rfl
      obtain ⟨o1, k1⟩ := Go.Deep.hone_of hone 1 f1 rfl
      match cs', hlen.trans hC with
      | [c0, c1], _ =>
        have g0 := hfs 0 f0 rfl
        have g1 := hfs 1 f1 rfl
        rw [o0, k0] at g0
        rw [o1, k1] at g1
        have hys : ys.length = 2 := hyl
        obtain ⟨x0, rfl, w0⟩ := one_cell t0 g0 (by rw [List.getElem?_eq_getElem (by omega)]; rfl)
        obtain ⟨y1, g1'⟩ := trod_some g1 (by rw [List.getElem?_eq_getElem (by omega)]; rfl)
        obtain ⟨q, kk, e, l, hq, hN, hw, hr⟩ := trod_nums t1 tI hI g1'
        have hc1 : c1 = .slice q kk e := by simpa using hq
        subst hc1
        exact ⟨⟨x0, l⟩, ⟨q, kk, e, by rw [hat 0 (by omega)]; rfl, by rw [hat 1 (by omega)]; rfl, hN, hr⟩, w0, hw⟩
    have each' : ∀ i, ∃ x : Vl, i < len → (∃ q k e, W.cell? ((a.add (i * 2)).add 0) = some (.int .i64 x.num) ∧ W.cell? ((a.add (i * 2)).add 1) = some (.slice q k e) ∧ Nums .i64 W q k x.items ∧ k ≤ e ∧ (e : Int) ≤ 9223372036854775807) ∧ x.wf := fun i => by
      by_cases h : i < len
      · obtain ⟨x, hx⟩ := each i h
        exact ⟨x, fun _ => hx⟩
      · exact ⟨⟨0, []⟩, fun h' => absurd h' h⟩
    obtain ⟨g, hg⟩ := Classical.axiomOfChoice each'
    unfold maxLen at hm
    refine ⟨some a, len, m, (List.range len).map g, hcs, ⟨by simp, by omega, fun j x hj => ?_⟩, ?_, hl, by omega⟩
    · have hjl : j < len := by
        rcases Nat.lt_or_ge j len with h | h
        · exact h
        · rw [List.getElem?_eq_none (by simpa using h)] at hj; cases hj
      rw [List.getElem?_map, List.getElem?_range hjl] at hj
      cases hj
      obtain ⟨q, k, e, h0, h1, hN, hr⟩ := (hg j hjl).1
      obtain ⟨q', k', e', z0, _⟩ := (hg 0 (by omega)).1
      obtain ⟨b, o, spot⟩ := a
      have hspot : spot = none := by
        rw [addr_add, show (0 * 2 + 0) = 0 from rfl, show (⟨b, o, spot⟩ : Addr).add 0 = ⟨b, o, spot⟩ from rfl] at z0
        exact World.cell?_spot z0
      subst hspot
      have e0 : ∀ i, ((⟨b, o, none⟩ : Addr).add (j * 2)).add i = ⟨b, o + j * 2 + i, none⟩ := fun i => by
        rw [addr_add]
        unfold Addr.add
        split <;> simp_all <;> omega
      rw [e0] at h0 h1
      exact ⟨b, o, q, k, e, rfl, h0, h1, hN, hr⟩
    · intro x hx
      obtain ⟨i, hi', rfl⟩ := List.mem_map.1 hx
      exact (hg i (List.mem_range.1 hi')).2
def Hel.wf (x : Hel) : Prop := (∀ z ∈ x.vers, (Lit.int .i64 z).wf = true) ∧ ∀ z ∈ x.exts, z.wf
def Ans.wf (x : Ans) : Prop := (Lit.int .i64 x.ver).wf = true ∧ ∀ z ∈ x.exts, z.wf
set_option maxRecDepth 100000 in
theorem open_hel {E I M : TypeId} {f0 f1 g0 g1 : Field} (hE : Try.prog.underlying E = some (.struct #[f0, f1])) (hone : Go.Deep.oneCellFields Try.prog #[f0, f1] = true) (hC : Try.prog.cellsOf E = 2)
    (t0 : Try.prog.underlying f0.type = some (.slice I)) (tI : Try.prog.underlying I = some (.int .i64)) (hI : Try.prog.cellsOf I = 1)
    (t1 : Try.prog.underlying f1.type = some (.slice M)) (hM : Try.prog.underlying M = some (.struct #[g0, g1])) (honeM : Go.Deep.oneCellFields Try.prog #[g0, g1] = true) (hCM : Try.prog.cellsOf M = 2)
    (m0 : Try.prog.underlying g0.type = some (.int .i64)) (m1 : Try.prog.underlying g1.type = some (.slice I))
    {H : Type} {enc : TypeId × Value → H} {W : World} {base : Nat} {v : Value} {d : DataW H} {p : List MemPlace}
    (hval : Value.okWide Try.prog W .any base E v) (h : DataW.Trod enc Try.prog W 0 (fun _ => true) true E v d p) : ∃ x : Hel, HelW W v x ∧ x.wf := by
  obtain ⟨v0, v1, y0, y1, n, rfl, _, _, h0, h1⟩ := Go.Joins.open_agg2 hE hone hC hval h
  obtain ⟨a, k, c, l1, e1, b1, w1, r1⟩ := trod_nums t0 tI hI h0
  obtain ⟨b, m, dd, l2, e2, b2, w2, r2⟩ := trod_vals t1 hM honeM hCM m0 m1 tI hI h1
  have f1 : v0 = .slice a k c := by simpa using e1
  have f2 : v1 = .slice b m dd := by simpa using e2
  subst f1 f2
  exact ⟨⟨l1, l2⟩, ⟨a, k, c, b, m, dd, rfl, b1, b2, r1, r2⟩, w1, w2⟩
set_option maxRecDepth 100000 in
theorem open_ans {E I M : TypeId} {f0 f1 g0 g1 : Field} (hE : Try.prog.underlying E = some (.struct #[f0, f1])) (hone : Go.Deep.oneCellFields Try.prog #[f0, f1] = true) (hC : Try.prog.cellsOf E = 2)
    (t0 : Try.prog.underlying f0.type = some (.int .i64)) (tI : Try.prog.underlying I = some (.int .i64)) (hI : Try.prog.cellsOf I = 1)
    (t1 : Try.prog.underlying f1.type = some (.slice M)) (hM : Try.prog.underlying M = some (.struct #[g0, g1])) (honeM : Go.Deep.oneCellFields Try.prog #[g0, g1] = true) (hCM : Try.prog.cellsOf M = 2)
    (m0 : Try.prog.underlying g0.type = some (.int .i64)) (m1 : Try.prog.underlying g1.type = some (.slice I))
    {H : Type} {enc : TypeId × Value → H} {W : World} {base : Nat} {v : Value} {d : DataW H} {p : List MemPlace}
    (hval : Value.okWide Try.prog W .any base E v) (h : DataW.Trod enc Try.prog W 0 (fun _ => true) true E v d p) : ∃ x : Ans, AnsW W v x ∧ x.wf := by
  obtain ⟨v0, v1, y0, y1, n, rfl, _, _, h0, h1⟩ := Go.Joins.open_agg2 hE hone hC hval h
  obtain ⟨x0, rfl, w0⟩ := one_cell t0 h0 rfl
  obtain ⟨b, m, dd, l2, e2, b2, w2, r2⟩ := trod_vals t1 hM honeM hCM m0 m1 tI hI h1
  have f2 : v1 = .slice b m dd := by simpa using e2
  subst f2
  exact ⟨⟨x0, l2⟩, ⟨b, m, dd, rfl, b2, r2⟩, w0, w2⟩
end Go.Proofs.Ytcmjadfpifpknaa
namespace Go.Proofs.Ytcmjadfpifpknaa
open Go.ChangeShapes Go.WideShapes Go.ChangeAt Go.RowKit
set_option linter.unusedVariables false

def Dl.wf (x : Dl) : Prop := (Lit.int .i64 x.ver).wf = true ∧ ∀ z ∈ x.tags, (Lit.int .i64 z).wf = true
theorem one_boolD {P : Program} {H : Type} {enc : TypeId × Value → H} {w : World} {base n : Nat} {spare : Nat → Bool} {held : Bool} {t : TypeId} {c : Value} {y : DataW H × List MemPlace} (ht : P.underlying t = some .bool)
    (h : DataW.trod enc P w base spare held n t [c] = some y) : ∃ x, c = .bool x := by
  obtain ⟨x, h1, _⟩ := DataW.trod_bool ht h
  injection h1 with h3
  exact ⟨x, h3⟩
set_option maxRecDepth 100000 in
theorem open_et {E : TypeId} {f0 f1 : Field} (hE : Try.prog.underlying E = some (.struct #[f0, f1])) (hone : Go.Deep.oneCellFields Try.prog #[f0, f1] = true) (hC : Try.prog.cellsOf E = 2)
    (t0 : Try.prog.underlying f0.type = some (.int .i64)) (t1 : Try.prog.underlying f1.type = some (.int .i64))
    {H : Type} {enc : TypeId × Value → H} {W : World} {base : Nat} {v : Value} {d : DataW H} {p : List MemPlace}
    (hval : Value.okWide Try.prog W .any base E v) (h : DataW.Trod enc Try.prog W 0 (fun _ => true) true E v d p) : ∃ x : Et, v = .agg #[.int .i64 x.kind, .int .i64 x.n] ∧ x.wf := by
  obtain ⟨v0, v1, y0, y1, n, rfl, _, _, h0, h1⟩ := Go.Joins.open_agg2 hE hone hC hval h
  obtain ⟨x0, rfl, w0⟩ := one_cell t0 h0 rfl
  obtain ⟨x1, rfl, w1⟩ := one_cell t1 h1 rfl
  exact ⟨⟨x0, x1⟩, rfl, w0, w1⟩
set_option maxRecDepth 100000 in
theorem open_dl {E I : TypeId} {f0 f1 f2 : Field} (hE : Try.prog.underlying E = some (.struct #[f0, f1, f2])) (hone : Go.Deep.oneCellFields Try.prog #[f0, f1, f2] = true) (hC : Try.prog.cellsOf E = 3)
    (t0 : Try.prog.underlying f0.type = some .bool) (t1 : Try.prog.underlying f1.type = some (.int .i64)) (t2 : Try.prog.underlying f2.type = some (.slice I)) (tI : Try.prog.underlying I = some (.int .i64)) (hI : Try.prog.cellsOf I = 1)
    {H : Type} {enc : TypeId × Value → H} {W : World} {base : Nat} {v : Value} {d : DataW H} {p : List MemPlace}
    (hval : Value.okWide Try.prog W .any base E v) (h : DataW.Trod enc Try.prog W 0 (fun _ => true) true E v d p) : ∃ x : Dl, DlW W v x ∧ x.wf := by
  obtain ⟨v0, v1, v2, y0, y1, y2, n, rfl, _, _, h0, h1, h2⟩ := Go.Joins.open_agg3 hE hone hC hval h
  obtain ⟨x0, rfl⟩ := one_boolD t0 h0
  obtain ⟨x1, rfl, w1⟩ := one_cell t1 h1 rfl
  obtain ⟨a, k, c, l1, e1, b1, w2, r1⟩ := trod_nums t2 tI hI h2
  have f1 : v2 = .slice a k c := by simpa using e1
  subst f1
  exact ⟨⟨x0, x1, l1⟩, ⟨a, k, c, rfl, b1, r1⟩, w1, w2⟩
end Go.Proofs.Ytcmjadfpifpknaa
namespace Go.Proofs.Ytcmjadfpifpknaa
open Go.ChangeShapes Go.WideShapes Go.ChangeAt Go.RowKit
set_option linter.unusedVariables false
set_option linter.unusedSimpArgs false

set_option maxHeartbeats 4000000 in
set_option maxRecDepth 100000 in
theorem withoutTags_any {a b : Option Addr} {n c m d : Nat} {l : List Vl} {ts : List Int} {w : World} (h : Vals w a n l) (ht : Nums .i64 w b m ts) (hn : n ≤ 1048576) (hit : itemsOf l ≤ 1048576) :
    Calls Try.prog 72 #[.slice a n c, .slice b m d] w (MadeV 64 3 w.heap.size (whX (fun k => decide (¬ k ∈ ts)) l) w) := by
  have H := Lib.hid h
  have hln := Lib.hid h.len
  have HT := Lib.hid ht
  have htl := Lib.hid ht.len
  have hmf := ht.fits
  obtain ⟨i0, hi, hz0, hz1, hz2⟩ := info_parts infoExtS
  have HI := Lib.hid (And.intro hi (And.intro hz0 (And.intro hz1 hz2)))
  obtain ⟨f, hf⟩ : ∃ f : Int → Bool, (fun k => decide (¬ k ∈ ts)) = f := ⟨_, rfl⟩
  have HFN := Lib.hid hf
  rw [hf]
  have HO : Hid (OwnV 64 3 (w.alloc (.cells #[] 64)) w.heap.size (some ⟨w.heap.size, 0, none⟩) 0 0 (whX f (l.take 0))) := Lib.hid (OwnV.empty (Nat.le_refl _))
  clear h ht hi hz0 hz1 hz2 hf
  unfold MadeV
  go_enter Try.func72, Try.ntmps72
  go_wp2_with fail
  go_step3
  go_wp2_with fail
  go_step3
  go_wp2_with fail
  go_loopg [5, 13] n (fun k v i wr => ∃ (j : Nat) (q : Option Addr) (r e : Nat), k + j = n ∧ i = .int .i64 j ∧ v = .slice q r e ∧ OwnV 64 3 wr w.heap.size q r e (whX f (l.take j)) ∧ Below w.heap.size w wr)
  case atStart => exact ⟨0, _, _, _, rfl, rfl, rfl, HO.out, alloc_same _ _⟩
  case round =>
    obtain ⟨j, q, r, e, hkj, rfl, rfl, hown, hb⟩ := hrel
    obtain ⟨w1, hwv⟩ : ∃ u, u = wr := ⟨wr, rfl⟩
    subst hwv
    have HO2 := Lib.hid hown
    have HB2 := Lib.hid hb
    clear hown hb
    by_cases hlt : j < n
    · obtain ⟨bb, o, p, pm, pd, k, y, rfl, hx, hc0, hc1, hN, hr⟩ := (H.out.same HB2.out).at_ hlt
      have hsz := HB2.out.size
      have hym := hN.len
      have hyi := itemsOf_mem hx
      dsimp only at hyi
      have hrl : r ≤ 1048576 := by
        have h1 := HO2.out.len
        have h2 := wh_few f (l.take j)
        rw [List.length_take] at h2
        omega
      have HW : Hid (Below w1.heap.size w1 (w1.alloc (.cells #[.int .i64 k, .slice p pm pd] 64))) := Lib.hid (alloc_same _ _)
      have HWc : Hid ((w1.alloc (.cells #[.int .i64 k, .slice p pm pd] 64)).cell? ⟨w1.heap.size, 0, none⟩ = some (.int .i64 k) ∧ (w1.alloc (.cells #[.int .i64 k, .slice p pm pd] 64)).cell? ⟨w1.heap.size, 1, none⟩ = some (.slice p pm pd)) := Lib.hid ⟨block_cell (heap_alloc_new w1 _) 0, block_cell (heap_alloc_new w1 _) 1⟩
      have hs2 : w1.heap.size ≤ (w1.alloc (.cells #[.int .i64 k, .slice p pm pd] 64)).heap.size := HW.out.size
      have HNp := Lib.hid hN
      have HX := Lib.hid hx
      clear hx hN
      go_wp2_with fail
      generalize hgen : w1.alloc (.cells #[.int .i64 k, .slice p pm pd] 64) = w2 at *
      go_loopg [19] m (fun g i wx => ∃ z : Nat, g + z = m ∧ i = .int .i64 z ∧ wx = w2 ∧ ¬ k ∈ ts.take z)
      case atStart => exact ⟨0, rfl, rfl, rfl, by simp⟩
      case round =>
        obtain ⟨z, hgz, rfl, hww, hno⟩ := hrel
        subst hww
        by_cases hlt2 : z < m
        · obtain ⟨ad, t, rfl, ht, hct⟩ := (HT.out.same (HB2.out.trans (HW.out.mono hsz))).at_ hlt2
          have hc := HWc.out.1
          by_cases he : k = t
          · have he2 : (k == t) = true := by simp [he]
            have HF : Hid (whX f (l.take (j + 1)) = whX f (l.take j)) := Lib.hid (wh_no HX.out (by rw [← HFN.out]; simp only [decide_eq_false_iff_not, Classical.not_not]; rw [he]; exact List.mem_of_getElem? ht))
            clear ht hno he
            go_wp2_with fail
            go_roundg (n - (j + 1))
            case measure => omega
            case rel => exact ⟨j + 1, q, r, e, by omega, by go_num, rfl, by rw [HF.out]; exact HO2.out.same HW.out, HB2.out.trans (HW.out.mono hsz)⟩
          · have he2 : (k == t) = false := by simpa using he
            have HNO : Hid (¬ k ∈ ts.take (z + 1)) := Lib.hid (by
              rw [List.take_add_one, ht]
              intro hm
              rcases List.mem_append.1 hm with h | h
              · exact hno h
              · exact he (by simpa using h))
            clear ht hno he
            go_wp2_with fail
            go_roundg (m - (z + 1))
            case measure => omega
            case rel => exact ⟨z + 1, by omega, by go_num, rfl, HNO.out⟩
        · obtain rfl : z = m := by omega
          have HF : Hid (whX f (l.take (j + 1)) = whX f (l.take j) ++ [⟨k, y⟩]) := Lib.hid (wh_yes HX.out (by rw [← HFN.out]; rw [List.take_of_length_le (by rw [htl.out]; omega)] at hno; simpa using hno))
          have c0 := HWc.out.1
          have c1 := HWc.out.2
          have HC := Lib.hid (copyExt_any k p pm pd y wr (HNp.out.same HW.out) (by omega))
          unfold MadeX at HC
          clear hno
          go_wp2_with fail
          refine HC.out.mono ?_
          rintro e3 w3 ⟨q3, m3, d3, rfl, ho3, hb3⟩
          have HO3 := Lib.hid ho3
          have HB4 := Lib.hid (HW.out.trans (hb3.mono hs2))
          have hs4 := HB4.out.size
          have hs5 := hb3.size
          have HNN : Hid (Items Vh.enc 2 (w3.alloc (.cells #[.int .i64 k, .slice q3 m3 d3] 64)) (some ⟨w3.heap.size, 0, none⟩) 1 [⟨k, q3, m3, d3⟩]) := Lib.hid (items_new Vh.enc_len w3 ⟨k, q3, m3, d3⟩ 64)
          clear hb3 hc0 hc1 ho3 c0 c1
          go_wp2_with (at_builtin; refine wpl_appV (S := w1.heap.size) (B := w.heap.size) _ rfl (.tmp 28) (.tmp 31) 29 rfl 64 3 i0 (.agg #[.int .i64 0, .slice none 0 0]) 32 Try.underlying29 HI.out.1 HI.out.2.1 HI.out.2.2.1 HI.out.2.2.2 rfl rfl ((HO2.out.lim.same HB4.out).same (alloc_same _ _)) rfl HNN.out ((HO3.out.lower (by omega)).alloc _) (fun ad e => by have := (HO3.out.span ad e).1; omega) (by omega) ?c4 ?c5 ?_)
          case c4 => omega
          case c5 => simp; omega
          intro a4 c4 w4 ho4 hb4
          have HO4 : Hid (OwnV 64 3 w4 w.heap.size a4 (r + 1) c4 (whX f (l.take (j + 1)))) := Lib.hid (by rw [HF.out]; exact ho4)
          have HB5 : Hid (Below w.heap.size w w4) := Lib.hid ((HB2.out.trans (HB4.out.mono hsz)).trans ((((alloc_same _ _).mono (Nat.le_trans hsz hs4))).trans hb4))
          clear ho4 hb4
          go_wp2_with fail
          go_roundg (n - (j + 1))
          case measure => omega
          case rel => exact ⟨j + 1, a4, _, c4, by omega, by go_num, rfl, HO4.out, HB5.out⟩
    · obtain rfl : j = n := by omega
      go_wp2_with fail
      (try rw [Exit.noGoto_ret])
      go_ret
      have h1 := HO2.out
      rw [List.take_of_length_le (by rw [hln.out]; omega)] at h1
      exact ⟨_, _, _, rfl, h1, HB2.out⟩
theorem withoutOne_any {a b : Option Addr} {n c d : Nat} {l : List Vl} {t : Int} {w : World} (h : Vals w a n l) (ht : Nums .i64 w b 1 [t]) (hn : n ≤ 1048576) (hit : itemsOf l ≤ 1048576) :
    Calls Try.prog 72 #[.slice a n c, .slice b 1 d] w (MadeV 64 3 w.heap.size (whX (fun k => decide (¬ k = t)) l) w) := by
  have e : (fun k : Int => decide (¬ k = t)) = fun k => decide (¬ k ∈ [t]) := by funext k; simp
  rw [e]
  exact withoutTags_any h ht hn hit
end Go.Proofs.Ytcmjadfpifpknaa
