/- How lists of values, and a field or a value handed over by itself, are read among the arguments. The tags of a list of extensions, the fields of the parts, whether an extension and a list of them are valid, where a tag stands: by the program. Whether a list of extensions is valid, and where a tag stands: by the program. Whether a number is on a list, by the model. Whether a list of extensions is valid, where a tag stands, the tags: by the model. -/
import Derived.Test.YtgkacnngodamgaaG2
import Derived.Test.YtgkacnngodamgaaG7
import Derived.Lib.SmallJoins
import Derived.Test.YtgkacnngodamgaaG4
import Derived.Deep.QuietTactic
import Derived.BigQuiet
import Derived.RegionTactic
import Derived.Deep.RegionHeld3
import Derived.Test.YtgkacnngodamgaaG1
import Derived.Handy
import Derived.Test.YtgkacnngodamgaaG5
namespace Go.Proofs.Ytgkacnngodamgaa
open Go.ChangeShapes Go.WideShapes Go.ChangeAt Go.RowKit
set_option linter.unusedVariables false

theorem trod_nums {k : IntKind} {P : Program} {T E : TypeId} (hT : P.underlying T = some (.slice E)) (hE : P.underlying E = some (.int k)) (hone : P.cellsOf E = 1) {H : Type} {enc : TypeId × Value → H} {W : World} {n : Nat} {cs : List Value} {x : DataW H × List MemPlace}
    (h : DataW.trod enc P W 0 (fun _ => true) true n T cs = some x) :
    ∃ (a : Option Addr) (m c : Nat) (l : List Int), cs = [.slice a m c] ∧ Nums k W a m l ∧ (∀ x ∈ l, (Lit.int k x).wf = true) ∧ m ≤ c ∧ (c : Int) ≤ 9223372036854775807 := by
  rcases open_ints hT hE hone h with ⟨hcs, hx⟩ | ⟨a, len', cap', zs, hcs, _, hl, hm, hz, hx, hcell, hwz⟩
  · exact ⟨none, 0, 0, [], hcs, Nums.none, (fun _ h => by cases h), Nat.le_refl _, by omega⟩
  · have hlz : zs.length = cap' := by simpa using hz
    unfold maxLen at hm
    refine ⟨some a, len', cap', zs.take len', hcs, ⟨by rw [List.length_take]; omega, by omega, fun j hj => ⟨a, rfl, ?_⟩⟩, fun x hx => hwz x (List.mem_of_mem_take hx), hl, by omega⟩
    rw [hcell j (by omega)]
    simp [List.getD, hj]
theorem trod_some {H : Type} {P : Program} {enc : TypeId × Value → H} {w : World} {base n : Nat} {spare : Nat → Bool} {held : Bool} {t : TypeId} {cs : List Value} {o : Option (DataW H × List MemPlace)}
    (h : DataW.trod enc P w base spare held n t cs = o) (ho : o.isSome = true) : ∃ x, DataW.trod enc P w base spare held n t cs = some x := by
  cases o with
  | none => cases ho
  | some y => exact ⟨y, h⟩

def Vl.wf (x : Vl) : Prop := (Lit.int .i64 x.num).wf = true ∧ ∀ y ∈ x.items, (Lit.int .i64 y).wf = true
set_option maxRecDepth 100000 in
theorem open_vals {T E I : TypeId} {f0 f1 : Field} (hT : Try.prog.underlying T = some (.slice E)) (hE : Try.prog.underlying E = some (.struct #[f0, f1])) (hone : Go.Deep.oneCellFields Try.prog #[f0, f1] = true) (hC : Try.prog.cellsOf E = 2)
    (t0 : Try.prog.underlying f0.type = some (.int .i64)) (t1 : Try.prog.underlying f1.type = some (.slice I)) (tI : Try.prog.underlying I = some (.int .i64)) (hI : Try.prog.cellsOf I = 1)
    {H : Type} {enc : TypeId × Value → H} {W : World} {base : Nat} {v : Value} {d : DataW H} {p : List MemPlace}
    (hval : Value.okWide Try.prog W .any base T v) (h : DataW.Trod enc Try.prog W 0 (fun _ => true) true T v d p) :
    ∃ (a : Option Addr) (n c : Nat) (l : List Vl), v = .slice a n c ∧ Vals W a n l ∧ (∀ x ∈ l, x.wf) ∧ n ≤ c ∧ (c : Int) ≤ 9223372036854775807 := by
  obtain ⟨a0, len, cap, rfl⟩ := okWide_slice hT hval
  obtain ⟨fuel, hf⟩ := h
  rcases Go.Deep.open_slice hT hf with ⟨hcs, hx⟩ | ⟨a, len', cap', m, n, D, Pl, hcs, hb, hl, hm, hmm, hx, hi⟩
  · simp [Value.cells] at hcs
    obtain ⟨rfl, rfl, rfl⟩ := hcs
    exact ⟨none, 0, 0, [], rfl, Vals.nothing, (fun _ h => by cases h), Nat.le_refl _, by omega⟩
  · simp [Value.cells] at hcs
    obtain ⟨rfl, rfl, rfl⟩ := hcs
    simp only [if_true] at hmm
    subst hmm
    have each : ∀ i, i < len → ∃ x : Vl, (∃ q k e, W.cell? ((a.add (i * 2)).add 0) = some (.int .i64 x.num) ∧ W.cell? ((a.add (i * 2)).add 1) = some (.slice q k e) ∧ Nums .i64 W q k x.items ∧ k ≤ e ∧ (e : Int) ≤ 9223372036854775807) ∧ x.wf := by
      intro i hil
      obtain ⟨cs', hc, ht'⟩ := hi i (by omega)
      rw [hC] at hc
      obtain ⟨ys, k, _, _, hlen, hyl, hfs⟩ := DataW.trod_struct hE ht'
      obtain ⟨_, hcl, hat⟩ := World.cells?_some hc
      obtain ⟨o0, k0⟩ := Go.Deep.hone_of hone 0 f0 rfl
      obtain ⟨o1, k1⟩ := Go.Deep.hone_of hone 1 f1 rfl
      match cs', hlen.trans hC with
      | [c0, c1], _ =>
        have g0 := hfs 0 f0 rfl
        have g1 := hfs 1 f1 rfl
        rw [o0, k0] at g0
        rw [o1, k1] at g1
        have hys : ys.length = 2 := hyl
        obtain ⟨x0, rfl, w0⟩ := one_cell t0 g0 (by rw [List.getElem?_eq_getElem (by omega)]; rfl)
        obtain ⟨y1, g1'⟩ := trod_some g1 (by rw [List.getElem?_eq_getElem (by omega)]; rfl)
        obtain ⟨q, kk, e, l, hq, hN, hw, hr⟩ := trod_nums t1 tI hI g1'
        have hc1 : c1 = .slice q kk e := by simpa using hq
        subst hc1
        exact ⟨⟨x0, l⟩, ⟨q, kk, e, by rw [hat 0 (by omega)]; rfl, by rw [hat 1 (by omega)]; rfl, hN, hr⟩, w0, hw⟩
    have each' : ∀ i, ∃ x : Vl, i < len → (∃ q k e, W.cell? ((a.add (i * 2)).add 0) = some (.int .i64 x.num) ∧ W.cell? ((a.add (i * 2)).add 1) = some (.slice q k e) ∧ Nums .i64 W q k x.items ∧ k ≤ e ∧ (e : Int) ≤ 9223372036854775807) ∧ x.wf := fun i => by
      by_cases h : i < len
      · obtain ⟨x, hx⟩ := each i h
        exact ⟨x, fun _ => hx⟩
      · exact ⟨⟨0, []⟩, fun h' => absurd h' h⟩
    obtain ⟨g, hg⟩ := Classical.axiomOfChoice each'
    unfold maxLen at hm
    refine ⟨some a, len, m, (List.range len).map g, rfl, ⟨by simp, by omega, fun j x hj => ?_⟩, ?_, hl, by omega⟩
    · have hjl : j < len := by
        rcases Nat.lt_or_ge j len with h | h
        · exact h
        · rw [List.getElem?_eq_none (by simpa using h)] at hj; cases hj
      rw [List.getElem?_map, List.getElem?_range hjl] at hj
      cases hj
      obtain ⟨q, k, e, h0, h1, hN, hr⟩ := (hg j hjl).1
      obtain ⟨q', k', e', z0, _⟩ := (hg 0 (by omega)).1
      obtain ⟨b, o, spot⟩ := a
      have hspot : spot = none := by
        rw [addr_add, show (0 * 2 + 0) = 0 from rfl, show (⟨b, o, spot⟩ : Addr).add 0 = ⟨b, o, spot⟩ from rfl] at z0
        exact World.cell?_spot z0
      subst hspot
      have e0 : ∀ i, ((⟨b, o, none⟩ : Addr).add (j * 2)).add i = ⟨b, o + j * 2 + i, none⟩ := fun i => by
        rw [addr_add]
        unfold Addr.add
        split <;> simp_all <;> omega
      rw [e0] at h0 h1
      exact ⟨b, o, q, k, e, rfl, h0, h1, hN, hr⟩
    · intro x hx
      obtain ⟨i, hi', rfl⟩ := List.mem_map.1 hx
      exact (hg i (List.mem_range.1 hi')).2
set_option maxRecDepth 100000 in
/-- A value by itself. -/
theorem open_val {E I : TypeId} {f0 f1 : Field} (hE : Try.prog.underlying E = some (.struct #[f0, f1])) (hone : Go.Deep.oneCellFields Try.prog #[f0, f1] = true) (hC : Try.prog.cellsOf E = 2)
    (t0 : Try.prog.underlying f0.type = some (.int .i64)) (t1 : Try.prog.underlying f1.type = some (.slice I)) (tI : Try.prog.underlying I = some (.int .i64)) (hI : Try.prog.cellsOf I = 1)
    {H : Type} {enc : TypeId × Value → H} {W : World} {base : Nat} {v : Value} {d : DataW H} {p : List MemPlace}
    (hval : Value.okWide Try.prog W .any base E v) (h : DataW.Trod enc Try.prog W 0 (fun _ => true) true E v d p) :
    ∃ (k : Int) (a : Option Addr) (n c : Nat) (l : List Int), v = .agg #[.int .i64 k, .slice a n c] ∧ Nums .i64 W a n l ∧ ((Lit.int .i64 k).wf = true ∧ ∀ x ∈ l, (Lit.int .i64 x).wf = true) ∧ n ≤ c ∧ (c : Int) ≤ 9223372036854775807 := by
  obtain ⟨v0, v1, y0, y1, n, rfl, _, _, h0, h1⟩ := Go.Joins.open_agg2 hE hone hC hval h
  obtain ⟨x0, rfl, w0⟩ := one_cell t0 h0 rfl
  obtain ⟨q, kk, e, l, hq, hN, hw, hr⟩ := trod_nums t1 tI hI h1
  have hc1 : v1 = .slice q kk e := by simpa using hq
  subst hc1
  exact ⟨x0, q, kk, e, l, rfl, hN, ⟨w0, hw⟩, hr⟩
set_option maxRecDepth 100000 in
/-- A field by itself. -/
theorem open_fd {E : TypeId} {f0 f1 f2 f3 : Field} (hE : Try.prog.underlying E = some (.struct #[f0, f1, f2, f3])) (hone : Go.Deep.oneCellFields Try.prog #[f0, f1, f2, f3] = true) (hC : Try.prog.cellsOf E = 4)
    (t0 : Try.prog.underlying f0.type = some (.int .i64)) (t1 : Try.prog.underlying f1.type = some (.int .i64)) (t2 : Try.prog.underlying f2.type = some (.int .i64)) (t3 : Try.prog.underlying f3.type = some (.int .i64))
    {H : Type} {enc : TypeId × Value → H} {W : World} {base : Nat} {v : Value} {d : DataW H} {p : List MemPlace}
    (hval : Value.okWide Try.prog W .any base E v) (h : DataW.Trod enc Try.prog W 0 (fun _ => true) true E v d p) : ∃ x : Fd, v = x.val ∧ x.wf := by
  obtain ⟨v0, v1, v2, v3, y0, y1, y2, y3, n, rfl, _, _, h0, h1, h2, h3⟩ := Go.Joins.open_agg4 hE hone hC hval h
  obtain ⟨x0, rfl, w0⟩ := one_cell t0 h0 rfl
  obtain ⟨x1, rfl, w1⟩ := one_cell t1 h1 rfl
  obtain ⟨x2, rfl, w2⟩ := one_cell t2 h2 rfl
  obtain ⟨x3, rfl, w3⟩ := one_cell t3 h3 rfl
  exact ⟨⟨x0, x1, x2, x3⟩, rfl, w0, w1, w2, w3⟩
end Go.Proofs.Ytgkacnngodamgaa
namespace Go.Proofs.Ytgkacnngodamgaa
open Go.ChangeShapes Go.WideShapes Go.ChangeAt Go.RowKit
set_option linter.unusedVariables false
set_option linter.unusedSimpArgs false

set_option maxHeartbeats 2000000 in
set_option maxRecDepth 100000 in
theorem tagsOf_any {a : Option Addr} {n c : Nat} {l : List Vl} {w : World} (h : Vals w a n l) (hn : n ≤ 1048576000) :
    Calls Try.prog 19 #[.slice a n c] w (Made .i64 3 w.heap.size (tagsX l) w) := by
  have H := Lib.hid h
  have hln := Lib.hid h.len
  clear h
  obtain ⟨i0, hi, hz0, hz1, hz2⟩ := info_parts infoIntS
  have HI := Lib.hid (And.intro hi (And.intro hz0 (And.intro hz1 hz2)))
  clear hi hz0 hz1 hz2
  go_enter Try.func19, Try.ntmps19
  go_wp2_with (with_reducible refine wpList_make_own _ rfl (.const (.int .i64 0)) (.tmp 7) 26 rfl w.heap.size 3 i0 (.int .i64 0) 1 Try.underlying26 HI.out.1 HI.out.2.1 HI.out.2.2.1 .i64 .i64 _ n rfl rfl rfl ?c1 ?c2 ?c3 ?_)
  case c1 => rw [HI.out.2.2.2]; omega
  case c2 => unfold maxLen; omega
  case c3 => exact Nat.le_refl _
  intro w1 hown hgrow
  have hb1 : Below w.heap.size w w1 := (Below.refl _ w).grown hgrow (Nat.le_refl _) (fun _ e => by cases e)
  have HO : Hid (Own .i64 3 w1 w.heap.size (some ⟨w.heap.size, 0, none⟩) 0 n (tagsX (l.take 0))) := Lib.hid ⟨by simp [tagsX], hown⟩
  have HB := Lib.hid hb1
  clear hown hgrow hb1
  go_wp2_with fail
  go_loopw [3, 11] (fun v i wr => ∃ (j : Nat) (q : Option Addr) (d : Nat), j ≤ n ∧ i = .int .i64 j ∧ v = .slice q j d ∧ Own .i64 3 wr w.heap.size q j d (tagsX (l.take j)) ∧ Below w.heap.size w wr) (fun _ i _ => n - (intOf i).toNat)
  case atStart => exact ⟨0, _, _, Nat.zero_le _, rfl, rfl, HO.out, HB.out⟩
  case round =>
    obtain ⟨j, q, d, hj, rfl, rfl, hown, hb⟩ := hrel
    have HO2 := Lib.hid hown
    have HB2 := Lib.hid hb
    clear hown hb
    by_cases hlt : j < n
    · obtain ⟨b, o, p, m, e, k, y, rfl, hx, hc0, hc1, hN, hr⟩ := (H.out.same HB2.out).at_ hlt
      have HX : Hid (tagsX (l.take (j + 1)) = tagsX (l.take j) ++ [k]) := Lib.hid (tags_take hx)
      have hsz := HB2.out.size
      clear hx hN
      go_wp2_with (at_builtin; refine wpl_app _ rfl (.tmp 15) (.tmp 18) 26 rfl .i64 3 i0 (.int .i64 0) 8 Try.underlying26 HI.out.1 HI.out.2.1 HI.out.2.2.1 HI.out.2.2.2 rfl rfl ((HO2.out.alloc _).alloc _) rfl (nums_new2 _ _ _ _ _) (by omega) ?c1 ?c2 ?_)
      case c1 => omega
      case c2 => simp; omega
      intro a3 c3 w3 ho3 hb3
      have HO3 : Hid (Own .i64 3 w3 w.heap.size a3 (j + 1) c3 (tagsX (l.take (j + 1)))) := Lib.hid (by rw [HX.out]; exact ho3)
      have HB3 : Hid (Below w.heap.size w w3) := Lib.hid (HB2.out.trans (((alloc_same wr _).mono hsz).trans (((alloc_same _ _).mono (by simp; omega)).trans hb3)))
      clear ho3 hb3 hc0 hc1
      go_wp2_with fail
      go_roundw
      case rel => exact ⟨j + 1, a3, c3, by omega, by go_num, rfl, HO3.out, HB3.out⟩
      case measure => simp [intOf]; omega
    · obtain rfl : j = n := by omega
      go_wp2
      go_ret
      have h1 := HO2.out
      rw [List.take_of_length_le (by rw [hln.out]; omega)] at h1
      exact ⟨_, _, _, rfl, h1, HB2.out⟩

set_option maxRecDepth 100000 in
theorem partCount (w : World) : Calls Try.prog 79 #[.int .i32 110] w (Told fdN.val w) := by
  unfold fdN Fd.val
  go_enter Try.func79, Try.ntmps79
  go_wp2_with fail
  refine bodyPost_ret (by simp [results, Try.results79, go_sem]; try rfl) rfl ?_
  exact ⟨rfl, alloc_same _ _⟩
set_option maxRecDepth 100000 in
theorem partTag (w : World) : Calls Try.prog 79 #[.int .i32 116] w (Told fdT.val w) := by
  unfold fdT Fd.val
  go_enter Try.func79, Try.ntmps79
  go_wp2_with fail
  refine bodyPost_ret (by simp [results, Try.results79, go_sem]; try rfl) rfl ?_
  exact ⟨rfl, alloc_same _ _⟩
set_option maxRecDepth 100000 in
theorem partBody (w : World) : Calls Try.prog 79 #[.int .i32 98] w (Told fdB.val w) := by
  unfold fdB Fd.val
  go_enter Try.func79, Try.ntmps79
  go_wp2_with fail
  refine bodyPost_ret (by simp [results, Try.results79, go_sem]; try rfl) rfl ?_
  exact ⟨rfl, alloc_same _ _⟩
theorem fits_t {x : Fd} {k : Int} {p : Option Addr} {m c : Nat} {y : List Int} {v : Bool} (e : fitsField x k y = v) (w : World) (h : Nums .i64 w p m y) :
    Calls Try.prog 78 #[x.val, .agg #[.int .i64 k, .slice p m c]] w (Told (.bool v) w) := by rw [← e]; exact fitsField_any x k p m c y w h
set_option maxHeartbeats 4000000 in
set_option maxRecDepth 100000 in
theorem isExt_any (k : Int) (p : Option Addr) (m c : Nat) (y : List Int) (w : World) (h : Nums .i64 w p m y) :
    Calls Try.prog 43 #[.agg #[.int .i64 k, .slice p m c]] w (Told (.bool (okX ⟨k, y⟩)) w) := by
  have hl := h.len
  have hb0 := alloc_same w (.cells #[.int .i64 k, .slice p m c] 57)
  have HN := Lib.hid (h.same hb0)
  have HB0 := Lib.hid hb0
  have hw0 := heap_alloc_new w (.cells #[.int .i64 k, .slice p m c] 57)
  have C0 := Lib.hid ((block_cell hw0 0).trans rfl)
  have C1 := Lib.hid ((block_cell hw0 1).trans rfl)
  clear h hb0 hw0
  by_cases hk : 0 ≤ k ∧ k ≤ 255
  · have e1 : okX ⟨k, y⟩ = fitIts y 4 255 := by unfold okX; dsimp only; rw [decide_eq_true hk]; rfl
    have KT := Lib.hid (fun w0 => fits_t (c := 0) ((fitsT k).trans (decide_eq_true hk)) w0 (Nums.none (a := none)))
    rw [e1]
    clear e1 hk
    go_enter Try.func43, Try.ntmps43
    go_wp2_with fail
    generalize w.alloc (.cells #[.int .i64 k, .slice p m c] 57) = W0 at *
    have KB := Lib.hid (fun (w0 : World) (hb : Below W0.heap.size W0 w0) => fits_t (c := c) (fitsB y) w0 (HN.out.same hb))
    have HBd : Hid (Below W0.heap.size W0 W0.drew) := Lib.hid (Below.refl _ _).drew
    refine wp_region_held_drew (S := fun w9 => w9.cell? ⟨w.heap.size, 0, none⟩ = some (.int .i64 k) ∧ w9.cell? ⟨w.heap.size, 1, none⟩ = some (.slice p m c)) (by kernel_rfl) ⟨cell_stay C0.out HBd.out, cell_stay C1.out HBd.out⟩ (fun hHeld => ?_)
    refine wpAnyH_take (i := 1) (v := ?v1) (by simp only [List.getElem?_toArray, List.getElem?_cons_succ, List.getElem?_cons_zero]; rfl) (by kernel_rfl) (by kernel_rfl) (by kernel_rfl) (by exact fun _ _ _ h => h) (Or.inl ⟨by rfl, fun w9 hS9 => ?hy1⟩) hHeld ?rest1
    case hy1 =>
      dsimp only at hS9
      obtain ⟨hs0, hs1⟩ := hS9
      go_simp
      try with_reducible rfl
    try simp only [Act.put, List.setIfInBounds_toArray, List.set_cons_zero, List.set_cons_succ]
    refine wpAnyH_take (i := 2) (v := ?v2) (by simp only [List.getElem?_toArray, List.getElem?_cons_succ, List.getElem?_cons_zero]; rfl) (by kernel_rfl) (by kernel_rfl) (by kernel_rfl) (by exact fun _ _ _ h => h) (Or.inl ⟨by rfl, fun w9 hS9 => ?hy2⟩) hHeld ?rest2
    case hy2 =>
      dsimp only at hS9
      obtain ⟨hs0, hs1⟩ := hS9
      go_simp
      try with_reducible rfl
    try simp only [Act.put, List.setIfInBounds_toArray, List.set_cons_zero, List.set_cons_succ]
    refine wpAnyH_take (i := 3) (v := ?v3) (by simp only [List.getElem?_toArray, List.getElem?_cons_succ, List.getElem?_cons_zero]; rfl) (by kernel_rfl) (by kernel_rfl) (by kernel_rfl) (by exact fun _ _ _ h => h) (Or.inl ⟨by rfl, fun w9 hS9 => ?hy3⟩) hHeld ?rest3
    case hy3 =>
      dsimp only at hS9
      obtain ⟨hs0, hs1⟩ := hS9
      go_simp
      try with_reducible rfl
    try simp only [Act.put, List.setIfInBounds_toArray, List.set_cons_zero, List.set_cons_succ]
    refine wpAnyH_ready (rs := [0]) (by kernel_rfl) (by simp) (AllReadyH.cons (by simp only [List.getElem?_toArray, List.getElem?_cons_succ, List.getElem?_cons_zero]; rfl) (fun K hK => ?_) AllReadyH.nil)
    go_simp
    refine (partTag _).mono ?_
    rintro e w1 ⟨rfl, hb1⟩
    have HB1 : Hid (Below W0.heap.size W0 w1) := Lib.hid (HBd.out.trans (hb1.mono HBd.out.size))
    clear hb1
    go_wp2_with fail
    refine hK.out _ _ ⟨cell_stay C0.out HB1.out, cell_stay C1.out HB1.out⟩ (fun hHeld => ?_)
    clear hK K
    try simp only [Act.put, List.setIfInBounds_toArray, List.set_cons_zero, List.set_cons_succ]
    refine wpAnyH_ready (rs := [4]) (by kernel_rfl) (by simp) (AllReadyH.cons (by simp only [List.getElem?_toArray, List.getElem?_cons_succ, List.getElem?_cons_zero]; rfl) (fun K hK => ?_) AllReadyH.nil)
    go_simp
    refine (KT.out _).mono ?_
    rintro e w2 ⟨rfl, hb2⟩
    have HB2 : Hid (Below W0.heap.size W0 w2) := Lib.hid (HB1.out.trans (hb2.mono HB1.out.size))
    clear hb2
    go_wp2_with fail
    refine hK.out _ _ ⟨cell_stay C0.out HB2.out, cell_stay C1.out HB2.out⟩ (fun hHeld => ?_)
    clear hK K
    try simp only [Act.put, List.setIfInBounds_toArray, List.set_cons_zero, List.set_cons_succ]
    refine wpAnyH_take (i := 5) (v := ?v4) (by simp only [List.getElem?_toArray, List.getElem?_cons_succ, List.getElem?_cons_zero]; rfl) (by kernel_rfl) (by kernel_rfl) (by kernel_rfl) (by exact fun _ _ _ h => h) (Or.inl ⟨by rfl, fun w9 hS9 => ?hy4⟩) hHeld ?rest4
    case hy4 =>
      dsimp only at hS9
      obtain ⟨hs0, hs1⟩ := hS9
      go_simp
      try with_reducible rfl
    try simp only [Act.put, List.setIfInBounds_toArray, List.set_cons_zero, List.set_cons_succ]
    refine wpAnyH_take (i := 7) (v := ?v5) (by simp only [List.getElem?_toArray, List.getElem?_cons_succ, List.getElem?_cons_zero]; rfl) (by kernel_rfl) (by kernel_rfl) (by kernel_rfl) (by exact fun _ _ _ h => h) (Or.inl ⟨by rfl, fun w9 hS9 => ?hy5⟩) hHeld ?rest5
    case hy5 =>
      dsimp only at hS9
      obtain ⟨hs0, hs1⟩ := hS9
      go_simp
      try with_reducible rfl
    try simp only [Act.put, List.setIfInBounds_toArray, List.set_cons_zero, List.set_cons_succ]
    refine wpAnyH_take (i := 8) (v := ?v6) (by simp only [List.getElem?_toArray, List.getElem?_cons_succ, List.getElem?_cons_zero]; rfl) (by kernel_rfl) (by kernel_rfl) (by kernel_rfl) (by exact fun _ _ _ h => h) (Or.inl ⟨by rfl, fun w9 hS9 => ?hy6⟩) hHeld ?rest6
    case hy6 =>
      dsimp only at hS9
      obtain ⟨hs0, hs1⟩ := hS9
      go_simp
      try with_reducible rfl
    try simp only [Act.put, List.setIfInBounds_toArray, List.set_cons_zero, List.set_cons_succ]
    refine wpAnyH_take (i := 9) (v := ?v7) (by simp only [List.getElem?_toArray, List.getElem?_cons_succ, List.getElem?_cons_zero]; rfl) (by kernel_rfl) (by kernel_rfl) (by kernel_rfl) (by exact fun _ _ _ h => h) (Or.inl ⟨by rfl, fun w9 hS9 => ?hy7⟩) hHeld ?rest7
    case hy7 =>
      dsimp only at hS9
      obtain ⟨hs0, hs1⟩ := hS9
      go_simp
      try with_reducible rfl
    try simp only [Act.put, List.setIfInBounds_toArray, List.set_cons_zero, List.set_cons_succ]
    refine wpAnyH_ready (rs := [6]) (by kernel_rfl) (by simp) (AllReadyH.cons (by simp only [List.getElem?_toArray, List.getElem?_cons_succ, List.getElem?_cons_zero]; rfl) (fun K hK => ?_) AllReadyH.nil)
    go_simp
    refine (partBody _).mono ?_
    rintro e w3 ⟨rfl, hb3⟩
    have HB3 : Hid (Below W0.heap.size W0 w3) := Lib.hid (HB2.out.trans (hb3.mono HB2.out.size))
    clear hb3
    go_wp2_with fail
    refine hK.out _ _ ⟨cell_stay C0.out HB3.out, cell_stay C1.out HB3.out⟩ (fun hHeld => ?_)
    clear hK K
    try simp only [Act.put, List.setIfInBounds_toArray, List.set_cons_zero, List.set_cons_succ]
    refine wpAnyH_ready (rs := [10]) (by kernel_rfl) (by simp) (AllReadyH.cons (by simp only [List.getElem?_toArray, List.getElem?_cons_succ, List.getElem?_cons_zero]; rfl) (fun K hK => ?_) AllReadyH.nil)
    go_simp
    refine (KB.out _ HB3.out).mono ?_
    rintro e w4 ⟨rfl, hb4⟩
    have HB4 : Hid (Below W0.heap.size W0 w4) := Lib.hid (HB3.out.trans (hb4.mono HB3.out.size))
    clear hb4
    go_wp2_with fail
    refine hK.out _ _ ⟨cell_stay C0.out HB4.out, cell_stay C1.out HB4.out⟩ (fun hHeld => ?_)
    clear hK K
    try simp only [Act.put, List.setIfInBounds_toArray, List.set_cons_zero, List.set_cons_succ]
    refine wpAnyH_take (i := 11) (v := ?v8) (by simp only [List.getElem?_toArray, List.getElem?_cons_succ, List.getElem?_cons_zero]; rfl) (by kernel_rfl) (by kernel_rfl) (by kernel_rfl) (by exact fun _ _ _ h => h) (Or.inl ⟨by rfl, fun w9 hS9 => ?hy8⟩) hHeld ?rest8
    case hy8 =>
      dsimp only at hS9
      obtain ⟨hs0, hs1⟩ := hS9
      go_simp
      try with_reducible rfl
    try simp only [Act.put, List.setIfInBounds_toArray, List.set_cons_zero, List.set_cons_succ]
    refine wpAnyH_take (i := 12) (v := ?v9) (by simp only [List.getElem?_toArray, List.getElem?_cons_succ, List.getElem?_cons_zero]; rfl) (by kernel_rfl) (by kernel_rfl) (by kernel_rfl) (by exact fun _ _ _ h => h) (Or.inl ⟨by rfl, fun w9 hS9 => ?hy9⟩) hHeld ?rest9
    case hy9 =>
      dsimp only at hS9
      obtain ⟨hs0, hs1⟩ := hS9
      go_simp
      try with_reducible rfl
    try simp only [Act.put, List.setIfInBounds_toArray, List.set_cons_zero, List.set_cons_succ]
    refine wpAnyH_done (by kernel_rfl) ?_ _
    go_wp2_with fail
    go_ret
    exact ⟨rfl, HB0.out.trans (HB4.out.mono HB0.out.size)⟩
  · have e1 : okX ⟨k, y⟩ = false := by unfold okX; dsimp only; rw [decide_eq_false hk]; rfl
    have KT := Lib.hid (fun w0 => fits_t (c := 0) ((fitsT k).trans (decide_eq_false hk)) w0 (Nums.none (a := none)))
    rw [e1]
    clear e1 hk
    go_enter Try.func43, Try.ntmps43
    go_wp2_with fail
    generalize w.alloc (.cells #[.int .i64 k, .slice p m c] 57) = W0 at *
    have HBd : Hid (Below W0.heap.size W0 W0.drew) := Lib.hid (Below.refl _ _).drew
    refine wp_region_held_drew (S := fun w9 => w9.cell? ⟨w.heap.size, 0, none⟩ = some (.int .i64 k) ∧ w9.cell? ⟨w.heap.size, 1, none⟩ = some (.slice p m c)) (by kernel_rfl) ⟨cell_stay C0.out HBd.out, cell_stay C1.out HBd.out⟩ (fun hHeld => ?_)
    refine wpAnyH_take (i := 1) (v := ?v10) (by simp only [List.getElem?_toArray, List.getElem?_cons_succ, List.getElem?_cons_zero]; rfl) (by kernel_rfl) (by kernel_rfl) (by kernel_rfl) (by exact fun _ _ _ h => h) (Or.inl ⟨by rfl, fun w9 hS9 => ?hy10⟩) hHeld ?rest10
    case hy10 =>
      dsimp only at hS9
      obtain ⟨hs0, hs1⟩ := hS9
      go_simp
      try with_reducible rfl
    try simp only [Act.put, List.setIfInBounds_toArray, List.set_cons_zero, List.set_cons_succ]
    refine wpAnyH_take (i := 2) (v := ?v11) (by simp only [List.getElem?_toArray, List.getElem?_cons_succ, List.getElem?_cons_zero]; rfl) (by kernel_rfl) (by kernel_rfl) (by kernel_rfl) (by exact fun _ _ _ h => h) (Or.inl ⟨by rfl, fun w9 hS9 => ?hy11⟩) hHeld ?rest11
    case hy11 =>
      dsimp only at hS9
      obtain ⟨hs0, hs1⟩ := hS9
      go_simp
      try with_reducible rfl
    try simp only [Act.put, List.setIfInBounds_toArray, List.set_cons_zero, List.set_cons_succ]
    refine wpAnyH_take (i := 3) (v := ?v12) (by simp only [List.getElem?_toArray, List.getElem?_cons_succ, List.getElem?_cons_zero]; rfl) (by kernel_rfl) (by kernel_rfl) (by kernel_rfl) (by exact fun _ _ _ h => h) (Or.inl ⟨by rfl, fun w9 hS9 => ?hy12⟩) hHeld ?rest12
    case hy12 =>
      dsimp only at hS9
      obtain ⟨hs0, hs1⟩ := hS9
      go_simp
      try with_reducible rfl
    try simp only [Act.put, List.setIfInBounds_toArray, List.set_cons_zero, List.set_cons_succ]
    refine wpAnyH_ready (rs := [0]) (by kernel_rfl) (by simp) (AllReadyH.cons (by simp only [List.getElem?_toArray, List.getElem?_cons_succ, List.getElem?_cons_zero]; rfl) (fun K hK => ?_) AllReadyH.nil)
    go_simp
    refine (partTag _).mono ?_
    rintro e w1 ⟨rfl, hb1⟩
    have HB1 : Hid (Below W0.heap.size W0 w1) := Lib.hid (HBd.out.trans (hb1.mono HBd.out.size))
    clear hb1
    go_wp2_with fail
    refine hK.out _ _ ⟨cell_stay C0.out HB1.out, cell_stay C1.out HB1.out⟩ (fun hHeld => ?_)
    clear hK K
    try simp only [Act.put, List.setIfInBounds_toArray, List.set_cons_zero, List.set_cons_succ]
    refine wpAnyH_ready (rs := [4]) (by kernel_rfl) (by simp) (AllReadyH.cons (by simp only [List.getElem?_toArray, List.getElem?_cons_succ, List.getElem?_cons_zero]; rfl) (fun K hK => ?_) AllReadyH.nil)
    go_simp
    refine (KT.out _).mono ?_
    rintro e w2 ⟨rfl, hb2⟩
    have HB2 : Hid (Below W0.heap.size W0 w2) := Lib.hid (HB1.out.trans (hb2.mono HB1.out.size))
    clear hb2
    go_wp2_with fail
    refine hK.out _ _ ⟨cell_stay C0.out HB2.out, cell_stay C1.out HB2.out⟩ (fun hHeld => ?_)
    clear hK K
    try simp only [Act.put, List.setIfInBounds_toArray, List.set_cons_zero, List.set_cons_succ]
    refine wpAnyH_take (i := 5) (v := ?v13) (by simp only [List.getElem?_toArray, List.getElem?_cons_succ, List.getElem?_cons_zero]; rfl) (by kernel_rfl) (by kernel_rfl) (by kernel_rfl) (by exact fun _ _ _ h => h) (Or.inl ⟨by rfl, fun w9 hS9 => ?hy13⟩) hHeld ?rest13
    case hy13 =>
      dsimp only at hS9
      obtain ⟨hs0, hs1⟩ := hS9
      go_simp
      try with_reducible rfl
    try simp only [Act.put, List.setIfInBounds_toArray, List.set_cons_zero, List.set_cons_succ]
    refine wpAnyH_take (i := 6) (v := undef) (by simp only [List.getElem?_toArray, List.getElem?_cons_succ, List.getElem?_cons_zero]; rfl) (by kernel_rfl) (by kernel_rfl) (by kernel_rfl) (by exact fun _ _ _ h => h) (Or.inr ⟨by rfl, rfl⟩) hHeld ?_
    try simp only [Act.put, List.setIfInBounds_toArray, List.set_cons_zero, List.set_cons_succ]
    refine wpAnyH_take (i := 7) (v := undef) (by simp only [List.getElem?_toArray, List.getElem?_cons_succ, List.getElem?_cons_zero]; rfl) (by kernel_rfl) (by kernel_rfl) (by kernel_rfl) (by exact fun _ _ _ h => h) (Or.inr ⟨by rfl, rfl⟩) hHeld ?_
    try simp only [Act.put, List.setIfInBounds_toArray, List.set_cons_zero, List.set_cons_succ]
    refine wpAnyH_take (i := 8) (v := undef) (by simp only [List.getElem?_toArray, List.getElem?_cons_succ, List.getElem?_cons_zero]; rfl) (by kernel_rfl) (by kernel_rfl) (by kernel_rfl) (by exact fun _ _ _ h => h) (Or.inr ⟨by rfl, rfl⟩) hHeld ?_
    try simp only [Act.put, List.setIfInBounds_toArray, List.set_cons_zero, List.set_cons_succ]
    refine wpAnyH_take (i := 9) (v := undef) (by simp only [List.getElem?_toArray, List.getElem?_cons_succ, List.getElem?_cons_zero]; rfl) (by kernel_rfl) (by kernel_rfl) (by kernel_rfl) (by exact fun _ _ _ h => h) (Or.inr ⟨by rfl, rfl⟩) hHeld ?_
    try simp only [Act.put, List.setIfInBounds_toArray, List.set_cons_zero, List.set_cons_succ]
    refine wpAnyH_take (i := 10) (v := undef) (by simp only [List.getElem?_toArray, List.getElem?_cons_succ, List.getElem?_cons_zero]; rfl) (by kernel_rfl) (by kernel_rfl) (by kernel_rfl) (by exact fun _ _ _ h => h) (Or.inr ⟨by rfl, rfl⟩) hHeld ?_
    try simp only [Act.put, List.setIfInBounds_toArray, List.set_cons_zero, List.set_cons_succ]
    refine wpAnyH_take (i := 11) (v := ?v19) (by simp only [List.getElem?_toArray, List.getElem?_cons_succ, List.getElem?_cons_zero]; rfl) (by kernel_rfl) (by kernel_rfl) (by kernel_rfl) (by exact fun _ _ _ h => h) (Or.inl ⟨by rfl, fun w9 hS9 => ?hy19⟩) hHeld ?rest19
    case hy19 =>
      dsimp only at hS9
      obtain ⟨hs0, hs1⟩ := hS9
      go_simp
      try with_reducible rfl
    try simp only [Act.put, List.setIfInBounds_toArray, List.set_cons_zero, List.set_cons_succ]
    refine wpAnyH_take (i := 12) (v := ?v20) (by simp only [List.getElem?_toArray, List.getElem?_cons_succ, List.getElem?_cons_zero]; rfl) (by kernel_rfl) (by kernel_rfl) (by kernel_rfl) (by exact fun _ _ _ h => h) (Or.inl ⟨by rfl, fun w9 hS9 => ?hy20⟩) hHeld ?rest20
    case hy20 =>
      dsimp only at hS9
      obtain ⟨hs0, hs1⟩ := hS9
      go_simp
      try with_reducible rfl
    try simp only [Act.put, List.setIfInBounds_toArray, List.set_cons_zero, List.set_cons_succ]
    refine wpAnyH_done (by kernel_rfl) ?_ _
    go_wp2_with fail
    go_ret
    exact ⟨rfl, HB0.out.trans (HB2.out.mono HB0.out.size)⟩
end Go.Proofs.Ytgkacnngodamgaa
namespace Go.Proofs.Ytgkacnngodamgaa
open Go.ChangeShapes Go.WideShapes Go.ChangeAt Go.RowKit
set_option linter.unusedVariables false

theorem okX_stop {l : List Vl} {j : Nat} {x : Vl} (hx : l[j]? = some x) (h : okX x = false) : areX l = false := by
  cases e : areX l with
  | false => rfl
  | true =>
    have := (areX_parts.1 e).2.1 x (List.mem_of_getElem? hx)
    rw [h] at this
    cases this
theorem areX_long {l : List Vl} (h : 6 < l.length) : areX l = false := by
  cases e : areX l with
  | false => rfl
  | true =>
    have := (areX_parts.1 e).1
    omega
theorem areX_all {l : List Vl} (h1 : l.length ≤ 6) (h2 : ∀ x ∈ l, okX x = true) : areX l = decide (tagsX l).Nodup := by
  by_cases h : (tagsX l).Nodup
  · rw [decide_eq_true h, areX_parts]; exact ⟨h1, h2, h⟩
  · rw [decide_eq_false h]
    cases e : areX l with
    | false => rfl
    | true => exact absurd (areX_parts.1 e).2.2 h
theorem tags_wf {l : List Vl} (h : ∀ x ∈ l, okX x = true) : ∀ z ∈ tagsX l, (Lit.int .i64 z).wf = true := by
  intro z hz
  obtain ⟨x, hx, rfl⟩ := List.mem_map.1 hz
  have := okX_tag (h x hx)
  exact WalkArith.wf_i64 (by omega)
theorem size_nodup (zs : List Int) : ((Maps.size (pl 0 zs) : Int) == (zs.length : Int)) = decide zs.Nodup := by
  have := pl_size 0 zs
  by_cases h : zs.Nodup
  · rw [decide_eq_true h, this.2 h]; simp
  · rw [decide_eq_false h]
    have h2 : ¬ Maps.size (pl 0 zs) = zs.length := fun e => h (this.1 e)
    simp
    omega
set_option maxHeartbeats 2000000 in
set_option maxRecDepth 100000 in
theorem areExts_any {a : Option Addr} {n c : Nat} {l : List Vl} {w : World} (h : Vals w a n l) :
    Calls Try.prog 11 #[.slice a n c] w (Told (.bool (areX l)) w) := by
  have H := Lib.hid h
  have hln := Lib.hid h.len
  have hfit := h.fits
  have hl := h.len
  clear h
  by_cases h6 : 6 < n
  · rw [areX_long (by omega)]
    clear hl
    go_enter Try.func11, Try.ntmps11
    go_wp2
    go_ret
    exact ⟨rfl, Below.refl _ _⟩
  · clear hl
    go_enter Try.func11, Try.ntmps11
    go_wp2_with fail
    go_loopw [10] (fun i wr => ∃ j : Nat, j ≤ n ∧ i = .int .i64 j ∧ (∀ x ∈ l.take j, okX x = true) ∧ Below w.heap.size w wr) (fun i _ => n - (intOf i).toNat)
    case atStart => exact ⟨0, Nat.zero_le _, rfl, by simp, Below.refl _ _⟩
    case round =>
      obtain ⟨j, hj, rfl, hok, hb⟩ := hrel
      have HB := Lib.hid hb
      have HK := Lib.hid hok
      clear hb hok
      by_cases hlt : j < n
      · obtain ⟨b, o, p, m, e, k, y, rfl, hx, hc0, hc1, hN, hr⟩ := (H.out.same HB.out).at_ hlt
        have HX := Lib.hid hx
        have HW : Hid (Below wr.heap.size wr (wr.alloc (.cells #[.int .i64 k, .slice p m e] 57))) := Lib.hid (alloc_same _ _)
        have KX := Lib.hid (isExt_any k p m e y _ (hN.same HW.out))
        clear hx hN
        cases hv : okX ⟨k, y⟩ with
        | true =>
          rw [hv] at KX
          have HV := Lib.hid hv
          clear hv
          go_wp2_with fail
          refine KX.out.mono ?_
          rintro e w3 ⟨rfl, hb3⟩
          have HB3 := Lib.hid ((HB.out.trans (HW.out.mono HB.out.size)).trans (hb3.mono (Nat.le_trans HB.out.size HW.out.size)))
          clear hb3 hc0 hc1 KX
          go_wp2_with fail
          go_roundw
          case rel =>
            refine ⟨j + 1, by omega, by go_num, fun x hx => ?_, HB3.out⟩
            rw [List.take_add_one, HX.out] at hx
            rcases List.mem_append.1 hx with q | q
            · exact HK.out x q
            · have : x = ⟨k, y⟩ := by simpa using q
              rw [this]; exact HV.out
          case measure => simp [intOf]; omega
        | false =>
          rw [hv] at KX
          rw [okX_stop HX.out hv]
          clear hv
          go_wp2_with fail
          refine KX.out.mono ?_
          rintro e w3 ⟨rfl, hb3⟩
          have HB3 := Lib.hid ((HB.out.trans (HW.out.mono HB.out.size)).trans (hb3.mono (Nat.le_trans HB.out.size HW.out.size)))
          clear hb3 hc0 hc1 KX
          go_wp2_with fail
          go_ret
          exact ⟨rfl, HB3.out⟩
      · obtain rfl : j = n := by omega
        have hall : ∀ x ∈ l, okX x = true := by
          have := HK.out
          rwa [List.take_of_length_le (by rw [hln.out]; omega)] at this
        have HE : Hid (areX l = ((Maps.size (pl 0 (tagsX l)) : Int) == (j : Int))) := Lib.hid (by rw [areX_all (by rw [hln.out]; omega) hall, ← size_nodup, tagsX_len, hln.out])
        have HT := Lib.hid (tagsOf_any (c := c) (H.out.same HB.out) (by omega))
        have HZ := Lib.hid (tags_wf hall)
        have HTL : Hid ((tagsX l).length = j) := Lib.hid (by rw [tagsX_len]; exact hln.out)
        clear hall
        unfold Made at HT
        go_wp2_with fail
        refine HT.out.mono ?_
        rintro e w3 ⟨q, qn, d, rfl, ho, hb3⟩
        have hq : qn = j := by rw [← ho.len]; exact HTL.out
        subst hq
        have HB3 := Lib.hid (HB.out.trans (hb3.mono HB.out.size))
        have HP := Lib.hid (placesOf_any q qn d (tagsX l) w3 ho.nums HZ.out (by omega))
        clear ho hb3 HT
        go_wp2_with fail
        refine HP.out.mono ?_
        rintro e w4 ⟨rfl, hown, hb4⟩
        have HB4 := Lib.hid (HB3.out.trans (hb4.mono HB3.out.size))
        clear hb4 HP
        go_wp2_with (at_len; refine wpList_len_own _ rfl _ 62 rfl 3 3 Try.underlying62 _ w3.heap.size qn (pl 0 (tagsX l)) rfl hown ?_)
        go_ret
        exact ⟨by rw [HE.out]; rfl, HB4.out⟩
set_option maxHeartbeats 2000000 in
set_option maxRecDepth 100000 in
theorem extOf_any {a : Option Addr} {n c : Nat} {l : List Vl} (t : Int) (ht : (Lit.int .i64 t).wf = true) {w : World} (h : Vals w a n l) (hz : ∀ z ∈ tagsX l, (Lit.int .i64 z).wf = true) (hn : n ≤ 1048576000) :
    Calls Try.prog 26 #[.slice a n c, .int .i64 t] w (Told (.int .i64 (extOf l t)) w) := by
  have hTL : (tagsX l).length = n := by rw [tagsX_len]; exact h.len
  have HT := Lib.hid (tagsOf_any (c := c) h hn)
  have HZ := Lib.hid hz
  have hkey := Maps.keyOf_int_mk Try.underlying3 ht
  have HTL := Lib.hid hTL
  clear h hz ht hTL
  unfold Made at HT
  by_cases hm : t ∈ tagsX l
  · rw [extOf_yes hm]
    have hhas : Maps.has (pl 0 (tagsX l)) (.int .i64 t) = true := by rw [pl_has]; exact decide_eq_true hm
    have hat := fun z => pl_at t z 0 (tagsX l) hm
    have HH := Lib.hid hhas
    have HA := Lib.hid hat
    clear hhas hat hm
    go_enter Try.func26, Try.ntmps26
    go_wp2_with fail
    refine HT.out.mono ?_
    rintro e w3 ⟨q, qn, d, rfl, ho, hb3⟩
    have hq : qn = n := by rw [← ho.len]; exact HTL.out
    subst hq
    have HB3 := Lib.hid hb3
    have HP := Lib.hid (placesOf_any q qn d (tagsX l) w3 ho.nums HZ.out hn)
    clear ho hb3 HT
    go_wp2_with fail
    refine HP.out.mono ?_
    rintro e w4 ⟨rfl, hown, hb4⟩
    have HB4 := Lib.hid (HB3.out.trans (hb4.mono HB3.out.size))
    clear hb4 HP
    go_wp2_with (at_lookup; refine wpList_lookup_own_ok_int _ rfl _ _ 62 rfl 3 3 .i64 int_keys Try.underlying62 Try.underlying3 (map_zero _) w3.heap.size qn (pl 0 (tagsX l)) rfl hown _ _ rfl hkey ?_; intro cc hcc _; rw [HH.out])
    have ec : cc = ((tagsX l).idxOf t : Int) := by
      rw [HA.out] at hcc
      injection hcc with e1
      injection e1 with _ e2
      rw [← e2]
      simp
    rw [ec]
    go_ret
    exact ⟨rfl, HB4.out⟩
  · rw [extOf_no hm]
    have HH : Hid (Maps.has (pl 0 (tagsX l)) (.int .i64 t) = false) := Lib.hid (by rw [pl_has]; exact decide_eq_false hm)
    clear hm
    go_enter Try.func26, Try.ntmps26
    go_wp2_with fail
    refine HT.out.mono ?_
    rintro e w3 ⟨q, qn, d, rfl, ho, hb3⟩
    have hq : qn = n := by rw [← ho.len]; exact HTL.out
    subst hq
    have HB3 := Lib.hid hb3
    have HP := Lib.hid (placesOf_any q qn d (tagsX l) w3 ho.nums HZ.out hn)
    clear ho hb3 HT
    go_wp2_with fail
    refine HP.out.mono ?_
    rintro e w4 ⟨rfl, hown, hb4⟩
    have HB4 := Lib.hid (HB3.out.trans (hb4.mono HB3.out.size))
    clear hb4 HP
    go_wp2_with (at_lookup; refine wpList_lookup_own_ok_int _ rfl _ _ 62 rfl 3 3 .i64 int_keys Try.underlying62 Try.underlying3 (map_zero _) w3.heap.size qn (pl 0 (tagsX l)) rfl hown _ _ rfl hkey ?_; intro cc hcc _; rw [HH.out])
    go_ret
    exact ⟨rfl, HB4.out⟩
end Go.Proofs.Ytgkacnngodamgaa
namespace Go.Proofs.Ytgkacnngodamgaa
open Go.ChangeShapes Go.WideShapes Go.ChangeAt Go.RowKit
set_option linter.unusedVariables false
set_option linter.unusedSimpArgs false

set_option maxRecDepth 100000 in
theorem l9Has_any {p : Option Addr} {m c : Nat} {y : List Int} (t : Int) {w : World} (h : Nums .i64 w p m y) :
    Calls Try.prog 68 #[.slice p m c, .int .i64 t] w fun e w' => e = .returned (.bool (decide (t ∈ y))) ∧ w = w' := by
  have H := Lib.hid h
  have hl := h.len
  have hfit := h.fits
  clear h
  go_enter Try.func68, Try.ntmps68
  go_wp2_with fail
  go_loop [5] (fun i => ∃ j : Nat, j ≤ m ∧ i = .int .i64 j ∧ ¬ t ∈ y.take j) (fun i => m - (intOf i).toNat)
  case atStart => exact ⟨0, Nat.zero_le _, rfl, by simp⟩
  case round =>
    obtain ⟨j, hj, rfl, hno⟩ := hrel
    have HN := Lib.hid hno
    clear hno
    by_cases hlt : j < m
    · obtain ⟨ad, z, rfl, hz, hc⟩ := H.out.at_ hlt
      by_cases hk : z = t
      · have HE : Hid (decide (t ∈ y) = true) := Lib.hid (decide_eq_true (by rw [← hk]; exact List.mem_of_getElem? hz))
        have hb : (z == t) = true := by simpa using hk
        clear hz hk
        go_wp2_with fail
        go_ret
        exact ⟨by rw [HE.out]; rfl, rfl⟩
      · have hb : (z == t) = false := by simpa using hk
        have HS : Hid (¬ t ∈ y.take (j + 1)) := Lib.hid (by
          rw [List.take_add_one, hz]
          intro hm
          rcases List.mem_append.1 hm with q | q
          · exact HN.out q
          · have : t = z := by simpa using q
            exact hk this.symm)
        clear hz hk
        go_wp2_with fail
        go_round
        case rel => exact ⟨j + 1, by omega, by go_num, HS.out⟩
        case measure => simp [intOf]; omega
    · obtain rfl : j = m := by omega
      have h1 := HN.out
      rw [List.take_of_length_le (by omega)] at h1
      have HE := Lib.hid (decide_eq_false h1)
      clear h1
      go_wp2_with fail
      go_ret
      exact ⟨by rw [HE.out]; rfl, rfl⟩
end Go.Proofs.Ytgkacnngodamgaa
namespace Go.Proofs.Ytgkacnngodamgaa
open Go.ChangeShapes Go.WideShapes Go.ChangeAt Go.RowKit
set_option linter.unusedVariables false
set_option linter.unusedSimpArgs false

theorem first_at {zs : List Int} {j : Nat} {z : Int} (hz : zs[j]? = some z) (h : ¬ z ∈ zs.take j) : zs.idxOf z = j := by
  have h1 := idx_le hz
  rcases Nat.lt_or_ge (zs.idxOf z) j with q | q
  · exfalso
    have hj : j < zs.length := (List.getElem?_eq_some_iff.1 hz).1
    have hi : zs.idxOf z < zs.length := by omega
    have e1 := List.getElem_idxOf hi
    refine h (List.mem_of_getElem? (i := zs.idxOf z) ?_)
    rw [List.getElem?_take_of_lt q, List.getElem?_eq_getElem hi, e1]
  · omega
theorem tagsX_take (l : List Vl) (j : Nat) : tagsX (l.take j) = (tagsX l).take j := by simp [tagsX, List.map_take]
set_option maxRecDepth 100000 in
theorem l9Byte_any {p : Option Addr} {m c : Nat} {y : List Int} {w : World} (h : Nums .i64 w p m y) :
    Calls Try.prog 92 #[.slice p m c] w fun e w' => e = .returned (.bool (allIn y 255)) ∧ w = w' := by
  have H := Lib.hid h
  have hl := h.len
  have hfit := h.fits
  clear h
  go_enter Try.func92, Try.ntmps92
  go_wp2_with fail
  go_loop [3] (fun i => ∃ j : Nat, j ≤ m ∧ i = .int .i64 j ∧ allIn (y.take j) 255 = true) (fun i => m - (intOf i).toNat)
  case atStart => exact ⟨0, Nat.zero_le _, rfl, allIn_zero _ _⟩
  case round =>
    obtain ⟨j, hj, rfl, hall⟩ := hrel
    have HA := Lib.hid hall
    clear hall
    by_cases hlt : j < m
    · obtain ⟨ad, z, rfl, hz, hc⟩ := H.out.at_ hlt
      by_cases hi : 0 ≤ z ∧ z ≤ 255
      · have HS := Lib.hid (allIn_step HA.out hz hi)
        have K := Lib.hid (fun w0 => l1R_t (decide_eq_true hi) w0)
        clear hz hi
        go_wp2_with (go_at_call 91; refine (K.out _).mono ?_; rintro e w' ⟨rfl, rfl⟩)
        go_round
        case rel => exact ⟨j + 1, by omega, by go_num, HS.out⟩
        case measure => simp [intOf]; omega
      · have HE := Lib.hid (allIn_no hz hi)
        have K := Lib.hid (fun w0 => l1R_t (decide_eq_false hi) w0)
        clear hz hi
        go_wp2_with (go_at_call 91; refine (K.out _).mono ?_; rintro e w' ⟨rfl, rfl⟩)
        go_ret
        exact ⟨by rw [HE.out]; rfl, rfl⟩
    · obtain rfl : j = m := by omega
      have h2 := HA.out
      rw [List.take_of_length_le (by omega)] at h2
      have HE := Lib.hid h2
      clear h2
      go_wp2_with fail
      go_ret
      exact ⟨by rw [HE.out]; rfl, rfl⟩
set_option maxRecDepth 100000 in
theorem specExtOf_any {a : Option Addr} {n c : Nat} {l : List Vl} (t : Int) {w : World} (h : Vals w a n l) :
    Calls Try.prog 75 #[.slice a n c, .int .i64 t] w fun e w' => e = .returned (.int .i64 (extOf l t)) ∧ w = w' := by
  have H := Lib.hid h
  have hln := Lib.hid h.len
  have hfit := h.fits
  clear h
  go_enter Try.func75, Try.ntmps75
  go_wp2_with fail
  go_loop [5] (fun i => ∃ j : Nat, j ≤ n ∧ i = .int .i64 j ∧ ¬ t ∈ tagsX (l.take j)) (fun i => n - (intOf i).toNat)
  case atStart => exact ⟨0, Nat.zero_le _, rfl, by simp [tagsX]⟩
  case round =>
    obtain ⟨j, hj, rfl, hno⟩ := hrel
    have HN := Lib.hid hno
    clear hno
    by_cases hlt : j < n
    · obtain ⟨b, o, p, m, e, k, y, rfl, hx, hc0, hc1, hN, hr⟩ := H.out.at_ hlt
      by_cases hk : k = t
      · have HE : Hid (extOf l k = j) := Lib.hid (by
          rw [extOf_yes (tags_mem hx)]
          have := first_at (tags_at hx) (by rw [← tagsX_take]; rw [hk]; exact HN.out)
          rw [this])
        subst hk
        clear hx hN
        go_wp2_with fail
        go_ret
        exact ⟨by rw [HE.out]; rfl, rfl⟩
      · have hb : (k == t) = false := by simpa using hk
        have HS : Hid (¬ t ∈ tagsX (l.take (j + 1))) := Lib.hid (by
          rw [tags_take hx]
          intro hm
          rcases List.mem_append.1 hm with q | q
          · exact HN.out q
          · have : t = k := by simpa using q
            exact hk this.symm)
        clear hx hN hk
        go_wp2_with fail
        go_round
        case rel => exact ⟨j + 1, by omega, by go_num, HS.out⟩
        case measure => simp [intOf]; omega
    · obtain rfl : j = n := by omega
      have h1 := HN.out
      rw [List.take_of_length_le (by rw [hln.out]; omega)] at h1
      have HE := Lib.hid (extOf_no h1)
      clear h1
      go_wp2_with fail
      go_ret
      exact ⟨by rw [HE.out]; rfl, rfl⟩
end Go.Proofs.Ytgkacnngodamgaa
