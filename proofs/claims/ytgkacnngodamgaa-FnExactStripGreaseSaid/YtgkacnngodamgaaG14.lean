/- An extension inserted into a new list, by the program. The draws of the law of reserved values. Ranges as facts, and which tags are reserved: by the program and by the model. The mathematics of the hash: a fold of numbers modulo a prime, one factor and two terms. No function of the program is spoken of. The hash of the program and that of its model: fold, fold over a list, Hash, KeyedHash. -/
import Derived.Test.YtgkacnngodamgaaG13
import Derived.Shelf.Spec.SlicesInsert
import Derived.Test.YtgkacnngodamgaaG11
import Derived.Test.YtgkacnngodamgaaG9
import Derived.Test.YtgkacnngodamgaaG3
import Derived.Test.YtgkacnngodamgaaG1
import Derived.Deep.RegionHeld3
import Derived.Deep.QuietTactic
import Derived.BigQuiet
import Derived.StillTailTactics
import Derived.Handy
namespace Go.Proofs.Ytgkacnngodamgaa
open Go.ChangeShapes Go.WideShapes Go.ChangeAt Go.RowKit
open Go.Proofs (wpList_copy_runI step_copy_runI)
set_option linter.unusedVariables false
set_option linter.unusedSimpArgs false

theorem addr_add0 (g a j : Nat) : (⟨g, a, none⟩ : Addr).add j = ⟨g, a + j, none⟩ := by unfold Addr.add; split <;> simp_all
set_option maxHeartbeats 4000000 in
set_option maxRecDepth 100000 in
theorem insertAt_any {w1 w : World} {B g n c k m d : Nat} {p : Option Addr} {l : List Vl} {y : List Int} {t : Int} (hown : OwnV 57 3 w1 B (some ⟨g, 0, none⟩) n c l) (hb : Below w1.heap.size w1 w) (hB : B ≤ w1.heap.size)
    (hv : Own .i64 3 w w1.heap.size p m d y) (hk : k ≤ n) (hn : n ≤ 1000) :
    Calls Try.prog 61 #[.slice (some ⟨g, 0, none⟩) n c, .int .i64 (k : Nat), .agg #[.int .i64 t, .slice p m d]] w
      (fun e w' => ∃ q, e = .returned (.slice (some ⟨q, 0, none⟩) (n + 1) (n + 1)) ∧ OwnV 57 3 w' B (some ⟨q, 0, none⟩) (n + 1) (n + 1) (l.take k ++ ⟨t, y⟩ :: l.drop k) ∧ Below w.heap.size w w') := by
  have hlen := hown.len
  have hsz1 := hb.size
  obtain ⟨hs, ho, hr⟩ := hown
  have hsl : hs.length = n := ho.len
  obtain ⟨R, cur, hg1, hcur, hBg, hnc, hcm⟩ := ownV_block ho
  have hgl : g < w1.heap.size := by
    rcases Nat.lt_or_ge g w1.heap.size with h | h
    · exact h
    · rw [Array.getElem?_eq_none h] at hg1; cases hg1
  have hg : w.heap[g]? = some (.cells cur 57 (0, 0)) := (hb.block g hgl).trans hg1
  obtain ⟨i0, hi, hz0, hz1, hz2⟩ := info_parts infoExtS
  have HI := Lib.hid (And.intro hi (And.intro hz0 (And.intro hz1 hz2)))
  have HH := Lib.hid (And.intro ho (And.intro hr (And.intro hb (And.intro hv (And.intro hsl hlen)))))
  have HC := Lib.hid hcur
  have HBg := Lib.hid (And.intro hB hBg)
  clear hi hz0 hz1 hz2 ho hr hb hv hg1 hcur hB hBg
  go_enter Try.func61, Try.ntmps61
  have hbx : (w.alloc (.cells #[.int .i64 t, .slice p m d] 57)).heap[w.heap.size]? = some (.cells #[.int .i64 t, .slice p m d] 57 (0, 0)) := heap_alloc_new w _
  have hgx : (w.alloc (.cells #[.int .i64 t, .slice p m d] 57)).heap[g]? = some (.cells cur 57 (0, 0)) := by rw [(alloc_same w _).block g (by omega)]; exact hg
  have HX : Hid (Below w.heap.size w (w.alloc (.cells #[.int .i64 t, .slice p m d] 57))) := Lib.hid (alloc_same w _)
  have hxs : (w.alloc (.cells #[.int .i64 t, .slice p m d] 57)).heap.size = w.heap.size + 1 := by simp
  go_wp2_with (with_reducible refine wpList_make_full _ rfl (.tmp 10) (.tmp 10) 24 rfl w.heap.size 57 i0 (.agg #[.int .i64 0, .slice none 0 0]) 2 Try.underlying24 HI.out.1 HI.out.2.1 HI.out.2.2.1 .i64 .i64 _ _ (n + 1) rfl rfl ?c0 ?c1 ?c2 ?c3 ?c4 ?_)
  case c0 => push_cast; rfl
  case c1 => push_cast; rfl
  case c2 => rw [HI.out.2.2.2]; omega
  case c3 => unfold maxLen; omega
  case c4 => simp
  intro w2 hrow hgrow
  obtain ⟨W0, hW0⟩ : ∃ W0, w.alloc (.cells #[.int .i64 t, .slice p m d] 57) = W0 := ⟨_, rfl⟩
  rw [hW0] at hbx hgx HX hxs hgrow
  obtain ⟨q, hq⟩ : ∃ q, w.heap.size + 1 = q := ⟨_, rfl⟩
  rw [hq] at hrow ⊢
  have hb2 : Below W0.heap.size W0 w2 := (Below.refl _ W0).grown hgrow (Nat.le_refl _) (fun _ e => by cases e)
  rcases hrow.2 with ⟨e, _⟩ | ⟨q', cap, zs, e, _, hqz, _, _, hzs, _⟩
  · cases e
  cases e
  have hgq : g ≠ q := by omega
  have hxq : w.heap.size ≠ q := by omega
  have hg2 : w2.heap[g]? = some (.cells cur 57 (0, 0)) := (hb2.block g (by omega)).trans hgx
  have hx2 : w2.heap[w.heap.size]? = some (.cells #[.int .i64 t, .slice p m d] 57 (0, 0)) := (hb2.block _ (by omega)).trans hbx
  obtain ⟨A, hA⟩ : ∃ A, flatOf Vh.enc (hs.take k) = A := ⟨_, rfl⟩
  obtain ⟨D, hD⟩ : ∃ D, flatOf Vh.enc (hs.drop k) = D := ⟨_, rfl⟩
  have hAl : A.length = k * 2 := by rw [← hA, flatOf_len Vh.enc_len, List.length_take, hsl]; congr 1; omega
  have hDl : D.length = (n - k) * 2 := by rw [← hD, flatOf_len Vh.enc_len, List.length_drop, hsl]
  have hAc : ∀ v ∈ A, v.oneCell' = true := by rw [← hA]; exact flatV_cells _
  have hDc : ∀ v ∈ D, v.oneCell' = true := by rw [← hD]; exact flatV_cells _
  have hcurA : cur.toList = A ++ D ++ R := by rw [HC.out, flatV_split hs k, hA, hD]
  have hzl : zs.toList.length = A.length + 2 + D.length := by rw [Array.length_toList, hzs, hAl, hDl]; omega
  obtain ⟨c1, hc1⟩ : ∃ c1 : Array Value, c1 = (putAt 0 A zs.toList).toArray := ⟨_, rfl⟩
  have hs1 : c1.size = (n + 1) * 2 := by rw [hc1, List.size_toArray, putAt_len (by omega), Array.length_toList, hzs]
  obtain ⟨W3, hW3⟩ : ∃ W3, W3 = w2.setRow q c1 := ⟨_, rfl⟩
  have hq3 : W3.heap[q]? = some (.cells c1 57 (0, 0)) := by rw [hW3]; exact setRow_heap _ _ _ _ _ _ hqz
  have hx3 : W3.heap[w.heap.size]? = some (.cells #[.int .i64 t, .slice p m d] 57 (0, 0)) := by rw [hW3, setRow_other w2 q _ c1 hxq]; exact hx2
  have hg3 : W3.heap[g]? = some (.cells cur 57 (0, 0)) := by rw [hW3, setRow_other w2 q _ c1 hgq]; exact hg2
  have hcp1 : ∀ ty dc sc, (Builtin.copy_ #[24, 24] ty #[.slice (some ⟨q, 0, none⟩) (n + 1) dc, .slice (some ⟨g, 0, none⟩) k sc]).run Try.prog w2 = .ok (goInt (k : Nat)) W3 := fun ty dc sc => by
    have h := run_copyAt (P := Try.prog) w2 24 24 ty 57 i0 Try.underlying24 HI.out.1 HI.out.2.2.1 (o := 0) (nd := n + 1) (dc := dc) (ns := k) (sc := sc) (ad := ⟨g, 0, none⟩) (F := A) hqz k (by
      show min k (n + 1) = k
      omega) hAl (fun j v hj => by
        have hj2 : j < A.length := lt_of_some hj
        rw [addr_add0, Nat.zero_add, block_cell hg2, ← Array.getElem?_toList, hcurA, List.append_assoc, List.getElem?_append_left hj2]
        exact hj) (by rw [hzs]; omega) hAc
    rw [h, hW3, hc1]
    rfl
  obtain ⟨W4, hW4⟩ : ∃ W4, (W3.setCell ⟨q, k * 2, none⟩ (.int .i64 t)).setCell ⟨q, k * 2 + 1, none⟩ (.slice p m d) = W4 := ⟨_, rfl⟩
  have hq4 := heap_setCell_same _ q (k * 2 + 1) _ _ (.slice p m d) (heap_setCell_same W3 q (k * 2) c1 _ (.int .i64 t) hq3)
  rw [hW4] at hq4
  obtain ⟨c2, hc2⟩ : ∃ c2 : Array Value, c2 = (c1.setIfInBounds (k * 2) (.int .i64 t)).setIfInBounds (k * 2 + 1) (.slice p m d) := ⟨_, rfl⟩
  rw [← hc2] at hq4
  have hs2 : c2.size = (n + 1) * 2 := by rw [hc2]; simp [hs1]
  have hg4 : W4.drew.heap[g]? = some (.cells cur 57 (0, 0)) := by
    show W4.heap[g]? = _
    rw [← hW4, Below.heap_setCell _ _ _ _ hgq, Below.heap_setCell _ _ _ _ hgq]
    exact hg3
  have hq4d : W4.drew.heap[q]? = some (.cells c2 57 (0, 0)) := hq4
  obtain ⟨c3, hc3⟩ : ∃ c3 : Array Value, c3 = (putAt ((k + 1) * 2) D c2.toList).toArray := ⟨_, rfl⟩
  obtain ⟨W5, hW5⟩ : ∃ W5, W5 = W4.drew.setRow q c3 := ⟨_, rfl⟩
  have hq5 : W5.heap[q]? = some (.cells c3 57 (0, 0)) := by rw [hW5]; exact setRow_heap _ _ _ _ _ _ hq4d
  have hcp2 : ∀ ty dc sc, (Builtin.copy_ #[24, 24] ty #[.slice (some ⟨q, (k + 1) * 2, none⟩) (n + 1 - (k + 1)) dc, .slice (some ⟨g, k * 2, none⟩) (n - k) sc]).run Try.prog W4.drew = .ok (goInt ((n - k : Nat) : Int)) W5 := fun ty dc sc => by
    have h := run_copyAt (P := Try.prog) W4.drew 24 24 ty 57 i0 Try.underlying24 HI.out.1 HI.out.2.2.1 (o := (k + 1) * 2) (nd := n + 1 - (k + 1)) (dc := dc) (ns := n - k) (sc := sc) (ad := ⟨g, k * 2, none⟩) (F := D) hq4d (n - k) (by
      show min (n - k) (n + 1 - (k + 1)) = n - k
      omega) hDl (fun j v hj => by
        have hj2 : j < D.length := lt_of_some hj
        rw [addr_add0, block_cell hg4, ← Array.getElem?_toList, hcurA, List.append_assoc, ← hAl, List.getElem?_append_right (by omega), Nat.add_sub_cancel_left, List.getElem?_append_left hj2]
        exact hj) (by rw [hs2, hDl]; omega) hDc
    rw [h, hW5, hc3]
    rfl
  have hcp0 : ∀ ty dc sc o, n = k → (Builtin.copy_ #[24, 24] ty #[.slice (some ⟨q, 0, none⟩) 0 dc, .slice (some ⟨g, o, none⟩) 0 sc]).run Try.prog W4.drew = .ok (goInt ((0 : Nat) : Int)) W5 := fun ty dc sc o hnk => by
    have h := run_copyAt (P := Try.prog) W4.drew 24 24 ty 57 i0 Try.underlying24 HI.out.1 HI.out.2.2.1 (o := 0) (nd := 0) (dc := dc) (ns := 0) (sc := sc) (ad := ⟨g, o, none⟩) (F := []) hq4d 0 rfl (by simp) (fun j v hj => by simp at hj) (by simp) (by simp)
    rw [h, hW5, hc3]
    have hD0 : D = [] := by
      have : D.length = 0 := by rw [hDl]; omega
      exact List.eq_nil_of_length_eq_zero this
    have e : (putAt ((k + 1) * 2) D c2.toList) = c2.toList := by
      rw [hD0]
      unfold putAt
      rw [List.take_of_length_le (by rw [Array.length_toList, hs2]; omega), List.drop_of_length_le (by rw [Array.length_toList, hs2]; simp; omega)]
      simp
    rw [e]
    simp
  have hfin : c3.toList = A ++ [.int .i64 t, .slice p m d] ++ D := by
    rw [hc3, hc2, Array.toList_setIfInBounds, Array.toList_setIfInBounds, hc1]
    have := cells_insert A D zs.toList (.int .i64 t) (.slice p m d) hzl
    rw [hAl] at this
    rw [show (k + 1) * 2 = k * 2 + 2 by omega]
    exact this
  have hB5 : Below w.heap.size w W5 := by
    rw [hW5]
    refine below_setRow ?_ (by omega) _
    rw [← hW4, hW3]
    exact ((((below_setRow (HX.out.trans (hb2.mono (by omega))) (by omega) _)).setCell (by dsimp only; omega) _).setCell (by dsimp only; omega) _).drew
  have HW : Hid (OwnV 57 3 W5 B (some ⟨q, 0, none⟩) (n + 1) (n + 1) (l.take k ++ ⟨t, y⟩ :: l.drop k) ∧ Below w.heap.size w W5) := Lib.hid ⟨by
    obtain ⟨ho, hr, hb, hv, _, _⟩ := HH.out
    have hfl : flatOf Vh.enc (hs.take k ++ ⟨t, p, m, d⟩ :: hs.drop k) = A ++ [.int .i64 t, .slice p m d] ++ D := by
      rw [flatOf_app, hA, List.append_assoc]
      show A ++ (Vh.enc ⟨t, p, m, d⟩ ++ flatOf Vh.enc (hs.drop k)) = _
      rw [hD]
      rfl
    have hll : (A ++ [Value.int .i64 t, .slice p m d] ++ D).length = (n + 1) * 2 := by simp; omega
    refine ⟨hs.take k ++ ⟨t, p, m, d⟩ :: hs.drop k, ⟨by simp; omega, ?_⟩, ?_⟩
    · refine ⟨by rw [hfl, hll], .inr ⟨q, n + 1, c3, rfl, by have := HBg.out.1; omega, hq5, Nat.le_refl _, by unfold maxLen; omega, by rw [← Array.length_toList, hfin, hll], ?_⟩⟩
      rw [hfl, hfin, ← hll]
      exact List.take_of_length_le (Nat.le_refl _)
    · have hsame : RowsV 3 W5 B (some ⟨g, 0, none⟩) hs l := (hr.same hb).same hB5
      have hlt : ∀ (j : Nat) (h : Vh) ad, hs[j]? = some h → h.p = some ad → ad.block < w1.heap.size := fun j h ad e1 e2 => (hr.lt e1 e2).2
      have hvs := hv.span
      refine RowsV.insert hsame (by omega) ⟨rfl, (hv.lower HBg.out.1).same hB5⟩ ?_ ?_ ?_
      · intro j h ad bd e1 e2 e3
        have := hlt j h ad e1 e2
        have := (hvs bd e3).1
        omega
      · intro j h ad e1 e2
        have := hlt j h ad e1 e2
        omega
      · intro ad e1
        have := (hvs ad e1).2
        omega, hB5⟩
  have hkz : (k : Int) ≤ (n : Int) := by omega
  have hw1 : IntKind.i64.wrap ((k : Int) + 1) = (k : Int) + 1 := by rw [IntKind.wrap_i64]; omega
  have hb1 : (0 : Int) ≤ (k : Int) + 1 := by omega
  have htn : ((k : Int) + 1).toNat = k + 1 := by omega
  have hkn1 : (k : Int) ≤ (n : Int) + 1 := by omega
  have z0 : W3.cell? ⟨w.heap.size, 0, none⟩ = some (.int .i64 t) := (block_cell hx3 0).trans rfl
  have z1 : W3.cell? ⟨w.heap.size, 1, none⟩ = some (.slice p m d) := (block_cell hx3 1).trans rfl
  have y0 : ∃ u0, W3.cell? ⟨q, k * 2, none⟩ = some u0 := ⟨_, (block_cell hq3 _).trans (Array.getElem?_eq_getElem (by omega))⟩
  have y1 : ∃ u1, W3.cell? ⟨q, k * 2 + 1, none⟩ = some u1 := ⟨_, (block_cell hq3 _).trans (Array.getElem?_eq_getElem (by omega))⟩
  have f0 : W3.frozen? ⟨q, k * 2, none⟩ = false := block_frozen hq3 _
  have f1 : W3.frozen? ⟨q, k * 2 + 1, none⟩ = false := block_frozen hq3 _
  obtain ⟨u0, hu0⟩ := y0
  obtain ⟨u1, hu1⟩ := y1
  clear hq5 hfin hB5 hW5 hc3 hq4d hg4 hq4 hc2 hs2 hc1 hs1 hW3 hq3 hx3 hg3 hzl hcurA hAc hDc hAl hDl hA hD hg2 hx2 hqz hzs hrow hgrow hgx hbx HC
  go_wp2_with (at_builtin; refine wpList_copy_runI _ rfl _ _ 24 24 rfl _ _ rfl rfl (hcp1 _ _ _) ?_)
  have mixed : Try.prog.follows .mixedOrders = true := by rfl
  have hb3 : ¬ (n + 1 < k + 1) := by omega
  by_cases hnk : n = k
  · have hcp3 := fun ty dc sc o => hcp0 ty dc sc o hnk
    subst hnk
    clear hcp2 hcp0
    by_cases hcn : c = n
    · subst hcn
      go_region_law_o (refine step_copy_runI rfl _ _ 24 24 rfl (.slice (some ⟨q, 0, none⟩) 0 0) (.slice (some ⟨g, 0, none⟩) 0 0) (by simp [Act.eval, Act.put]) (by simp [Act.eval, Act.put]) (hcp3 3 0 0 0) ?_)
      go_wp2_with fail
      go_ret
      exact ⟨q, rfl, HW.out.1, HW.out.2⟩
    · go_region_law_o (refine step_copy_runI rfl _ _ 24 24 rfl (.slice (some ⟨q, 0, none⟩) 0 0) (.slice (some ⟨g, n * 2, none⟩) 0 (c - n)) (by simp [Act.eval, Act.put]) (by simp [Act.eval, Act.put]) (hcp3 3 0 (c - n) (n * 2)) ?_)
      go_wp2_with fail
      go_ret
      exact ⟨q, rfl, HW.out.1, HW.out.2⟩
  have hck : ¬ (c = k) := by omega
  go_region_law_o (refine step_copy_runI rfl _ _ 24 24 rfl (.slice (some ⟨q, (k + 1) * 2, none⟩) (n + 1 - (k + 1)) (n + 1 - (k + 1))) (.slice (some ⟨g, k * 2, none⟩) (n - k) (c - k)) (by simp [Act.eval, Act.put]) (by simp [Act.eval, Act.put]) (hcp2 3 (n + 1 - (k + 1)) (c - k)) ?_)
  go_wp2_with fail
  go_ret
  exact ⟨q, rfl, HW.out.1, HW.out.2⟩
end Go.Proofs.Ytgkacnngodamgaa
namespace Go.Proofs.Ytgkacnngodamgaa
open Go.ChangeShapes Go.WideShapes Go.ChangeAt Go.RowKit
set_option linter.unusedVariables false
set_option linter.unusedSimpArgs false

/-- Numbers written out lie in a block of their own. -/
theorem nums_lit (w : World) (l : List Int) (t : TypeId) (hl : l.length ≤ 1000) : Nums .i64 (w.alloc (.cells (l.map fun z => Value.int .i64 z).toArray t)) (some ⟨w.heap.size, 0, none⟩) l.length l :=
  ⟨rfl, by omega, fun j hj => ⟨_, rfl, by
    have hb : (w.alloc (.cells (l.map fun z => Value.int .i64 z).toArray t)).heap[w.heap.size]? = some (.cells (l.map fun z => Value.int .i64 z).toArray t (0, 0)) := heap_alloc_new w _
    rw [addr_add0, Nat.zero_add, block_cell hb]
    simp [hj]⟩⟩
/-- Extensions written out, each without bytes. -/
theorem own_lit (w : World) {B : Nat} (hB : B ≤ w.heap.size) (zs : List Int) (hl : zs.length ≤ 1000) :
    OwnV 57 3 (w.alloc (.cells (flatOf Vh.enc (zs.map fun z => ⟨z, none, 0, 0⟩)).toArray 57)) B (some ⟨w.heap.size, 0, none⟩) zs.length zs.length (zs.map fun z => ⟨z, []⟩) := by
  have hlen : (flatOf Vh.enc (zs.map fun z => (⟨z, none, 0, 0⟩ : Vh))).length = zs.length * 2 := by rw [flatOf_len Vh.enc_len, List.length_map]
  refine ⟨zs.map fun z => ⟨z, none, 0, 0⟩, ⟨by simp, hlen, .inr ⟨w.heap.size, zs.length, _, rfl, hB, heap_alloc_new w _, Nat.le_refl _, by unfold maxLen; omega, by rw [List.size_toArray, hlen], List.take_of_length_le (by simp; omega)⟩⟩, by simp, ?_, ?_⟩
  · intro j h x h1 h2
    rw [List.getElem?_map] at h1 h2
    rcases hz : zs[j]? with _ | z
    · rw [hz] at h1; cases h1
    · rw [hz] at h1 h2
      cases h1
      cases h2
      exact ⟨rfl, Own.nil, fun ad bd e => by cases e⟩
  · intro i j h k _ h1 h2 ad bd e
    rw [List.getElem?_map] at h1
    rcases hz : zs[i]? with _ | z
    · rw [hz] at h1; cases h1
    · rw [hz] at h1
      cases h1
      cases e
def DrawnG (w : World) (e : Ending) (w' : World) : Prop :=
  ∃ (ao : Option Addr) (m co : Nat) (v : List Vl) (s : Int), e = .returned (.tuple #[.slice ao m co, .int .i64 s]) ∧ OwnV 57 3 w' w.heap.size ao m co v ∧ m ≤ 6 ∧ Vok 5 v ∧ 0 ≤ s ∧ s < 100 ∧ Below w.heap.size w w'
set_option maxHeartbeats 2000000 in
set_option maxRecDepth 100000 in
theorem drawAddGrease_any (a : Option Addr) (n c : Nat) (w : World) (hC : Code w a n) : Calls Try.prog 21 #[.slice a n c] w (DrawnG w) := by
  have HC := Lib.hid hC
  clear hC
  go_enter Try.func21, Try.ntmps21
  go_wp2_with fail
  refine (new_any a n c HC.out.2 w HC.out.1).mono ?_
  rintro e w1 ⟨rfl, hcu, hb1⟩
  have HCU := Lib.hid hcu
  have HB1 := Lib.hid hb1
  have hs1 := hb1.size
  have hlt := hcu.lt
  clear hcu hb1
  go_wp2_with fail
  refine (anyE_any w.heap.size a n c w1 HCU.out).mono ?_
  rintro e w2 ⟨ao, m, co, v, rfl, ho, hm, hv, hd2⟩
  have HO2 := Lib.hid ho
  have HV := Lib.hid hv
  have HD2 := Lib.hid hd2
  clear ho hv hd2
  go_wp2_with fail
  refine (once_any w.heap.size a n c 8 (by omega) (by omega) w2 HD2.out.1).mono ?_
  rintro e w3 ⟨t, rfl, hd3⟩
  have HO3 := Lib.hid (HO2.out.only hd3.2 hlt)
  have HD3 := Lib.hid (HD2.out.trans hd3)
  have hs3 := HD3.out.2.size
  clear hd3
  cases t with
  | true =>
    have HO4 : Hid (OwnV 57 3 (w3.alloc (.cells #[.int .i64 1, .slice none 0 0, .int .i64 2, .slice none 0 0, .int .i64 3, .slice none 0 0, .int .i64 4, .slice none 0 0, .int .i64 5, .slice none 0 0, .int .i64 6, .slice none 0 0] 57)) w1.heap.size (some ⟨w3.heap.size, 0, none⟩) 6 6 [⟨1, []⟩, ⟨2, []⟩, ⟨3, []⟩, ⟨4, []⟩, ⟨5, []⟩, ⟨6, []⟩]) := Lib.hid (own_lit w3 hs3 [1, 2, 3, 4, 5, 6] (by simp))
    have HD4 := Lib.hid (HD3.out.same (alloc_same w3 (.cells #[.int .i64 1, .slice none 0 0, .int .i64 2, .slice none 0 0, .int .i64 3, .slice none 0 0, .int .i64 4, .slice none 0 0, .int .i64 5, .slice none 0 0, .int .i64 6, .slice none 0 0] 57)))
    go_wp2_with fail
    refine (below_any w.heap.size a n c 100 (by omega) (by omega) _ HD4.out.1).mono ?_
    rintro e w5 ⟨x, hx0, hx1, rfl, hd5⟩
    have HO5 := Lib.hid ((HO4.out.only hd5.2 hlt).lower hs1)
    have HB5 := Lib.hid (HB1.out.trans ((HD4.out.trans hd5).below (Nat.le_refl _) hs1))
    clear hd5
    go_wp2_with fail
    go_ret2
    refine ⟨_, _, _, _, x, rfl, HO5.out, by omega, ?_, hx0, hx1, HB5.out⟩
    intro y hy
    simp only [List.mem_cons, List.not_mem_nil, or_false] at hy
    rcases hy with rfl | rfl | rfl | rfl | rfl | rfl <;> exact ⟨⟨⟨by dsimp only; omega, by dsimp only; omega⟩, fun z hz => by cases hz⟩, by simp⟩
  | false =>
    go_wp2_with fail
    refine (below_any w.heap.size a n c 100 (by omega) (by omega) _ HD3.out.1).mono ?_
    rintro e w5 ⟨x, hx0, hx1, rfl, hd5⟩
    have HO5 := Lib.hid ((HO3.out.only hd5.2 hlt).lower hs1)
    have HB5 := Lib.hid (HB1.out.trans ((HD3.out.trans hd5).below (Nat.le_refl _) hs1))
    clear hd5
    go_wp2_with fail
    go_ret2
    exact ⟨_, _, _, _, x, rfl, HO5.out, hm, HV.out, hx0, hx1, HB5.out⟩
set_option maxRecDepth 100000 in
theorem drawStripGrease_any (a : Option Addr) (n c : Nat) (w : World) (hC : Code w a n) :
    Calls Try.prog 27 #[.slice a n c] w (DrawnX w) := by
  have K := Lib.hid (drawAreExts_any a n c w hC)
  clear hC
  unfold DrawnX at K ⊢
  go_enter Try.func27, Try.ntmps27
  go_wp2_with fail
  refine K.out.mono ?_
  rintro e w2 ⟨ao, m, co, v, rfl, ho, hm, hv, hb⟩
  have HO := Lib.hid ho
  have HB := Lib.hid hb
  have HV := Lib.hid hv
  clear ho hv hb
  go_wp2_with fail
  go_ret
  exact ⟨_, _, _, v, rfl, HO.out, hm, HV.out, HB.out⟩
end Go.Proofs.Ytgkacnngodamgaa
namespace Go.Proofs.Ytgkacnngodamgaa
open Go.ChangeShapes Go.WideShapes Go.ChangeAt Go.RowKit
set_option linter.unusedVariables false

def inB (n l h : Int) : Bool := decide (l ≤ n ∧ n ≤ h)
theorem inB_yes {n l h : Int} (h1 : l ≤ n) (h2 : n ≤ h) : inB n l h = true := decide_eq_true ⟨h1, h2⟩
theorem inB_no {n l h : Int} (h1 : ¬ (l ≤ n ∧ n ≤ h)) : inB n l h = false := decide_eq_false h1
theorem inB_iff {n l h : Int} : inB n l h = true ↔ l ≤ n ∧ n ≤ h := by unfold inB; exact decide_eq_true_iff
/-- A reserved tag. -/
def resv (t : Int) : Bool := inB t 0 255 && (t % 16 == 10)
theorem resv_in {t : Int} (h : resv t = true) : 0 ≤ t ∧ t ≤ 255 := by
  unfold resv at h
  rw [Bool.and_eq_true] at h
  exact inB_iff.1 h.1
theorem inR_b (n l h : Int) (w : World) : Calls Try.prog 64 #[.int .i64 n, .int .i64 l, .int .i64 h] w fun e w' => e = .returned (.bool (inB n l h)) ∧ w' = w := (inR_any n l h w).mono fun e' w' ⟨h1, h2⟩ => ⟨h1, h2.symm⟩
theorem l1R_b (n l h : Int) (w : World) : Calls Try.prog 91 #[.int .i64 n, .int .i64 l, .int .i64 h] w fun e w' => e = .returned (.bool (inB n l h)) ∧ w' = w := (l1R_any n l h w).mono fun e' w' ⟨h1, h2⟩ => ⟨h1, h2.symm⟩
set_option maxHeartbeats 1000000 in
set_option maxRecDepth 100000 in
theorem isReserved_any (t : Int) (w : World) : Calls Try.prog 24 #[.int .i64 t] w fun e w' => e = .returned (.bool (resv t)) ∧ w' = w := by
  have H := inR_b t 0 255
  by_cases h : 0 ≤ t ∧ t ≤ 255
  · have hb : inB t 0 255 = true := inB_yes h.1 h.2
    have hr : resv t = (t % 16 == 10) := by unfold resv; rw [hb]; rfl
    rw [hr]
    rw [hb] at H
    have h0 := h.1
    have h9 := h.2
    have hm : t.tmod 16 = t % 16 := Int.tmod_eq_emod_of_nonneg h0
    clear hb hr
    go_enter Try.func24, Try.ntmps24
    go_wp2_with (go_at_call 64; refine (H _).mono ?_; rintro e w' ⟨rfl, rfl⟩)
    go_ret
    simp
  · have hb : inB t 0 255 = false := inB_no h
    have hr : resv t = false := by unfold resv; rw [hb]; rfl
    rw [hr]
    rw [hb] at H
    clear hb hr
    go_enter Try.func24, Try.ntmps24
    go_wp2_with (go_at_call 64; refine (H _).mono ?_; rintro e w' ⟨rfl, rfl⟩)
    go_ret
    simp
set_option maxHeartbeats 1000000 in
set_option maxRecDepth 100000 in
theorem specIsReserved_any (t : Int) (w : World) : Calls Try.prog 77 #[.int .i64 t] w fun e w' => e = .returned (.bool (resv t)) ∧ w' = w := by
  have H := l1R_b t 0 255
  by_cases h : 0 ≤ t ∧ t ≤ 255
  · have hb : inB t 0 255 = true := inB_yes h.1 h.2
    have hr : resv t = (t % 16 == 10) := by unfold resv; rw [hb]; rfl
    rw [hr]
    rw [hb] at H
    have h0 := h.1
    have h9 := h.2
    have hm : t.tmod 16 = t % 16 := Int.tmod_eq_emod_of_nonneg h0
    clear hb hr
    go_enter Try.func77, Try.ntmps77
    go_wp2_with (go_at_call 91; refine (H _).mono ?_; rintro e w' ⟨rfl, rfl⟩)
    go_ret
    simp
  · have hb : inB t 0 255 = false := inB_no h
    have hr : resv t = false := by unfold resv; rw [hb]; rfl
    rw [hr]
    rw [hb] at H
    clear hb hr
    go_enter Try.func77, Try.ntmps77
    go_wp2_with (go_at_call 91; refine (H _).mono ?_; rintro e w' ⟨rfl, rfl⟩)
    go_ret
    simp
end Go.Proofs.Ytgkacnngodamgaa
namespace Go.Proofs.Ytgkacnngodamgaa
set_option linter.unusedVariables false

/-- One value is taken into the hash. -/
def hstep (a v : Int) : Int := (a * 1000003 + v % 2147483647 + 13) % 2147483647
def hashFrom (a : Int) (l : List Int) : Int := l.foldl hstep a
def hashOf (l : List Int) : Int := hashFrom 11 l
def khash (k : Int) (l : List Int) : Int := hstep (hashFrom (hstep 11 k) l) k
theorem hstep_bd (a v : Int) : 0 ≤ hstep a v ∧ hstep a v < 2147483647 := by unfold hstep; omega
theorem hashFrom_nil (a : Int) : hashFrom a [] = a := rfl
theorem hashFrom_snoc (a : Int) (l : List Int) (x : Int) : hashFrom a (l ++ [x]) = hstep (hashFrom a l) x := by unfold hashFrom; rw [List.foldl_append]; rfl
theorem hashFrom_bd (l : List Int) : ∀ a : Int, 0 ≤ a → a < 2147483647 → 0 ≤ hashFrom a l ∧ hashFrom a l < 2147483647 := by
  induction l with
  | nil => intro a h1 h2; exact ⟨h1, h2⟩
  | cons x r ih => intro a _ _; exact ih _ (hstep_bd a x).1 (hstep_bd a x).2
theorem hashOf_bd (l : List Int) : 0 ≤ hashOf l ∧ hashOf l < 2147483647 := hashFrom_bd l 11 (by omega) (by omega)
theorem khash_bd (k : Int) (l : List Int) : 0 ≤ khash k l ∧ khash k l < 2147483647 := hstep_bd _ _
theorem khash_eq (k : Int) (l : List Int) : hashOf (([k] ++ l) ++ [k]) = khash k l := by
  unfold hashOf khash
  rw [hashFrom_snoc]
  rfl
theorem take_step (l : List Int) (j : Nat) (x : Int) (h : l[j]? = some x) : l.take (j + 1) = l.take j ++ [x] := by rw [List.take_add_one, h]; rfl
theorem hashFrom_take (a : Int) (l : List Int) (j : Nat) (x : Int) (h : l[j]? = some x) : hashFrom a (l.take (j + 1)) = hstep (hashFrom a (l.take j)) x := by rw [take_step l j x h, hashFrom_snoc]

/-- What comes in differently goes out differently: the factor is no multiple of the modulus, which is prime. -/
theorem acc_dvd {a b r : Int} (h : (a * 1000003 + r + 13) % 2147483647 = (b * 1000003 + r + 13) % 2147483647) : (2147483647 : Int) ∣ (a - b) * 1000003 := by
  have h2 : (2147483647 : Int) ∣ (a * 1000003 + r + 13) - (b * 1000003 + r + 13) := Int.dvd_of_emod_eq_zero (Int.emod_eq_emod_iff_emod_sub_eq_zero.1 h)
  have e : (a - b) * 1000003 = a * 1000003 + r + 13 - (b * 1000003 + r + 13) := by rw [Int.sub_mul]; omega
  rw [e]
  exact h2
theorem acc_abs (d : Int) (h : (2147483647 : Int) ∣ d * 1000003) : (2147483647 : Nat) ∣ d.natAbs * 1000003 := by
  have h3 := Int.natAbs_dvd_natAbs.2 h
  rw [Int.natAbs_mul] at h3
  simpa using h3
theorem acc_apart : Nat.Coprime 2147483647 1000003 := by decide +kernel
theorem acc_zero (n : Nat) (h : (2147483647 : Nat) ∣ n * 1000003) (hn : n < 2147483647) : n = 0 := Nat.eq_zero_of_dvd_of_lt (Nat.Coprime.dvd_of_dvd_mul_right acc_apart h) hn
theorem hstep_acc {a b v : Int} (h : hstep a v = hstep b v) (ha : 0 ≤ a) (ha' : a < 2147483647) (hb : 0 ≤ b) (hb' : b < 2147483647) : a = b := by
  have h4 := acc_zero _ (acc_abs _ (acc_dvd h)) (by omega)
  omega
theorem hstep_val {a v v' : Int} (h : hstep a v = hstep a v') : v % 2147483647 = v' % 2147483647 := by
  unfold hstep at h
  generalize a * 1000003 = r at h
  omega
theorem hashFrom_acc (l : List Int) : ∀ {a b : Int}, hashFrom a l = hashFrom b l → 0 ≤ a → a < 2147483647 → 0 ≤ b → b < 2147483647 → a = b := by
  induction l with
  | nil => intro a b h _ _ _ _; exact h
  | cons x r ih =>
    intro a b h h1 h2 h3 h4
    exact hstep_acc (ih (a := hstep a x) (b := hstep b x) h (hstep_bd _ _).1 (hstep_bd _ _).2 (hstep_bd _ _).1 (hstep_bd _ _).2) h1 h2 h3 h4
theorem hashFrom_append (a : Int) (l r : List Int) : hashFrom a (l ++ r) = hashFrom (hashFrom a l) r := by unfold hashFrom; rw [List.foldl_append]
theorem khash_mid {k x y : Int} {l r : List Int} (h : khash k (l ++ y :: r) = khash k (l ++ x :: r)) : y % 2147483647 = x % 2147483647 := by
  have hs := hstep_bd 11 k
  have hl := hashFrom_bd l _ hs.1 hs.2
  unfold khash at h
  have e : ∀ z, hashFrom (hstep 11 k) (l ++ z :: r) = hashFrom (hstep (hashFrom (hstep 11 k) l) z) r := fun z => hashFrom_append _ _ _
  have hb : ∀ z, 0 ≤ hashFrom (hstep 11 k) (l ++ z :: r) ∧ hashFrom (hstep 11 k) (l ++ z :: r) < 2147483647 := fun z => hashFrom_bd _ _ hs.1 hs.2
  have h1 := hstep_acc h (hb y).1 (hb y).2 (hb x).1 (hb x).2
  rw [e, e] at h1
  exact hstep_val (hashFrom_acc r h1 (hstep_bd _ _).1 (hstep_bd _ _).2 (hstep_bd _ _).1 (hstep_bd _ _).2)
theorem khash_set {k : Int} {l : List Int} {i : Nat} {x y : Int} (hx : l[i]? = some x) (h : khash k (l.set i y) = khash k l) : y % 2147483647 = x % 2147483647 := by
  have hi : i < l.length := by
    rcases Nat.lt_or_ge i l.length with h1 | h1
    · exact h1
    · rw [List.getElem?_eq_none h1] at hx; cases hx
  have hxe : l[i] = x := by rw [List.getElem?_eq_getElem hi] at hx; exact Option.some.inj hx
  have e1 : l = l.take i ++ x :: l.drop (i + 1) := by
    rw [← hxe, ← List.drop_eq_getElem_cons hi, List.take_append_drop]
  have e2 : l.set i y = l.take i ++ y :: l.drop (i + 1) := by rw [List.set_eq_take_append_cons_drop, if_pos hi]
  rw [e2] at h
  exact khash_mid (h.trans (congrArg (khash k) e1))
end Go.Proofs.Ytgkacnngodamgaa
namespace Go.Proofs.Ytgkacnngodamgaa
open Go.ChangeShapes Go.WideShapes Go.ChangeAt Go.RowKit
set_option linter.unusedVariables false

/-- A number that an int holds. -/
abbrev Fit64 (x : Int) : Prop := (Lit.int .i64 x).wf = true
theorem fit_mk {x : Int} (h1 : -9223372036854775808 ≤ x) (h2 : x ≤ 9223372036854775807) : Fit64 x := by
  unfold Fit64
  simp [Lit.wf, IntKind.min, IntKind.max, IntKind.signed, IntKind.bits]
  exact ⟨by omega, by omega⟩

theorem tmod_bounds (p q : Int) (h : 1 ≤ q) : -q < p.tmod q ∧ p.tmod q < q := by
  have h1 := Int.tmod_lt_of_pos p (show 0 < q by omega)
  have h2 := Int.tmod_lt_of_pos (-p) (show 0 < q by omega)
  rw [Int.neg_tmod] at h2
  omega
theorem tmod_sub_emod (p q : Int) : p.tmod q - p % q = q * (p / q - p.tdiv q) := by
  have h1 := Int.tmod_def p q
  have h2 := Int.emod_def p q
  rw [Int.mul_sub]
  omega
theorem tmod_neg_emod (p q : Int) (h : 1 ≤ q) (hn : p.tmod q < 0) : p.tmod q + q = p % q := by
  have h1 := Int.emod_nonneg p (show q ≠ 0 by omega)
  have h2 := Int.emod_lt_of_pos p (show 0 < q by omega)
  have b := tmod_bounds p q h
  have h4 := tmod_sub_emod p q
  have h5 : p / q - p.tdiv q = -1 := by
    generalize p / q - p.tdiv q = t at h4
    rcases Int.lt_trichotomy t (-1) with ht | ht | ht
    · have : q * t ≤ q * (-2) := Int.mul_le_mul_of_nonneg_left (by omega) (by omega)
      omega
    · exact ht
    · have : q * 0 ≤ q * t := Int.mul_le_mul_of_nonneg_left (by omega) (by omega)
      omega
  rw [h5] at h4
  omega
theorem tmod_pos_emod (p q : Int) (h : 1 ≤ q) (hn : 0 ≤ p.tmod q) : p.tmod q = p % q := by
  have h1 := Int.emod_nonneg p (show q ≠ 0 by omega)
  have h2 := Int.emod_lt_of_pos p (show 0 < q by omega)
  have b := tmod_bounds p q h
  have h4 := tmod_sub_emod p q
  have h5 : p / q - p.tdiv q = 0 := by
    generalize p / q - p.tdiv q = t at h4
    rcases Int.lt_trichotomy t 0 with ht | ht | ht
    · have : q * t ≤ q * (-1) := Int.mul_le_mul_of_nonneg_left (by omega) (by omega)
      omega
    · exact ht
    · have : q * 1 ≤ q * t := Int.mul_le_mul_of_nonneg_left (by omega) (by omega)
      omega
  rw [h5] at h4
  omega
set_option maxHeartbeats 400000 in
/-- The remainder, in the program and in its model, at a divisor in range. -/
theorem mod_in (p q : Int) (h1 : 1 ≤ q) (h2 : q ≤ 1000000000000) (w0 : Fit64 p) (w : World) :
    Calls Try.prog 86 #[.int .i64 p, .int .i64 q] w fun e w' => e = .returned (.int .i64 (p % q)) ∧ w = w' := by
  have b0 := bounds_i64 w0
  clear w0
  obtain ⟨b1, b2⟩ := tmod_bounds p q h1
  by_cases hn : p.tmod q < 0
  · rw [← tmod_neg_emod p q h1 hn]
    go_enter Try.func86, Try.ntmps86
    go_wp2
    go_ret
    exact ⟨rfl, rfl⟩
  · rw [← tmod_pos_emod p q h1 (by omega)]
    go_enter Try.func86, Try.ntmps86
    go_wp2
    go_ret
    exact ⟨rfl, rfl⟩
set_option maxHeartbeats 400000 in
theorem specMod_in (p q : Int) (h1 : 1 ≤ q) (h2 : q ≤ 1000000000000) (w0 : Fit64 p) (w : World) :
    Calls Try.prog 93 #[.int .i64 p, .int .i64 q] w fun e w' => e = .returned (.int .i64 (p % q)) ∧ w = w' := by
  have b0 := bounds_i64 w0
  clear w0
  obtain ⟨b1, b2⟩ := tmod_bounds p q h1
  have e : (p.tmod q + q) % q = p % q := by
    by_cases hn : p.tmod q < 0
    · rw [tmod_neg_emod p q h1 hn, Int.emod_emod_of_dvd p (Int.dvd_refl q)]
    · rw [tmod_pos_emod p q h1 (by omega), Int.add_emod_right, Int.emod_emod_of_dvd p (Int.dvd_refl q)]
  rw [← e]
  clear e
  go_enter Try.func93, Try.ntmps93
  go_wp2
  go_ret
  exact ⟨rfl, rfl⟩

theorem ret_i64 {a b : Int} (h : a = b) : Ending.returned (.int .i64 a) = .returned (.int .i64 b) := by rw [h]
theorem fold_any (a v : Int) (h0 : 0 ≤ a) (h1 : a < 2147483647) (hv : Fit64 v) (w : World) :
    Calls Try.prog 105 #[.int .i64 a, .int .i64 v] w fun e w' => e = .returned (.int .i64 (hstep a v)) ∧ w = w' := by
  have b1 : 0 ≤ v % 2147483647 := by omega
  have b2 : v % 2147483647 < 2147483647 := by omega
  have HV := Lib.hid hv
  clear hv
  go_enter Try.func105, Try.ntmps105
  go_wp2_with (go_at_call 86; refine (mod_in _ _ (by omega) (by omega) HV.out _).mono ?_; rintro e w' ⟨rfl, rfl⟩)
  go_ret
  exact ⟨rfl, rfl⟩

/-- Every number of a list is one that an int holds. -/
abbrev Fits64 (l : List Int) : Prop := ∀ x ∈ l, Fit64 x
theorem Fits64.get {l : List Int} (h : Fits64 l) {j : Nat} {x : Int} (hx : l[j]? = some x) : Fit64 x := h x (List.mem_of_getElem? hx)

theorem foldAll_any (acc : Int) (a : Option Addr) (n c : Nat) (l : List Int) (w : World) (h0 : 0 ≤ acc) (h1 : acc < 2147483647) (h : Nums .i64 w a n l) (hl : Fits64 l) :
    Calls Try.prog 101 #[.int .i64 acc, .slice a n c] w fun e w' => e = .returned (.int .i64 (hashFrom acc l)) ∧ w = w' := by
  have hn := h.fits
  have H := Lib.hid h
  have HL := Lib.hid hl
  clear h hl
  go_enter Try.func101, Try.ntmps101
  go_wp2
  go_loop [0, 9] (fun v i => ∃ j : Nat, j ≤ n ∧ i = .int .i64 j ∧ v = .int .i64 (hashFrom acc (l.take j))) (fun _ i => n - (intOf i).toNat)
  case atStart => exact ⟨0, Nat.zero_le _, rfl, rfl⟩
  case round =>
    obtain ⟨j, hj, rfl, rfl⟩ := hrel
    obtain ⟨hb0, hb1⟩ := hashFrom_bd (l.take j) acc h0 h1
    by_cases hlt : j < n
    · obtain ⟨ad, x, rfl, hx, hc⟩ := H.out.at_ hlt
      have HX := Lib.hid hx
      clear hx
      go_wp2_with (go_at_call 105; refine (fold_any _ _ hb0 hb1 (HL.out.get HX.out) _).mono ?_; rintro e w' ⟨rfl, rfl⟩)
      go_round
      case rel => exact ⟨j + 1, by omega, by go_num, by rw [hashFrom_take _ _ _ _ HX.out]⟩
      case measure => simp [intOf]; omega
    · obtain rfl : j = n := by omega
      go_wp2
      go_ret
      exact ⟨ret_i64 (by rw [List.take_of_length_le (by have := H.out.len; omega)]), rfl⟩
theorem hash_any (a : Option Addr) (n c : Nat) (l : List Int) (w : World) (h : Nums .i64 w a n l) (hl : Fits64 l) :
    Calls Try.prog 87 #[.slice a n c] w (Told (.int .i64 (hashOf l)) w) := by
  go_enter Try.func87, Try.ntmps87
  go_wp2_with (go_at_call 101; refine (foldAll_any _ _ _ _ _ _ (by omega) (by omega) h hl).mono ?_; rintro e w' ⟨rfl, rfl⟩)
  go_ret
  exact ⟨rfl, Below.refl _ _⟩
end Go.Proofs.Ytgkacnngodamgaa
