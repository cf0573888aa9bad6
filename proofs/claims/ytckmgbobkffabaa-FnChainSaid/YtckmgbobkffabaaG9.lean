/- Where each number stands first: a map that the call fills from a list, from its back. What two lists have in common, by the program: a call through an interface, behind which a word or a map stands. -/
import Derived.RangeFuncNested
import Derived.RangeFuncBound
import Derived.RangeFuncCalls
import Derived.RangeFuncLeaves
import Derived.RangeFuncBox
import Derived.Shelf.Abstract
import Derived.Shelf.RegionOpen
import Derived.WalkKit
import Derived.OwnWalkIn
import Derived.TacticsInMore
import Derived.LoopNIn
import Derived.LoopIn
import Derived.Maps.AppendAt
import Derived.Maps.OwnIn
import Derived.Maps.OwnSet
import Derived.Test.YtckmgbobkffabaaG1
import Derived.Test.YtckmgbobkffabaaG8
import Derived.Test.YtckmgbobkffabaaG3
import Derived.Laws.EntriesVeiled
namespace Go.Proofs.Ytckmgbobkffabaa
open Go.ChangeShapes Go.WideShapes Go.ChangeAt Go.RowKit Go.Shelf
set_option linter.unusedVariables false
attribute [local go_sem] Oper.semAt_some

/-- An integer of 64 bits. -/
abbrev W64 := {x : Int // (Lit.int .i64 x).wf = true}
def mk64 (z : Int) : W64 := if h : (Lit.int .i64 z).wf = true then ⟨z, h⟩ else ⟨0, by decide⟩
theorem mk64_val {z : Int} (h : (Lit.int .i64 z).wf = true) : (mk64 z).1 = z := by unfold mk64; rw [dif_pos h]
/-- The places and numbers of a list, from its back: the first k of them. -/
def backs (zs : List Int) (k : Nat) : List (W64 × W64) := (List.range k).map fun (j : Nat) => (mk64 ((zs.length : Int) - 1 - (j : Int)), mk64 (zs.getD (zs.length - 1 - j) 0))
theorem backs_succ (zs : List Int) (k : Nat) : backs zs (k + 1) = backs zs k ++ [(mk64 ((zs.length : Int) - 1 - k), mk64 (zs.getD (zs.length - 1 - k) 0))] := by simp [backs, List.range_succ]
theorem backs_len (zs : List Int) (k : Nat) : (backs zs k).length = k := by simp [backs]
/-- A map that holds each number's first place. -/
def pl (i : Nat) : List Int → DataW Unit
 | [] => .map []
 | x :: t => (pl (i + 1) t).put (.int .i64 x) (.lit (.int .i64 (i : Int)))
def plP (ps : List (W64 × W64)) : DataW Unit := ps.foldl (fun D x => D.put (.int .i64 x.2.1) (.lit (.int .i64 x.1.1))) (.map [])
theorem plP_snoc (ps : List (W64 × W64)) (x : W64 × W64) : plP (ps ++ [x]) = (plP ps).put (.int .i64 x.2.1) (.lit (.int .i64 x.1.1)) := by simp [plP]
theorem plP_backs {zs : List Int} (hz : ∀ z ∈ zs, (Lit.int .i64 z).wf = true) (hn : zs.length ≤ 1048576000) : ∀ k, k ≤ zs.length → plP (backs zs k) = pl (zs.length - k) (zs.drop (zs.length - k))
 | 0, _ => by simp [backs, plP, pl]
 | k + 1, h => by
  have hj : zs.length - (k + 1) < zs.length := by omega
  rw [backs_succ, plP_snoc, plP_backs hz hn k (by omega), List.drop_eq_getElem_cons hj, pl, show zs.length - (k + 1) + 1 = zs.length - k by omega]
  have e1 : ((zs.length : Int) - 1 - k) = ((zs.length - (k + 1) : Nat) : Int) := by omega
  have e2 : zs.getD (zs.length - 1 - k) 0 = zs[zs.length - (k + 1)] := by
   rw [show zs.length - 1 - k = zs.length - (k + 1) by omega, List.getD, List.getElem?_eq_getElem hj]; rfl
  dsimp only
  rw [e1, e2, mk64_val (z := ((zs.length - (k + 1) : Nat) : Int)) (WalkArith.wf_i64 (by omega)), mk64_val (hz _ (List.getElem_mem hj))]
section
open Go.Maps
theorem pl_isMap : ∀ (i : Nat) (zs : List Int), IsMap (pl i zs)
 | _, [] => isMap_empty
 | i, x :: t => (pl_isMap (i + 1) t).put _ _
theorem pl_tidy : ∀ (i : Nat) (zs : List Int), Tidy (pl i zs)
 | _, [] => tidy_empty
 | i, x :: t => (pl_tidy (i + 1) t).put (by simp [WideAt.IsKeyLit]) _
theorem lit_ne {x k : Int} (h : ¬ x = k) : (Lit.int .i64 k) ≠ (Lit.int .i64 x) := fun e => h (by injection e with _ e2; exact e2.symm)
theorem pl_has (k : Int) : ∀ (i : Nat) (zs : List Int), Maps.has (pl i zs) (.int .i64 k) = decide (k ∈ zs)
 | _, [] => by simp [pl, Maps.has]
 | i, x :: t => by
  by_cases h : x = k
  ·subst h
   rw [pl, has_put_same (pl_isMap _ _) (by simp [WideAt.IsKeyLit])]
   simp
  ·rw [pl, has_put_other (lit_ne h), pl_has k (i + 1) t]
   have : ¬ k = x := fun e => h e.symm
   simp [this]
theorem pl_at (k : Int) (z : DataW Unit) : ∀ (i : Nat) (zs : List Int), k ∈ zs → (pl i zs).atKey (.int .i64 k) z = .lit (.int .i64 ((i + zs.idxOf k : Nat) : Int))
 | _, [], h => by simp at h
 | i, x :: t, h => by
  by_cases e : x = k
  ·subst e
   rw [pl, atKey_put_same (pl_isMap _ _) (by simp [WideAt.IsKeyLit])]
   simp
  ·have ht : k ∈ t := by
    rcases List.mem_cons.1 h with q | q
    ·exact absurd q.symm e
    ·exact q
   rw [pl, atKey_put_other (lit_ne e), pl_at k z (i + 1) t ht, List.idxOf_cons, beq_false_of_ne e, cond_false]
   congr 3
   omega
theorem pl_size_le : ∀ (i : Nat) (zs : List Int), Maps.size (pl i zs) ≤ zs.length
 | _, [] => by simp [pl, Maps.size]
 | i, x :: t => by
  rw [pl, size_put (pl_tidy _ _)]
  have := pl_size_le (i + 1) t
  split <;> simp <;> omega
theorem pl_size : ∀ (i : Nat) (zs : List Int), (Maps.size (pl i zs) = zs.length ↔ zs.Nodup)
 | _, [] => by simp [pl, Maps.size]
 | i, x :: t => by
  have h1 := pl_size (i + 1) t
  have h2 := pl_size_le (i + 1) t
  rw [pl, size_put (pl_tidy _ _), pl_has, List.nodup_cons]
  by_cases h : x ∈ t
  ·simp [h]
   omega
  ·simp [h]
   exact h1
end
theorem Nums.under {k : IntKind} {w w' : World} {a : Option Addr} {n n₀ : Nat} {l : List Int} (h : Nums k w a n l) (hb : Below n₀ w w') (ha : ∀ ad, a = some ad → ad.block < n₀) : Nums k w' a n l :=
 ⟨h.len, h.fits, fun j hj => by
  obtain ⟨ad, e, hx⟩ := h.cell j hj
  exact ⟨ad, e, by rw [hb.cell (by rw [addr_block]; exact ha ad e)]; exact hx⟩⟩
theorem Nums.in_ {k : IntKind} {w : World} {a : Option Addr} {n : Nat} {l : List Int} (h : Nums k w a n l) (hn : 0 < n) : ∀ ad, a = some ad → ad.block < w.heap.size := fun ad e => by
 obtain ⟨ad', e', hx⟩ := h.cell 0 hn
 rw [e] at e'
 cases e'
 have := cell_in hx
 rwa [addr_block] at this
/-- What lay ahead of n0, and block g, has not changed. -/
def KeptToo (n₀ g : Nat) (A B : World) : Prop := Below n₀ A B ∧ B.heap[g]? = A.heap[g]?

set_option maxRecDepth 100000 in
set_option maxHeartbeats 2000000 in
theorem back1_in (m l g n₀ : Nat) (a : Option Addr) (n c : Nat) (zs : List Int) (hm : 1 ≤ m) (hn : n ≤ 1048576000) (hz : ∀ z ∈ zs, (Lit.int .i64 z).wf = true) (ha : 0 < n → ∀ ad, a = some ad → ad.block < n₀) (J Jx : List (W64 × W64) → World → Prop)
  (hY : ∀ pre x W, J pre W → pre.length < n → YieldAt Fence.wide (m - 1) Try.prog l #[.int .i64 x.1.1, .int .i64 x.2.1] W fun e W' =>
   (e = .returned (.bool true) ∧ J (pre ++ [x]) W' ∧ KeptToo n₀ g W W') ∨ (e = .returned (.bool false) ∧ Jx (pre ++ [x]) W'))
  (W : World) (hG : W.heap[g]? = some (.cells #[.slice a n c] 31 (0, 0))) (hN : Nums .i64 W a n zs) (h0 : J [] W) :
  CallsIn Fence.wide m Try.prog 150 #[.func (.yield l) #[] #[], .pointer (some ⟨g, 0, none⟩)] W fun e W' => (∃ v, e = .returned v) ∧
   ((∃ ys, ys = backs zs n ∧ J ys W') ∨ (∃ pre, True ∧ Jx pre W')) := by
 have hl := hN.len
 have HN := Lib.hid hN
 have HZ := Lib.hid hz
 have HA := Lib.hid ha
 have hG0 := (block_cell hG 0).trans rfl
 have HG := Lib.hid hG
 clear hN hz ha hG
 refine callsIn_of_wp Try.func150 rfl trivial ?_ rfl
 simp only [Try.ntmps150, List.size_toArray, List.length_cons, List.length_nil, Nat.reduceAdd, Nat.reduceSub, Array.replicate_succ, Array.replicate_zero, List.push_toArray, List.append_toArray, List.nil_append, List.cons_append]
 gi_wp2
 gi_loopw [3] (fun i wr => ∃ k : Nat, k ≤ n ∧ i = .int .i64 ((n : Int) - 1 - k) ∧ J (backs zs k) wr ∧ KeptToo n₀ g W wr) (fun i _ => (intOf i + 1).toNat)
 case atStart => exact ⟨0, Nat.zero_le _, by simp, h0, Below.refl _ _, rfl⟩
 case round =>
  obtain ⟨k, hk, rfl, hJ, hK⟩ := hrel
  have HJ := Lib.hid hJ
  have HK := Lib.hid hK
  clear hJ hK
  by_cases hlt : k < n
  ·have hg1 := (block_cell (HK.out.2.trans HG.out) 0).trans rfl
   obtain ⟨j, hj⟩ : ∃ j : Nat, j = n - 1 - k := ⟨_, rfl⟩
   have ej : (n : Int) - 1 - k = (j : Int) := by omega
   rw [ej]
   obtain ⟨ad, z, e, hx, hc⟩ := (HN.out.under HK.out.1 (HA.out (by omega))).at_ (j := j) (by omega)
   subst e
   have hzw := HZ.out z (List.mem_of_getElem? hx)
   have HS : Hid (backs zs (k + 1) = backs zs k ++ [(mk64 (j : Int), mk64 z)]) := Lib.hid (by
    rw [backs_succ, hl, ej, ← hj, List.getD, hx]; rfl)
   have e1 : (mk64 (j : Int)).1 = (j : Int) := mk64_val (WalkArith.wf_i64 (by omega))
   have e2 : (mk64 z).1 = z := mk64_val hzw
   obtain ⟨fn, tmps, assign, body, hy, hR⟩ := hY (backs zs k) (mk64 (j : Int), mk64 z) wr HJ.out (by rw [backs_len]; exact hlt)
   dsimp only at hy
   rw [e1, e2] at hy
   have HR := Lib.hid hR
   have HE := Lib.hid (show j + k + 1 = n by omega)
   have hjn : j < n := by have := HE.out; omega
   clear hx hzw e1 e2 hR hj ej
   gi_wp2
   refine HR.out.mono ?_
   rintro e w3 (⟨rfl, hJ3, hk3⟩ | ⟨rfl, hJx3⟩)
   ·gi_wp2
    go_roundw
    case rel => exact ⟨k + 1, by have := HE.out; omega, by have := HE.out; go_num, by rw [HS.out]; exact hJ3, HK.out.1.trans hk3.1, hk3.2.trans HK.out.2⟩
    case measure => have := HE.out; simp [intOf]
   ·gi_wp2
    refine bodyPost_ret (results_none rfl _ _ _) rfl ?_
    exact ⟨⟨_, rfl⟩, .inr ⟨_, trivial, hJx3⟩⟩
  ·obtain rfl : k = n := by omega
   gi_wp2
   go_end0
   exact ⟨⟨_, rfl⟩, .inl ⟨_, rfl, HJ.out⟩⟩
theorem back_stops (m g n₀ : Nat) (a : Option Addr) (n c : Nat) (zs : List Int) (hm : 1 ≤ m) (hn : n ≤ 1048576000) (hz : ∀ z ∈ zs, (Lit.int .i64 z).wf = true) (ha : 0 < n → ∀ ad, a = some ad → ad.block < n₀) (w : World) (hG : w.heap[g]? = some (.cells #[.slice a n c] 31 (0, 0))) (hN : Nums .i64 w a n zs) :
  SeqStopsK Fence.wide m Try.prog 150 #[.pointer (some ⟨g, 0, none⟩)] (fun x : W64 × W64 => #[Value.int .i64 x.1.1, Value.int .i64 x.2.1]) (KeptToo n₀ g) (fun ys => ys = backs zs n) (fun _ => True) n w := fun l J Jx W hW hJ _ hY h0 =>
 back1_in m l g n₀ a n c zs hm hn hz ha J Jx hY W ((hW.block _ (Array.getElem?_eq_some_iff.1 hG).1).trans hG) (hN.same hW) h0
theorem backward_in (m : Nat) (a : Option Addr) (n c : Nat) (w : World) :
  CallsIn Fence.wide m Try.prog 148 #[.slice a n c] w fun e w' => e = .returned (.func (.func 150) #[] #[.pointer (some ⟨w.heap.size, 0, none⟩)]) ∧ w' = w.alloc (.cells #[.slice a n c] 31) := by
 refine callsIn_of_wp Try.func148 rfl trivial ?_ rfl
 simp only [Try.ntmps148, List.size_toArray, List.length_cons, List.length_nil, Nat.reduceAdd, Nat.reduceSub, Array.replicate_succ, Array.replicate_zero, List.push_toArray, List.append_toArray, List.nil_append, List.cons_append]
 gi_wp2
 go_ret
 exact ⟨rfl, rfl⟩
theorem map_zero (w : World) : (zeroValue 3).run Try.prog w = .ok (.int .i64 0) w := by kernel_rfl
theorem int_keys : Maps.Keyed Try.prog 3 := Maps.int_keyed Try.underlying3
theorem kept_t {n₀ g : Nat} {A B C : World} (h : KeptToo n₀ g A B) (k : KeptToo n₀ g B C) : KeptToo n₀ g A C := ⟨h.1.trans k.1, k.2.trans h.2⟩

set_option maxRecDepth 100000 in
set_option maxHeartbeats 2000000 in
theorem places_in (a : Option Addr) (n c : Nat) (zs : List Int) (w : World) (hN : Nums .i64 w a n zs) (hz : ∀ z ∈ zs, (Lit.int .i64 z).wf = true) (hn : n ≤ 1048576000) :
  CallsIn Fence.wide 4 Try.prog 139 #[.slice a n c] w fun e W' => e = .returned (.map (some w.heap.size)) ∧ W'.ownsMap Try.prog 3 (plainElem (H := Unit) Try.prog 3) w.heap.size n (pl 0 zs) ∧ Below w.heap.size w W' := by
 have h1 : 1 ≤ 4 := by omega
 have hmm := @run_makeMap Try.prog
 have hl := hN.len
 have ha : 0 < n → ∀ ad, a = some ad → ad.block < w.heap.size := fun h => hN.in_ h
 refine callsIn_of_wp_marks Try.func139 rfl trivial ?_ rfl
 simp only [Try.ntmps139, List.size_toArray, List.length_cons, List.length_nil, Nat.reduceAdd, Nat.reduceSub, Array.replicate_succ, Array.replicate_zero, List.push_toArray, List.append_toArray, List.nil_append, List.cons_append]
 gi_wp2_with (refine ⟨trivial, ?_⟩; gi_at_call 148; refine (backward_in 3 _ _ _ _).mono ?_; rintro e w' ⟨rfl, rfl⟩)
 have hm0 := World.ownsMap_made w Try.prog 3 (plainElem (H := Unit) Try.prog 3)
 have bS := (Boxed.new (w.alloc (.map #[] 0)) 107 (.map (some w.heap.size))).alloc (.cells #[.slice a n c] 31)
 have hG := World.alloc_heap_new ((w.alloc (.map #[] 0)).alloc (.cells #[.map (some w.heap.size)] 107)) (.cells #[.slice a n c] 31)
 simp only [World.size_alloc] at bS hG
 have hB0 : Below w.heap.size w (((w.alloc (.map #[] 0)).alloc (.cells #[.map (some w.heap.size)] 107)).alloc (.cells #[.slice a n c] 31)) := (((Below.refl _ w).alloc (Nat.le_refl _) _).alloc (by simp) _).alloc (by simp; omega) _
 refine wpIn_rangeFunc_ownG rfl h1 (gf := 150) (lb := #[.pointer (some ⟨w.heap.size + 1 + 1, 0, none⟩)]) rfl trivial (enters_of Try.func150 (by kernel_rfl) rfl)
  (back_stops 3 (w.heap.size + 1 + 1) w.heap.size a n c zs (by omega) hn hz ha _ hG (hN.same hB0)) (fun h k => kept_t h k) (fun W l o o' hl' ho hc hw => ⟨belowK_b (w := (((w.alloc (.map #[] 0)).alloc (.cells #[.map (some w.heap.size)] 107)).alloc (.cells #[.slice a n c] 31))) (by simp; omega) W l o o' hl' ho hc hw, World.putObj_heap_other (by simp at hl'; omega)⟩) (Below.refl _ _) (by intro x; rfl)
  (fun pre W => (W.cell? ⟨w.heap.size + 1, 0, none⟩ = some (.map (some w.heap.size)) ∧ W.cell? ⟨w.heap.size + 1 + 1, 0, none⟩ = some (.slice a n c) ∧ W.ownsMap Try.prog 3 (plainElem (H := Unit) Try.prog 3) w.heap.size pre.length (plP pre)) ∧ Below w.heap.size w W)
  (fun _ _ _ => False)
  (OwnFrom.and (fun s A B row hs hg hr => ⟨Go.cell_kept hs.1 hg (fun r e => (hr r e).2), Go.cell_kept hs.2.1 hg (fun r e => (hr r e).2), hs.2.2.kept hg (fun e => by have := (hr _ e.symm).1; simp at this; omega)⟩) (ownFrom_below (Nat.le_refl _) (by simp; omega)))
  (fun _ _ _ _ _ hs _ _ => hs)
  ⟨⟨bS.cell, (block_cell hG 0).trans rfl, (hm0.alloc _).alloc _⟩, hB0⟩
  (fun x => { tmps := #[.slice a n c, undef, .map none, .pointer (some ⟨w.heap.size + 1, 0, none⟩), .int .i64 x.1.1, .int .i64 x.2.1, .map (some w.heap.size), .slice a n c, .func (.func 150) #[] #[.pointer (some ⟨w.heap.size + 1 + 1, 0, none⟩)], .int .i64 x.1.1, .int .i64 x.2.1, undef, undef, undef, undef], defers := [] }) ?assign ?body ?done ?stop
 case assign =>
  intro l x W K hK
  gi_wp2
  exact hK
 case body =>
  rintro l pre x W ⟨⟨hc, hc2, hown⟩, hB⟩ hlt
  have hkey := Maps.keyOf_int_mk Try.underlying3 x.2.2
  gi_wp2_with (gi_at_mapUpdate; refine wpListIn_mapUpdate_own _ rfl _ _ _ 107 rfl 3 3 int_keys Try.underlying107 _ w.heap.size pre.length _ rfl hown (by unfold maxLen; omega) _ _ _ rfl rfl hkey _ [] (plainElem_int Try.underlying3 x.1.2) ?_; intro w1 hown1 hgrow1)
  obtain ⟨es, ck, hh, _⟩ := hown
  exact ⟨KeepsFrom.of_grownBy hgrow1 (fun j e => by cases e; simp; omega), ⟨(Below.refl _ W).grown hgrow1 hB.size (fun k e => by cases e; exact Nat.le_refl _), hgrow1.block _ (cell_in hc2) (by simp; omega)⟩,
   ⟨Go.cell_kept hc hgrow1 (fun r e => by cases e; exact ⟨_, hh, rfl⟩), Go.cell_kept hc2 hgrow1 (fun r e => by cases e; exact ⟨_, hh, rfl⟩), by rw [plP_snoc, List.length_append]; exact hown1⟩, hB.grown hgrow1 hB.size (fun k e => by cases e; exact Nat.le_refl _)⟩
 case done =>
  rintro D ys W hD rfl ⟨⟨hc, _, hown⟩, hB⟩ hK
  gi_wp2
  refine ⟨by simp, .inl ⟨_, _, rfl, run_takeDeferred hK, ?_⟩⟩
  have hfin := plP_backs hz (by omega) zs.length (Nat.le_refl _)
  rw [Nat.sub_self, List.drop_zero, hl] at hfin
  rw [backs_len, hfin] at hown
  exact ⟨_, results_tmp rfl _ _ _, rfl, hown.kept (grownBy_putObj' _ D _) (fun e => by cases e; simp at hD; omega), hB.trans (belowK_b (w := w) (Nat.le_refl _) W D _ _ (by simp at hD; omega) hK rfl rfl)⟩
 case stop =>
  rintro D c pre W _ _ h _
  exact h.elim
theorem placesOf_any (a : Option Addr) (n c : Nat) (zs : List Int) (w : World) (hN : Nums .i64 w a n zs) (hz : ∀ z ∈ zs, (Lit.int .i64 z).wf = true) (hn : n ≤ 1048576000) :
  Calls Try.prog 139 #[.slice a n c] w fun e w' => e = .returned (.map (some w.heap.size)) ∧ w'.ownsMap Try.prog 3 (plainElem (H := Unit) Try.prog 3) w.heap.size n (pl 0 zs) ∧ Below w.heap.size w w' := callsIn_wide.1 (places_in a n c zs w hN hz hn)
end Go.Proofs.Ytckmgbobkffabaa
namespace Go.Proofs.Ytckmgbobkffabaa
open Go.ChangeShapes Go.WideShapes Go.ChangeAt Go.RowKit Go.Shelf
set_option linter.unusedVariables false
set_option linter.unusedSimpArgs false

theorem numbersOf_word {a : Option Addr} {n c : Nat} {l : List Int} {w : World} (h : Nums .i64 w a n l) (h0 : word l ≠ 0) :
  Calls Try.prog 126 #[.slice a n c] w fun e w' => e = .returned (.iface 156 (.int .u16 (word l : Int))) ∧ w = w' := by
 have H := Lib.hid (versionsOf_any (c := c) h)
 obtain ⟨k, hk⟩ : ∃ k : Nat, word l = k := ⟨_, rfl⟩
 rw [hk] at H h0 ⊢
 have hk0 : ((k : Int) == 0) = false := by simpa using h0
 clear h hk
 go_enter Try.func126, Try.ntmps126
 go_wp2_with fail
 refine H.out.mono ?_
 rintro e w' ⟨rfl, rfl⟩
 go_wp2_with fail
 go_ret
 exact ⟨rfl, rfl⟩
theorem numbersOf_map {a : Option Addr} {n c : Nat} {l : List Int} {w : World} (h : Nums .i64 w a n l) (h0 : word l = 0) (hz : ∀ z ∈ l, (Lit.int .i64 z).wf = true) (hn : n ≤ 1048576000) :
  Calls Try.prog 126 #[.slice a n c] w fun e w' => e = .returned (.iface 158 (.map (some w.heap.size))) ∧ w'.ownsMap Try.prog 3 (plainElem (H := Unit) Try.prog 3) w.heap.size n (pl 0 l) ∧ Below w.heap.size w w' := by
 have H := Lib.hid (versionsOf_any (c := c) h)
 have HP := Lib.hid (placesOf_any a n c l w h hz hn)
 rw [h0] at H
 clear h h0 hz
 go_enter Try.func126, Try.ntmps126
 go_wp2_with fail
 refine H.out.mono ?_
 rintro e w' ⟨rfl, rfl⟩
 go_wp2_with fail
 refine HP.out.mono ?_
 rintro e w' ⟨rfl, hown, hb⟩
 have HO := Lib.hid hown
 have HB := Lib.hid hb
 clear hown hb
 go_wp2_with fail
 go_ret
 exact ⟨rfl, HO.out, HB.out⟩
set_option maxHeartbeats 1000000 in
set_option maxRecDepth 100000 in
theorem hasPlace_any {ts : List Int} {b m : Nat} (k : Int) (W : World) (hk : (Lit.int .i64 k).wf = true) (hm : W.ownsMap Try.prog 3 (plainElem (H := Unit) Try.prog 3) b m (pl 0 ts)) :
  Calls Try.prog 168 #[.map (some b), .int .i64 k] W fun e w' => e = .returned (.bool (decide (k ∈ ts))) ∧ w' = W := by
 have hkey := Maps.keyOf_int_mk Try.underlying3 hk
 have HH : Hid (Maps.has (pl 0 ts) (.int .i64 k) = decide (k ∈ ts)) := Lib.hid (pl_has _ _ _)
 have HM := Lib.hid hm
 clear hm
 go_enter Try.func168, Try.ntmps168
 go_wp2_with (at_lookup; refine wpList_lookup_own_ok_int _ rfl _ _ 158 rfl 3 3 .i64 int_keys Try.underlying158 Try.underlying3 (map_zero _) b m (pl 0 ts) rfl HM.out _ _ rfl hkey ?_; intro cc hcc _; rw [HH.out])
 go_ret
 exact ⟨rfl, rfl⟩
set_option maxHeartbeats 4000000 in
set_option maxRecDepth 100000 in
/-- The loop, whatever stands behind the interface: 'hH' says that its method tells of each number whether it is in the second list, in every later world. -/
theorem commonOf_any {a b : Option Addr} {n m c d : Nat} {l l' : List Int} {w : World} (h : Nums .i64 w a n l) (h' : Nums .i64 w b m l') (hz : ∀ z ∈ l, (Lit.int .i64 z).wf = true) (hz' : ∀ z ∈ l', (Lit.int .i64 z).wf = true) (hn : n ≤ 1048576000) (hm : m ≤ 1048576000) :
  Calls Try.prog 122 #[.slice a n c, .slice b m d] w (Made .i64 3 w.heap.size (common l l') w) := by
 have H := Lib.hid h
 have hl := Lib.hid h.len
 have HZ := Lib.hid hz
 obtain ⟨i0, hi, hz0, hz1, hz2⟩ := info_parts infoIntS
 have HI := Lib.hid (And.intro hi (And.intro hz0 (And.intro hz1 hz2)))
 clear hi hz0 hz1 hz2
 unfold Made
 by_cases h0 : word l' = 0
 ·have HN := Lib.hid (numbersOf_map (c := d) h' h0 hz' hm)
  clear h h' hz hz' h0
  go_enter Try.func122, Try.ntmps122
  go_wp2_with fail
  refine HN.out.mono ?_
  rintro e w1 ⟨rfl, hown, hb1⟩
  have HM := Lib.hid hown
  have HB1 := Lib.hid hb1
  have hs1 := hb1.size
  have hlt1 := hown.lt
  clear hown hb1 HN
  have KO := Lib.hid (Own.empty (k := .i64) (t := 3) (w := w1) (B := w1.heap.size) (Nat.le_refl _))
  go_wp2_with fail
  go_loopw [6, 8, 14] (fun s _ i wr => ∃ (a' : Option Addr) (c' n' j : Nat), s = .slice a' n' c' ∧ i = .int .i64 (j : Int) ∧ j ≤ n ∧ Own .i64 3 wr w1.heap.size a' n' c' (common (l.take j) l') ∧ Below w1.heap.size w1 wr) (fun _ _ i _ => n - (intOf i).toNat)
  case atStart => exact ⟨_, _, _, 0, rfl, rfl, Nat.zero_le _, by rw [List.take_zero]; exact KO.out, alloc_same _ _⟩
  case round =>
   obtain ⟨a', c', n', j, rfl, rfl, hj, ho, hb⟩ := hrel
   have HO := Lib.hid ho
   have HB := Lib.hid hb
   have hn9 : n' ≤ 1048576000 := by
    have h1 := ho.len
    have h2 := common_few (l.take j) l'
    rw [List.length_take] at h2
    omega
   have hsw : w1.heap.size ≤ wr.heap.size := hb.size
   clear ho hb
   by_cases hlt : j < n
   ·obtain ⟨ad, z, rfl, hx, hc⟩ := ((H.out.same HB1.out).same (HB.out.mono (Nat.le_refl _))).at_ hlt
    have hzw := HZ.out z (List.mem_of_getElem? hx)
    have HV := Lib.hid (hasPlace_any z wr hzw (HM.out.kept (grown_below HB.out none) (by simp)))
    cases hq : decide (z ∈ l') with
    | true =>
     have HY := Lib.hid (common_yes hx (of_decide_eq_true hq))
     rw [hq] at HV
     clear hq hx hzw
     go_wp2_with fail
     refine HV.out.mono ?_
     rintro e w2 ⟨rfl, rfl⟩
     go_wp2_with (at_builtin; refine wpl_app _ rfl (.tmp 21) (.tmp 23) 31 rfl .i64 3 i0 (.int .i64 0) 8 Try.underlying31 HI.out.1 HI.out.2.1 HI.out.2.2.1 HI.out.2.2.2 rfl rfl (HO.out.alloc _) rfl (nums_new _ _ _ _) (by omega) ?c6 ?c7 ?_)
     case c6 => omega
     case c7 => simp; omega
     intro a3 c3 w3 ho3 hb3
     have HO3 := Lib.hid ho3
     have HB3 := Lib.hid hb3
     clear ho3 hb3
     go_wp2
     go_roundw
     case rel => exact ⟨a3, c3, _, j + 1, rfl, by go_num, by omega, by rw [HY.out]; exact HO3.out, HB.out.trans (((alloc_same _ _).mono hsw).trans HB3.out)⟩
     case measure => simp [intOf]; omega
    | false =>
     have HY := Lib.hid (common_no hx (of_decide_eq_false hq))
     rw [hq] at HV
     clear hq hx hzw
     go_wp2_with fail
     refine HV.out.mono ?_
     rintro e w2 ⟨rfl, rfl⟩
     go_wp2
     go_roundw
     case rel => exact ⟨a', c', n', j + 1, rfl, by go_num, by omega, by rw [HY.out]; exact HO.out, HB.out⟩
     case measure => simp [intOf]; omega
   ·obtain rfl : j = n := by omega
    have HY : Hid (common (l.take j) l' = common l l') := Lib.hid (by rw [← hl.out, List.take_length])
    go_wp2
    go_ret
    exact ⟨_, _, _, rfl, by rw [← HY.out]; exact HO.out.lower hs1, HB1.out.trans (HB.out.mono hs1)⟩
 ·have HN := Lib.hid (numbersOf_word (c := d) h' h0)
  have hlw := lw_word h0
  have hlt := word_lt l'
  obtain ⟨k, hk⟩ : ∃ k : Nat, word l' = k := ⟨_, rfl⟩
  rw [hk] at HN hlw hlt
  have HH := Lib.hid (fun n W => has_any hlt n W)
  rw [hlw] at HH
  have KO := Lib.hid (Own.empty (k := .i64) (t := 3) (w := w) (B := w.heap.size) (Nat.le_refl _))
  clear h h' hz hz' h0 hk hlw hlt
  go_enter Try.func122, Try.ntmps122
  go_wp2_with fail
  refine HN.out.mono ?_
  rintro e w1 ⟨rfl, rfl⟩
  go_wp2_with fail
  go_loopw [6, 8, 14] (fun s _ i wr => ∃ (a' : Option Addr) (c' n' j : Nat), s = .slice a' n' c' ∧ i = .int .i64 (j : Int) ∧ j ≤ n ∧ Own .i64 3 wr w.heap.size a' n' c' (common (l.take j) l') ∧ Below w.heap.size w wr) (fun _ _ i _ => n - (intOf i).toNat)
  case atStart => exact ⟨_, _, _, 0, rfl, rfl, Nat.zero_le _, by rw [List.take_zero]; exact KO.out, alloc_same _ _⟩
  case round =>
   obtain ⟨a', c', n', j, rfl, rfl, hj, ho, hb⟩ := hrel
   have HO := Lib.hid ho
   have HB := Lib.hid hb
   have hn9 : n' ≤ 1048576000 := by
    have h1 := ho.len
    have h2 := common_few (l.take j) l'
    rw [List.length_take] at h2
    omega
   have hsw : w.heap.size ≤ wr.heap.size := hb.size
   clear ho hb
   by_cases hlt : j < n
   ·obtain ⟨ad, z, rfl, hx, hc⟩ := (H.out.same HB.out).at_ hlt
    have HV := Lib.hid (HH.out z wr)
    cases hq : decide (z ∈ l') with
    | true =>
     have HY := Lib.hid (common_yes hx (of_decide_eq_true hq))
     rw [hq] at HV
     clear hq hx
     go_wp2_with fail
     refine HV.out.mono ?_
     rintro e w2 ⟨rfl, rfl⟩
     go_wp2_with (at_builtin; refine wpl_app _ rfl (.tmp 21) (.tmp 23) 31 rfl .i64 3 i0 (.int .i64 0) 8 Try.underlying31 HI.out.1 HI.out.2.1 HI.out.2.2.1 HI.out.2.2.2 rfl rfl (HO.out.alloc _) rfl (nums_new _ _ _ _) (by omega) ?c6 ?c7 ?_)
     case c6 => omega
     case c7 => simp; omega
     intro a3 c3 w3 ho3 hb3
     have HO3 := Lib.hid ho3
     have HB3 := Lib.hid hb3
     clear ho3 hb3
     go_wp2
     go_roundw
     case rel => exact ⟨a3, c3, _, j + 1, rfl, by go_num, by omega, by rw [HY.out]; exact HO3.out, HB.out.trans (((alloc_same _ _).mono hsw).trans HB3.out)⟩
     case measure => simp [intOf]; omega
    | false =>
     have HY := Lib.hid (common_no hx (of_decide_eq_false hq))
     rw [hq] at HV
     clear hq hx
     go_wp2_with fail
     refine HV.out.mono ?_
     rintro e w2 ⟨rfl, rfl⟩
     go_wp2
     go_roundw
     case rel => exact ⟨a', c', n', j + 1, rfl, by go_num, by omega, by rw [HY.out]; exact HO.out, HB.out⟩
     case measure => simp [intOf]; omega
   ·obtain rfl : j = n := by omega
    have HY : Hid (common (l.take j) l' = common l l') := Lib.hid (by rw [← hl.out, List.take_length])
    go_wp2
    go_ret
    exact ⟨_, _, _, rfl, by rw [← HY.out]; exact HO.out, HB.out⟩
end Go.Proofs.Ytckmgbobkffabaa
