/- Where each message that is sent, or received, leads to: a map that the call fills from the moves, from their back. Where each message that is sent, or received, leads to: by the program. -/
import Derived.RangeFuncNested
import Derived.RangeFuncBound
import Derived.RangeFuncCalls
import Derived.RangeFuncLeaves
import Derived.RangeFuncBox
import Derived.Shelf.Abstract
import Derived.Shelf.RegionOpen
import Derived.WalkKit
import Derived.OwnWalkIn
import Derived.TacticsInMore
import Derived.LoopNIn
import Derived.LoopIn
import Derived.Maps.AppendAt
import Derived.Maps.OwnIn
import Derived.Maps.OwnSet
import Derived.Test.YtckmgbobkffabaaG14
import Derived.Handy
import Derived.Test.YtckmgbobkffabaaG1
namespace Go.Proofs.Ytckmgbobkffabaa
open Go.ChangeShapes Go.WideShapes Go.ChangeAt Go.RowKit Go.Shelf
set_option linter.unusedVariables false
attribute [local go_sem] Oper.semAt_some

instance (x : Mv) : Decidable (Wmv x) := by unfold Wmv; infer_instance
abbrev WMv := {x : Mv // Wmv x}
def mkW (x : Mv) : WMv := if h : Wmv x then ⟨x, h⟩ else ⟨⟨0, false, 0, 0⟩, by unfold Wmv; decide⟩
theorem mkW_val {x : Mv} (h : Wmv x) : (mkW x).1 = x := by unfold mkW; rw [dif_pos h]
/-- The places and moves of a list, from its back: the first k of them. -/
def backM (l : List Mv) (k : Nat) : List (Int × WMv) := (List.range k).map fun (j : Nat) => ((l.length : Int) - 1 - (j : Int), mkW (l.getD (l.length - 1 - j) default))
theorem backM_succ (l : List Mv) (k : Nat) : backM l (k + 1) = backM l k ++ [((l.length : Int) - 1 - k, mkW (l.getD (l.length - 1 - k) default))] := by simp [backM, List.range_succ]
theorem backM_len (l : List Mv) (k : Nat) : (backM l k).length = k := by simp [backM]
/-- A map of where each message leads to. -/
def nx (s : Int) (b : Bool) : List Mv → DataW Unit
 | [] => .map []
 | x :: t => if fromM s b x = true then (nx s b t).put (.int .i64 x.msg) (.lit (.int .i64 x.to)) else nx s b t
def nxStep (s : Int) (b : Bool) (D : DataW Unit) (x : Mv) : DataW Unit := if fromM s b x = true then D.put (.int .i64 x.msg) (.lit (.int .i64 x.to)) else D
def nxP (s : Int) (b : Bool) (ps : List (Int × WMv)) : DataW Unit := ps.foldl (fun D x => nxStep s b D x.2.1) (.map [])
theorem nxP_snoc (s : Int) (b : Bool) (ps : List (Int × WMv)) (x : Int × WMv) : nxP s b (ps ++ [x]) = nxStep s b (nxP s b ps) x.2.1 := by simp [nxP]
theorem nxP_backs {l : List Mv} (s : Int) (b : Bool) (hz : ∀ z ∈ l, Wmv z) : ∀ k, k ≤ l.length → nxP s b (backM l k) = nx s b (l.drop (l.length - k))
 | 0, _ => by simp [backM, nxP, nx]
 | k + 1, h => by
  have hj : l.length - (k + 1) < l.length := by omega
  rw [backM_succ, nxP_snoc, nxP_backs s b hz k (by omega), List.drop_eq_getElem_cons hj, nx, show l.length - (k + 1) + 1 = l.length - k by omega]
  have e2 : l.getD (l.length - 1 - k) default = l[l.length - (k + 1)] := by
   rw [show l.length - 1 - k = l.length - (k + 1) by omega, List.getD, List.getElem?_eq_getElem hj]; rfl
  dsimp only
  rw [e2, mkW_val (hz _ (List.getElem_mem hj))]
  rfl
section
open Go.Maps
theorem nx_isMap (s : Int) (b : Bool) : ∀ (l : List Mv), IsMap (nx s b l)
 | [] => isMap_empty
 | x :: t => by
  unfold nx
  split
  ·exact (nx_isMap s b t).put _ _
  ·exact nx_isMap s b t
theorem litI_ne {x k : Int} (h : ¬ x = k) : (Lit.int .i64 k) ≠ (Lit.int .i64 x) := fun e => h (by injection e with _ e2; exact e2.symm)
theorem toOf_cons (x : Mv) (t : List Mv) (s : Int) (b : Bool) (k : Int) : toOf (x :: t) s b k = if hitM s b k x = true then some x.to else toOf t s b k := by
 unfold toOf
 cases h : hitM s b k x with
 | true => simp [h]
 | false => simp [h]
theorem nx_has (s : Int) (b : Bool) (k : Int) : ∀ (l : List Mv), Maps.has (nx s b l) (.int .i64 k) = (toOf l s b k).isSome
 | [] => by simp [nx, Maps.has, toOf]
 | x :: t => by
  have ih := nx_has s b k t
  rw [toOf_cons]
  unfold nx
  by_cases h1 : fromM s b x = true
  ·rw [if_pos h1]
   have h2 : x.frm = s ∧ x.send = b := by simpa [fromM] using h1
   by_cases h3 : x.msg = k
   ·rw [if_pos (hitM_iff.2 ⟨h2.1, h2.2, h3⟩), h3, has_put_same (nx_isMap s b _) (by simp [WideAt.IsKeyLit])]
    rfl
   ·rw [if_neg (fun q => h3 (hitM_iff.1 q).2.2), has_put_other (litI_ne h3), ih]
  ·rw [if_neg h1, if_neg (fun q => h1 (by have := hitM_iff.1 q; simp [fromM, this.1, this.2.1])), ih]
theorem nx_at (s : Int) (b : Bool) (k : Int) (z : DataW Unit) : ∀ (l : List Mv), (nx s b l).atKey (.int .i64 k) z = match toOf l s b k with | some t => .lit (.int .i64 t) | none => z
 | [] => by simp [nx, DataW.atKey, toOf]
 | x :: t => by
  have ih := nx_at s b k z t
  rw [toOf_cons]
  unfold nx
  by_cases h1 : fromM s b x = true
  ·rw [if_pos h1]
   have h2 : x.frm = s ∧ x.send = b := by simpa [fromM] using h1
   by_cases h3 : x.msg = k
   ·rw [if_pos (hitM_iff.2 ⟨h2.1, h2.2, h3⟩), h3, atKey_put_same (nx_isMap s b _) (by simp [WideAt.IsKeyLit])]
   ·rw [if_neg (fun q => h3 (hitM_iff.1 q).2.2), atKey_put_other (litI_ne h3), ih]
  ·rw [if_neg h1, if_neg (fun q => h1 (by have := hitM_iff.1 q; simp [fromM, this.1, this.2.1])), ih]
end
theorem Items.under {α : Type} {enc : α → List Value} {s : Nat} {w w' : World} {a : Option Addr} {n n₀ : Nat} {l : List α} (h : Items enc s w a n l) (hb : Below n₀ w w') (ha : 0 < n → ∀ ad, a = some ad → ad.block < n₀) : Items enc s w' a n l :=
 ⟨h.len, h.fits, fun j x hj => by
  obtain ⟨b, o, e, hx⟩ := h.cell j x hj
  have hlt : b < n₀ := ha (by have := h.len; have := at_lt hj; omega) _ e
  exact ⟨b, o, e, fun i v hv => by rw [hb.cell (by exact hlt)]; exact hx i v hv⟩⟩
theorem mvs_in {w : World} {a : Option Addr} {n : Nat} {l : List Mv} (h : Mvs w a n l) (hn : 0 < n) : ∀ ad, a = some ad → ad.block < w.heap.size := fun ad e => by
 obtain ⟨b, o, x, e', _, hx, _⟩ := mvs_at h hn
 rw [e] at e'
 cases e'
 exact cell_in hx
/-- What lay ahead of n0, and block g, has not changed. -/
def KeptM (n₀ g : Nat) (A B : World) : Prop := Below n₀ A B ∧ B.heap[g]? = A.heap[g]?

set_option maxRecDepth 100000 in
set_option maxHeartbeats 2000000 in
theorem backM_in (m l g n₀ : Nat) (a : Option Addr) (n c : Nat) (zs : List Mv) (hm : 1 ≤ m) (hn : n ≤ 1048576000) (hz : ∀ z ∈ zs, Wmv z) (ha : 0 < n → ∀ ad, a = some ad → ad.block < n₀) (J Jx : List (Int × WMv) → World → Prop)
  (hY : ∀ pre x W, J pre W → pre.length < n → YieldAt Fence.wide (m - 1) Try.prog l #[.int .i64 x.1, x.2.1.val] W fun e W' =>
   (e = .returned (.bool true) ∧ J (pre ++ [x]) W' ∧ KeptM n₀ g W W') ∨ (e = .returned (.bool false) ∧ Jx (pre ++ [x]) W'))
  (W : World) (hG : W.heap[g]? = some (.cells #[.slice a n c] 25 (0, 0))) (hN : Mvs W a n zs) (h0 : J [] W) :
  CallsIn Fence.wide m Try.prog 117 #[.func (.yield l) #[] #[], .pointer (some ⟨g, 0, none⟩)] W fun e W' => (∃ v, e = .returned v) ∧
   ((∃ ys, ys = backM zs n ∧ J ys W') ∨ (∃ pre, True ∧ Jx pre W')) := by
 have hl := hN.len
 have HN := Lib.hid hN
 have HZ := Lib.hid hz
 have HA := Lib.hid ha
 have hG0 := (block_cell hG 0).trans rfl
 have HG := Lib.hid hG
 clear hN hz ha hG
 refine callsIn_of_wp Try.func117 rfl trivial ?_ rfl
 simp only [Try.ntmps117, List.size_toArray, List.length_cons, List.length_nil, Nat.reduceAdd, Nat.reduceSub, Array.replicate_succ, Array.replicate_zero, List.push_toArray, List.append_toArray, List.nil_append, List.cons_append]
 gi_wp2
 gi_loopw [3] (fun i wr => ∃ k : Nat, k ≤ n ∧ i = .int .i64 ((n : Int) - 1 - k) ∧ J (backM zs k) wr ∧ KeptM n₀ g W wr) (fun i _ => (intOf i + 1).toNat)
 case atStart => exact ⟨0, Nat.zero_le _, by simp, h0, Below.refl _ _, rfl⟩
 case round =>
  obtain ⟨k, hk, rfl, hJ, hK⟩ := hrel
  have HJ := Lib.hid hJ
  have HK := Lib.hid hK
  clear hJ hK
  by_cases hlt : k < n
  ·have hg1 := (block_cell (HK.out.2.trans HG.out) 0).trans rfl
   obtain ⟨j, hj⟩ : ∃ j : Nat, j = n - 1 - k := ⟨_, rfl⟩
   have ej : (n : Int) - 1 - k = (j : Int) := by omega
   rw [ej]
   obtain ⟨b1, o1, z, e, hx, hc0, hc1, hc2, hc3⟩ := mvs_at (HN.out.under HK.out.1 HA.out) (j := j) (by omega)
   subst e
   have hzw := HZ.out z (List.mem_of_getElem? hx)
   have HS : Hid (backM zs (k + 1) = backM zs k ++ [((j : Int), mkW z)]) := Lib.hid (by
    rw [backM_succ, hl, ej, ← hj, List.getD, hx]; rfl)
   have e2 : (mkW z).1 = z := mkW_val hzw
   obtain ⟨fn, tmps, assign, body, hy, hR⟩ := hY (backM zs k) ((j : Int), mkW z) wr HJ.out (by rw [backM_len]; exact hlt)
   dsimp only at hy
   rw [e2] at hy
   unfold Mv.val at hy
   have HR := Lib.hid hR
   have HE := Lib.hid (show j + k + 1 = n by omega)
   have hjn : j < n := by have := HE.out; omega
   clear hx hzw e2 hR hj ej
   gi_wp2
   refine HR.out.mono ?_
   rintro e w3 (⟨rfl, hJ3, hk3⟩ | ⟨rfl, hJx3⟩)
   ·gi_wp2
    go_roundw
    case rel => exact ⟨k + 1, by have := HE.out; omega, by have := HE.out; go_num, by rw [HS.out]; exact hJ3, HK.out.1.trans hk3.1, hk3.2.trans HK.out.2⟩
    case measure => have := HE.out; simp [intOf]
   ·gi_wp2
    refine bodyPost_ret (results_none rfl _ _ _) rfl ?_
    exact ⟨⟨_, rfl⟩, .inr ⟨_, trivial, hJx3⟩⟩
  ·obtain rfl : k = n := by omega
   gi_wp2
   go_end0
   exact ⟨⟨_, rfl⟩, .inl ⟨_, rfl, HJ.out⟩⟩
theorem backM_stops (m g n₀ : Nat) (a : Option Addr) (n c : Nat) (zs : List Mv) (hm : 1 ≤ m) (hn : n ≤ 1048576000) (hz : ∀ z ∈ zs, Wmv z) (ha : 0 < n → ∀ ad, a = some ad → ad.block < n₀) (w : World) (hG : w.heap[g]? = some (.cells #[.slice a n c] 25 (0, 0))) (hN : Mvs w a n zs) :
  SeqStopsK Fence.wide m Try.prog 117 #[.pointer (some ⟨g, 0, none⟩)] (fun x : Int × WMv => #[Value.int .i64 x.1, x.2.1.val]) (KeptM n₀ g) (fun ys => ys = backM zs n) (fun _ => True) n w := fun l J Jx W hW hJ _ hY h0 =>
 backM_in m l g n₀ a n c zs hm hn hz ha J Jx hY W ((hW.block _ (Array.getElem?_eq_some_iff.1 hG).1).trans hG) (hN.same hW) h0
theorem backwardM_in (m : Nat) (a : Option Addr) (n c : Nat) (w : World) :
  CallsIn Fence.wide m Try.prog 108 #[.slice a n c] w fun e w' => e = .returned (.func (.func 117) #[] #[.pointer (some ⟨w.heap.size, 0, none⟩)]) ∧ w' = w.alloc (.cells #[.slice a n c] 25) := by
 refine callsIn_of_wp Try.func108 rfl trivial ?_ rfl
 simp only [Try.ntmps108, List.size_toArray, List.length_cons, List.length_nil, Nat.reduceAdd, Nat.reduceSub, Array.replicate_succ, Array.replicate_zero, List.push_toArray, List.append_toArray, List.nil_append, List.cons_append]
 gi_wp2
 go_ret
 exact ⟨rfl, rfl⟩
theorem mapI_zero (w : World) : (zeroValue 3).run Try.prog w = .ok (.int .i64 0) w := by kernel_rfl
theorem intM_keys : Maps.Keyed Try.prog 3 := Maps.int_keyed Try.underlying3
theorem keptM_t {n₀ g : Nat} {A B C : World} (h : KeptM n₀ g A B) (k : KeptM n₀ g B C) : KeptM n₀ g A C := ⟨h.1.trans k.1, k.2.trans h.2⟩
end Go.Proofs.Ytckmgbobkffabaa
namespace Go.Proofs.Ytckmgbobkffabaa
open Go.ChangeShapes Go.WideShapes Go.ChangeAt Go.RowKit Go.Shelf
set_option linter.unusedVariables false
set_option linter.unusedSimpArgs false
attribute [local go_sem] Oper.semAt_some

/-- A machine in one of its states, by value. -/
def partyV (v : Value) (s : Int) : Value := .agg (v.cells ++ #[.int .i64 s])
set_option maxRecDepth 100000 in
set_option maxHeartbeats 4000000 in
theorem next_in (st s : Int) (b : Bool) (p : Option Addr) (np cp : Nat) (a : Option Addr) (n c : Nat) (zs : List Mv) (w : World) (hN : Mvs w a n zs) (hz : ∀ z ∈ zs, Wmv z) (hn : n ≤ 1048576000) :
  CallsIn Fence.wide 4 Try.prog 93 #[.agg #[.int .i64 st, .slice p np cp, .slice a n c, .int .i64 s], .bool b] w fun e W' => ∃ g, e = .returned (.map (some g)) ∧ w.heap.size ≤ g ∧ W'.ownsMap Try.prog 3 (plainElem (H := Unit) Try.prog 3) g n (nx s b zs) ∧ Below w.heap.size w W' := by
 have h1 : 1 ≤ 4 := by omega
 have hmm := @run_makeMap Try.prog
 have hl := hN.len
 have ha : 0 < n → ∀ ad, a = some ad → ad.block < w.heap.size := fun h => mvs_in hN h
 refine callsIn_of_wp_marks Try.func93 rfl trivial ?_ rfl
 simp only [Try.ntmps93, List.size_toArray, List.length_cons, List.length_nil, Nat.reduceAdd, Nat.reduceSub, Array.replicate_succ, Array.replicate_zero, List.push_toArray, List.append_toArray, List.nil_append, List.cons_append]
 gi_wp2_with (refine ⟨trivial, ?_⟩; gi_at_call 108; refine (backwardM_in 3 _ _ _ _).mono ?_; rintro e w' ⟨rfl, rfl⟩)
 obtain ⟨W5, hW5⟩ : ∃ W5, W5 = ((((w.alloc (.cells #[.int .i64 st, .slice p np cp, .slice a n c, .int .i64 s] 73)).alloc (.cells #[.bool b] 4)).alloc (.map #[] 0)).alloc (.cells #[.map (some (w.heap.size + 1 + 1))] 107)).alloc (.cells #[.slice a n c] 25) := ⟨_, rfl⟩
 have hS5 : W5.heap.size = w.heap.size + 5 := by rw [hW5]; simp
 have hB5 : Below w.heap.size w W5 := by
  rw [hW5]
  exact (((((Below.refl _ w).alloc (Nat.le_refl _) _).alloc (by simp) _).alloc (by simp only [World.size_alloc]; omega) _).alloc (by simp only [World.size_alloc]; omega) _).alloc (by simp only [World.size_alloc]; omega) _
 have hp5 : W5.cell? ⟨w.heap.size, 3, none⟩ = some (.int .i64 s) := by
  have h0 := World.alloc_heap_new w (.cells #[.int .i64 st, .slice p np cp, .slice a n c, .int .i64 s] 73)
  refine (block_cell (w := W5) (g := w.heap.size) (cs := #[.int .i64 st, .slice p np cp, .slice a n c, .int .i64 s]) (t := 73) ?_ 3).trans rfl
  rw [hW5, Below.heap_alloc _ _ _ (by simp only [World.size_alloc]; omega), Below.heap_alloc _ _ _ (by simp only [World.size_alloc]; omega), Below.heap_alloc _ _ _ (by simp only [World.size_alloc]; omega), Below.heap_alloc _ _ _ (by simp only [World.size_alloc]; omega)]
  exact h0
 have hb5 : W5.cell? ⟨w.heap.size + 1, 0, none⟩ = some (.bool b) := by
  have h0 := World.alloc_heap_new (w.alloc (.cells #[.int .i64 st, .slice p np cp, .slice a n c, .int .i64 s] 73)) (.cells #[.bool b] 4)
  rw [World.size_alloc] at h0
  refine (block_cell (w := W5) (g := w.heap.size + 1) (cs := #[.bool b]) (t := 4) ?_ 0).trans rfl
  rw [hW5, Below.heap_alloc _ _ _ (by simp only [World.size_alloc]; omega), Below.heap_alloc _ _ _ (by simp only [World.size_alloc]; omega), Below.heap_alloc _ _ _ (by simp only [World.size_alloc]; omega)]
  exact h0
 have hm5 : W5.cell? ⟨w.heap.size + 1 + 1 + 1, 0, none⟩ = some (.map (some (w.heap.size + 1 + 1))) := by
  have h0 := World.alloc_heap_new (((w.alloc (.cells #[.int .i64 st, .slice p np cp, .slice a n c, .int .i64 s] 73)).alloc (.cells #[.bool b] 4)).alloc (.map #[] 0)) (.cells #[.map (some (w.heap.size + 1 + 1))] 107)
  simp only [World.size_alloc] at h0
  refine (block_cell (w := W5) (g := w.heap.size + 1 + 1 + 1) (cs := #[.map (some (w.heap.size + 1 + 1))]) (t := 107) ?_ 0).trans rfl
  rw [hW5, Below.heap_alloc _ _ _ (by simp only [World.size_alloc]; omega)]
  exact h0
 have hG5 : W5.heap[w.heap.size + 1 + 1 + 1 + 1]? = some (.cells #[.slice a n c] 25 (0, 0)) := by
  have h0 := World.alloc_heap_new ((((w.alloc (.cells #[.int .i64 st, .slice p np cp, .slice a n c, .int .i64 s] 73)).alloc (.cells #[.bool b] 4)).alloc (.map #[] 0)).alloc (.cells #[.map (some (w.heap.size + 1 + 1))] 107)) (.cells #[.slice a n c] 25)
  simp only [World.size_alloc] at h0
  rw [hW5]
  exact h0
 have ho5 : W5.ownsMap Try.prog 3 (plainElem (H := Unit) Try.prog 3) (w.heap.size + 1 + 1) 0 (.map []) := by
  have h0 := World.ownsMap_made ((w.alloc (.cells #[.int .i64 st, .slice p np cp, .slice a n c, .int .i64 s] 73)).alloc (.cells #[.bool b] 4)) Try.prog 3 (plainElem (H := Unit) Try.prog 3)
  simp only [World.size_alloc] at h0
  rw [hW5]
  exact (h0.alloc _).alloc _
 rw [← hW5]
 clear hW5
 refine wpIn_rangeFunc_ownH rfl h1 (gf := 117) (lb := #[.pointer (some ⟨w.heap.size + 1 + 1 + 1 + 1, 0, none⟩)]) rfl trivial (enters_of Try.func117 (by kernel_rfl) rfl)
  (backM_stops 3 (w.heap.size + 1 + 1 + 1 + 1) w.heap.size a n c zs (by omega) hn hz ha W5 hG5 (hN.same hB5)) (fun h k => keptM_t h k) (fun W l o o' hl' ho hc hw => ⟨belowK_b (w := W5) (by omega) W l o o' hl' ho hc hw, World.putObj_heap_other (by omega)⟩) (Below.refl _ _) (by intro x; rfl)
  (fun pre W => (W.cell? ⟨w.heap.size, 3, none⟩ = some (.int .i64 s) ∧ W.cell? ⟨w.heap.size + 1, 0, none⟩ = some (.bool b) ∧ W.cell? ⟨w.heap.size + 1 + 1 + 1, 0, none⟩ = some (.map (some (w.heap.size + 1 + 1))) ∧ W.cell? ⟨w.heap.size + 1 + 1 + 1 + 1, 0, none⟩ = some (.slice a n c) ∧ W.ownsMap Try.prog 3 (plainElem (H := Unit) Try.prog 3) (w.heap.size + 1 + 1) pre.length (nxP s b pre)) ∧ Below w.heap.size w W)
  (fun _ _ _ => False)
  (OwnFrom.and (fun s A B row hs hg hr => ⟨Go.cell_kept hs.1 hg (fun r e => (hr r e).2), Go.cell_kept hs.2.1 hg (fun r e => (hr r e).2), Go.cell_kept hs.2.2.1 hg (fun r e => (hr r e).2), Go.cell_kept hs.2.2.2.1 hg (fun r e => (hr r e).2), hs.2.2.2.2.kept hg (fun e => by have := (hr _ e.symm).1; omega)⟩) (ownFrom_below (Nat.le_refl _) (by omega)))
  (fun _ _ _ _ _ hs _ _ => hs)
  ⟨⟨hp5, hb5, hm5, (block_cell hG5 0).trans rfl, ho5⟩, hB5⟩
  (fun x a' W => ∃ BB, a' = { tmps := #[.agg #[.int .i64 st, .slice p np cp, .slice a n c, .int .i64 s], .bool b, .pointer (some ⟨w.heap.size, 0, none⟩), .pointer (some ⟨w.heap.size + 1, 0, none⟩), .map none, .pointer (some ⟨w.heap.size + 1 + 1 + 1, 0, none⟩), undef, .pointer (some ⟨BB, 0, none⟩), .map (some (w.heap.size + 1 + 1)), .pointer (some ⟨w.heap.size, 0, none⟩), .pointer (some ⟨w.heap.size, 2, none⟩), .slice a n c, .func (.func 117) #[] #[.pointer (some ⟨w.heap.size + 1 + 1 + 1 + 1, 0, none⟩)], .int .i64 x.1, .agg #[.int .i64 x.2.1.frm, .bool x.2.1.send, .int .i64 x.2.1.msg, .int .i64 x.2.1.to], undef, undef, undef, undef, undef, undef, undef, undef, undef, undef, undef, undef, undef, undef, undef, undef, undef], defers := [] } ∧ w.heap.size + 5 ≤ BB ∧ W.heap[BB]? = some (.cells #[.int .i64 x.2.1.frm, .bool x.2.1.send, .int .i64 x.2.1.msg, .int .i64 x.2.1.to] 63 (0, 0)))
  (fun x a' s A B row hs hg hr => by
   obtain ⟨BB, e1, e2, e3⟩ := hs
   refine ⟨BB, e1, e2, (hg.block BB (Array.getElem?_eq_some_iff.1 e3).1 (fun e => ?_)).trans e3⟩
   obtain ⟨_, o, ho, hc⟩ := hr BB e.symm
   rw [e3] at ho
   cases ho
   cases hc) ?assign ?body ?done ?stop
 case assign =>
  intro l pre x W K hI hK
  unfold Mv.val
  gi_wp2
  obtain ⟨⟨k1, k2, k3, k4, k5⟩, hB⟩ := hI
  have hlt : w.heap.size + 4 < W.heap.size := cell_in k4
  have hbw : Below W.heap.size W (W.alloc (.cells #[.int .i64 x.2.1.frm, .bool x.2.1.send, .int .i64 x.2.1.msg, .int .i64 x.2.1.to] 63)) := alloc_same W _
  refine hK _ _ ((KeepsOthers.alloc W _).from _) ⟨hbw.mono hB.size, hbw.block _ (by omega)⟩ ⟨⟨cell_stay k1 hbw, cell_stay k2 hbw, cell_stay k3 hbw, cell_stay k4 hbw, k5.alloc _⟩, hB.trans (hbw.mono hB.size)⟩ ⟨W.heap.size, rfl, by omega, World.alloc_heap_new W _⟩
 case body =>
  rintro l pre x a' W hl' hr ⟨⟨k1, k2, k3, k4, k5⟩, hB⟩ ⟨BB, rfl, hBB, hX⟩ hlt
  obtain ⟨c0, c1, c2, c3⟩ := four_at hX
  have hsn := nxP_snoc s b pre x
  have hbig : w.heap.size + 4 < W.heap.size := cell_in k4
  cases q : fromM s b x.2.1 with
  | true =>
   obtain ⟨e1, e2⟩ : x.2.1.frm = s ∧ x.2.1.send = b := by simpa [fromM] using q
   have hkey := Maps.keyOf_int_mk Try.underlying3 x.2.2.1
   rw [nxStep, if_pos q] at hsn
   rw [e1] at c0
   rw [e2] at c1
   clear hX q e1 e2
   gi_wp2_with (gi_at_mapUpdate; refine wpListIn_mapUpdate_own _ rfl _ _ _ 107 rfl 3 3 intM_keys Try.underlying107 _ (w.heap.size + 1 + 1) pre.length _ rfl k5 (by unfold maxLen; omega) _ _ _ rfl rfl hkey _ [] (plainElem_int Try.underlying3 x.2.2.2) ?_; intro w1 hown1 hgrow1)
   obtain ⟨es, ck, hh, _⟩ := k5
   exact ⟨KeepsFrom.of_grownBy hgrow1 (fun j e => by cases e; omega), ⟨(Below.refl _ W).grown hgrow1 hB.size (fun k e => by cases e; omega), hgrow1.block _ (cell_in k4) (by simp; omega)⟩,
    ⟨Go.cell_kept k1 hgrow1 (fun r e => by cases e; exact ⟨_, hh, rfl⟩), Go.cell_kept k2 hgrow1 (fun r e => by cases e; exact ⟨_, hh, rfl⟩), Go.cell_kept k3 hgrow1 (fun r e => by cases e; exact ⟨_, hh, rfl⟩), Go.cell_kept k4 hgrow1 (fun r e => by cases e; exact ⟨_, hh, rfl⟩), by rw [hsn, List.length_append]; exact hown1⟩, hB.grown hgrow1 hB.size (fun k e => by cases e; omega)⟩
  | false =>
   rw [nxStep, if_neg (by rw [q]; decide)] at hsn
   have k6 : W.ownsMap Try.prog 3 (plainElem (H := Unit) Try.prog 3) (w.heap.size + 1 + 1) (pre ++ [x]).length (nxP s b (pre ++ [x])) := by
    rw [hsn, List.length_append]
    obtain ⟨es, ck, h1, h2, h3, h4⟩ := k5
    exact ⟨es, ck, h1, h2, by omega, h4⟩
   by_cases e1 : x.2.1.frm = s
   ·have e3 : (x.2.1.send == b) = false := by
     rw [fromM, e1] at q
     simpa using q
    rw [e1] at c0
    clear hX q e1
    gi_wp2
    exact ⟨KeepsFrom.refl _ _, ⟨Below.refl _ _, rfl⟩, ⟨k1, k2, k3, k4, k6⟩, hB⟩
   ·have e3 : (x.2.1.frm == s) = false := by simpa using e1
    clear hX q e1
    gi_wp2
    exact ⟨KeepsFrom.refl _ _, ⟨Below.refl _ _, rfl⟩, ⟨k1, k2, k3, k4, k6⟩, hB⟩
 case done =>
  rintro D ys W hD rfl ⟨⟨k1, k2, k3, k4, k5⟩, hB⟩ hK
  gi_wp2
  refine ⟨by simp, .inl ⟨_, _, rfl, run_takeDeferred hK, ?_⟩⟩
  have hfin := nxP_backs s b hz zs.length (Nat.le_refl _)
  rw [Nat.sub_self, List.drop_zero, hl] at hfin
  rw [backM_len, hfin] at k5
  exact ⟨_, results_tmp rfl _ _ _, _, rfl, by omega, k5.kept (grownBy_putObj' _ D _) (fun e => by cases e; omega), hB.trans (belowK_b (w := w) (Nat.le_refl _) W D _ _ (by omega) hK rfl rfl)⟩
 case stop =>
  rintro D c pre W _ _ h _
  exact h.elim
theorem next_any {v : Value} {x : Mac} (s : Int) (b : Bool) {w : World} (h : MacW w v x) (hz : ∀ z ∈ x.moves, Wmv z) (hn : x.parts ≤ 1048576000) :
  Calls Try.prog 93 #[partyV v s, .bool b] w fun e w' => ∃ g, e = .returned (.map (some g)) ∧ w.heap.size ≤ g ∧ w'.ownsMap Try.prog 3 (plainElem (H := Unit) Try.prog 3) g x.moves.length (nx s b x.moves) ∧ Below w.heap.size w w' := by
 obtain ⟨p, np, cp, a, n, c, rfl, _, hm, _⟩ := h
 have := hm.len
 subst this
 exact callsIn_wide.1 (next_in x.st s b p np cp a _ c x.moves w hm hz (by unfold Mac.parts at hn; omega))
end Go.Proofs.Ytckmgbobkffabaa
