/- The items of a field, picked by an iterator and collected into a slice of the call's own. -/
import Derived.RangeFuncNested
import Derived.RangeFuncBound
import Derived.RangeFuncCalls
import Derived.RangeFuncLeaves
import Derived.RangeFuncBox
import Derived.Shelf.Abstract
import Derived.Shelf.RegionOpen
import Derived.WalkKit
import Derived.OwnWalkIn
import Derived.TacticsInMore
import Derived.LoopNIn
import Derived.LoopIn
import Derived.Maps.AppendAt
import Derived.Test.YtjmabidahofbbaaMk
namespace Go.Proofs.Ytjmabidahofbbaa
open Go.ChangeShapes Go.WideShapes Go.ChangeAt Go.RowKit Go.Shelf
set_option linter.unusedVariables false
attribute [local go_sem] Oper.semAt_some

/-- The three variables that the iterator has captured: the seed, the first place, the count. -/
structure Caught (W : World) (g : Nat) (s p : Int) (c : Nat) : Prop where
  seed : W.cell? ⟨g, 0, none⟩ = some (.int .i64 s)
  first : W.cell? ⟨g + 1, 0, none⟩ = some (.int .i64 p)
  count : W.cell? ⟨g + 2, 0, none⟩ = some (.int .i64 c)
theorem Caught.below {W W' : World} {g n₀ : Nat} {s p : Int} {c : Nat} (h : Caught W g s p c) (hb : Below n₀ W W') (hg : g + 2 < n₀) : Caught W' g s p c :=
  ⟨(hb.cell (p := ⟨g, 0, none⟩) (by show g < n₀; omega)).trans h.seed, (hb.cell (p := ⟨g + 1, 0, none⟩) (by show g + 1 < n₀; omega)).trans h.first, (hb.cell (p := ⟨g + 2, 0, none⟩) hg).trans h.count⟩
theorem Caught.lt {W : World} {g : Nat} {s p : Int} {c : Nat} (h : Caught W g s p c) : g + 2 < W.heap.size := cell_in h.count
theorem Caught.same {W W' : World} {g : Nat} {s p : Int} {c : Nat} (h : Caught W g s p c) (hb : Below W.heap.size W W') : Caught W' g s p c := h.below hb h.lt

def lbOf (g : Nat) : Array Value := #[.pointer (some ⟨g + 2, 0, none⟩), .pointer (some ⟨g, 0, none⟩), .pointer (some ⟨g + 1, 0, none⟩)]

set_option maxRecDepth 100000 in
set_option maxHeartbeats 1000000 in
theorem itemPicks_any (s p : Int) (c : Nat) (w : World) :
    Calls Try.prog 81 #[.int .i64 s, .int .i64 p, .int .i64 c] w fun e w' => e = .returned (.func (.func 100) #[] (lbOf w.heap.size)) ∧ Caught w' w.heap.size s p c ∧ Below w.heap.size w w' := by
  go_enter Try.func81, Try.ntmps81
  go_wp2
  go_ret
  have h0 := heap_alloc_new w (.cells #[.int .i64 s] 3)
  have h1 := heap_alloc_new (w.alloc (.cells #[.int .i64 s] 3)) (.cells #[.int .i64 p] 3)
  have h2 := heap_alloc_new ((w.alloc (.cells #[.int .i64 s] 3)).alloc (.cells #[.int .i64 p] 3)) (.cells #[.int .i64 c] 3)
  have e1 : (w.alloc (.cells #[.int .i64 s] 3)).heap.size = w.heap.size + 1 := by simp
  have e2 : ((w.alloc (.cells #[.int .i64 s] 3)).alloc (.cells #[.int .i64 p] 3)).heap.size = w.heap.size + 2 := by simp
  have b1 := alloc_same (w.alloc (.cells #[.int .i64 s] 3)) (.cells #[.int .i64 p] 3)
  have b2 := alloc_same ((w.alloc (.cells #[.int .i64 s] 3)).alloc (.cells #[.int .i64 p] 3)) (.cells #[.int .i64 c] 3)
  rw [e1] at h1
  rw [e2] at h2
  have c0 := (block_cell h0 0).trans rfl
  have c1 := (block_cell h1 0).trans rfl
  have c2 := (block_cell h2 0).trans rfl
  exact ⟨rfl, ⟨cell_stay (cell_stay c0 b1) b2, cell_stay c1 b2, c2⟩, ((alloc_same w _).trans (b1.mono (by simp))).trans (b2.mono (by simp; omega))⟩

set_option maxRecDepth 100000 in
set_option maxHeartbeats 2000000 in
theorem picks1_in (m l g n₀ : Nat) (s p : Int) (c : Nat) (hm : 1 ≤ m) (hs : Fit64 s) (hp : 0 ≤ p ∧ p ≤ 1000000) (hc : c ≤ 1000000) (hg : g + 2 < n₀) (J Jx : List Int → World → Prop)
    (hJ : ∀ pre W W', J pre W → Below W.heap.size W W' → J pre W')
    (hY : ∀ pre x W, J pre W → pre.length < c → YieldAt Fence.wide (m - 1) Try.prog l #[.int .i64 x] W fun e W' =>
      (e = .returned (.bool true) ∧ J (pre ++ [x]) W' ∧ Below n₀ W W') ∨ (e = .returned (.bool false) ∧ Jx (pre ++ [x]) W'))
    (W : World) (hn : n₀ ≤ W.heap.size) (hC : Caught W g s p c) (h0 : J [] W) :
    CallsIn Fence.wide m Try.prog 100 #[.func (.yield l) #[] #[], .pointer (some ⟨g + 2, 0, none⟩), .pointer (some ⟨g, 0, none⟩), .pointer (some ⟨g + 1, 0, none⟩)] W fun e W' => (∃ v, e = .returned v) ∧
      ((∃ ys, ys = picks s p c ∧ J ys W') ∨ (∃ pre, True ∧ Jx pre W')) := by
  have HS := Lib.hid hs
  have HC0 := Lib.hid hC
  have hcnt := hC.count
  clear hs hC
  refine callsIn_of_wp Try.func100 rfl trivial ?_ rfl
  simp only [Try.ntmps100, List.size_toArray, List.length_cons, List.length_nil, Nat.reduceAdd, Nat.reduceSub, Array.replicate_succ, Array.replicate_zero, List.push_toArray, List.append_toArray, List.nil_append, List.cons_append]
  gi_wp2
  gi_loopw [7] (fun i wr => ∃ j : Nat, i = .int .i64 j ∧ j ≤ c ∧ n₀ ≤ wr.heap.size ∧ Caught wr g s p c ∧ J (picks s p j) wr) (fun i _ => c - (intOf i).toNat)
  case atStart => exact ⟨0, rfl, Nat.zero_le _, hn, HC0.out, h0⟩
  case round =>
    obtain ⟨j, rfl, hj, hnr, hCr, hJr⟩ := hrel
    by_cases hlt : j < c
    · have c1 := hCr.seed
      have c2 := hCr.first
      have HCR := Lib.hid hCr
      have HJR := Lib.hid hJr
      have hfit : Fit64 (p + j) := fit_mk (by omega) (by omega)
      have KP := pickOf_any s (p + j) 100 wr HS.out hfit (fit_mk (by omega) (by omega))
      clear hCr hJr hfit
      gi_wp2_with (refine ⟨trivial, ?_⟩; gi_at_call 64; refine (callsIn_wide.2 KP).mono ?_; rintro e w1 ⟨rfl, hb1⟩; obtain ⟨fn, tmps, assign, body, hy, hR⟩ := hY (picks s p j) (pickOf s (p + j) 100) w1 (hJ _ _ _ HJR.out hb1) (by rw [picks_len]; exact hlt))
      refine hR.mono ?_
      rintro e w3 (⟨rfl, hJ3, hk3⟩ | ⟨rfl, hJx3⟩)
      · have HB1 := hb1.size
        gi_wp2
        go_roundw
        case rel => exact ⟨j + 1, by go_num, by omega, by have := hk3.size; omega, (HCR.out.same hb1).below hk3 hg, hJ3⟩
        case measure => simp [intOf]; omega
      · gi_wp2
        refine bodyPost_ret (results_none rfl _ _ _) rfl ?_
        exact ⟨⟨_, rfl⟩, .inr ⟨_, trivial, hJx3⟩⟩
    · obtain rfl : j = c := by omega
      gi_wp2
      go_end0
      exact ⟨⟨_, rfl⟩, .inl ⟨_, rfl, hJr⟩⟩

theorem picks_stops (m g n₀ : Nat) (s p : Int) (c : Nat) (hm : 1 ≤ m) (hs : Fit64 s) (hp : 0 ≤ p ∧ p ≤ 1000000) (hc : c ≤ 1000000) (hg : g + 2 < n₀) (w : World) (hn : n₀ ≤ w.heap.size) (hC : Caught w g s p c) :
    SeqStopsK Fence.wide m Try.prog 100 (lbOf g) (fun x : Int => #[Value.int .i64 x]) (Below n₀) (fun ys => ys = picks s p c) (fun _ => True) c w := fun l J Jx W hW hJ _ hY h0 =>
  picks1_in m l g n₀ s p c hm hs hp hc hg J Jx (fun pre W1 W2 h hb => hJ pre W1 W2 none h (grown_below hb none) (fun r e => by cases e)) hY W (Nat.le_trans hn hW.size) (hC.same hW) h0

theorem infoI : (Try.prog.info? 3).map (fun i => (i.zero, i.size, i.bytes)) = some (some (.int .i64 0), 1, 8) := by kernel_rfl

set_option maxRecDepth 100000 in
set_option maxHeartbeats 2000000 in
theorem appendSeq_in (g : Nat) (s p : Int) (c : Nat) (w : World) (hs : Fit64 s) (hp : 0 ≤ p ∧ p ≤ 1000000) (hc : c ≤ 1000000) (hC : Caught w g s p c) :
    CallsIn Fence.wide 4 Try.prog 99 #[.slice none 0 0, .func (.func 100) #[] (lbOf g)] w fun e W' => ∃ v, e = .returned v ∧ W'.ownsRow w.heap.size 3 1 v c ((picks s p c).map (Value.int .i64)) ∧ Below w.heap.size w W' := by
  have h1 : 1 ≤ 4 := by omega
  obtain ⟨i0, hi, hz0, hz1, hz2⟩ := info_parts infoI
  have hlt := hC.lt
  refine callsIn_of_wp_marks Try.func99 rfl trivial ?_ rfl
  simp only [Try.ntmps99, List.size_toArray, List.length_cons, List.length_nil, Nat.reduceAdd, Nat.reduceSub, Array.replicate_succ, Array.replicate_zero, List.push_toArray, List.append_toArray, List.nil_append, List.cons_append]
  gi_wp2
  have bO := Boxed.new w 29 (.slice none 0 0)
  have hB0 : Below w.heap.size w (w.alloc (.cells #[.slice none 0 0] 29)) := (Below.refl _ w).alloc (Nat.le_refl _) _
  refine wpIn_rangeFunc_ownG rfl h1 (gf := 100) (lb := lbOf g) rfl trivial (enters_of Try.func100 (by kernel_rfl) rfl)
    (picks_stops 3 g w.heap.size s p c (by omega) hs hp hc hlt _ (by simp) (hC.same hB0)) belowK_t (belowK_b (by simp)) (Below.refl _ _) (fun _ => rfl)
    (fun (pre : List Int) W => (∃ v, Boxed W w.heap.size 29 v ∧ W.ownsRow w.heap.size 3 1 v pre.length (pre.map (Value.int .i64)) ∧ True) ∧ Below w.heap.size w W)
    (fun _ _ _ => False)
    (OwnFrom.and (Own.from (holdsRow_own w.heap.size w.heap.size 29 3 1 (fun pre : List Int => pre.length) (fun pre => pre.map (Value.int .i64)) (fun _ _ => True)) _) (ownFrom_below (Nat.le_refl _) (by simp)))
    (fun _ _ _ _ _ hs _ _ => hs)
    ⟨⟨_, bO, World.ownsRow_nil _ _ _ _, trivial⟩, hB0⟩
    (fun x => { tmps := #[.slice none 0 0, .func (.func 100) #[] (lbOf g), .pointer (some ⟨w.heap.size, 0, none⟩), undef, .slice none 0 0, .int .i64 x, .func (.func 100) #[] (lbOf g), .int .i64 x, undef, undef, undef, undef, undef], defers := [] }) ?assign ?body ?done ?stop
  case assign =>
    intro l x W K hK
    gi_wp2
    exact hK
  case body =>
    rintro l pre x W ⟨⟨v, hv, hrow, _⟩, hB⟩ hlen
    have hcl := hv.cell
    gi_wp2_with (gi_at_builtin; refine wpListIn_append_own _ rfl _ _ 29 rfl w.heap.size 3 i0 (.int .i64 0) 1 8 Try.underlying29 hi hz0 hz1 hz2 rfl (by decide) _ _ _ rfl (hrow.alloc _) ⟨W.heap.size, 0, none⟩ 1 1 [.int .i64 x] rfl rfl (cell_one_new _ _ _) (by simp [Value.oneCell']) (by unfold maxLen; omega) (by omega) (by have := hB.size; simp; omega) ?_; intro v' w1 hown' hgrow _; obtain ⟨g', cap', rfl⟩ := ownsRow_succ hown'; obtain ⟨hv1, hv2, hr2, hk2, hb2⟩ := hv.appended (by decide) hrow hB.size (Nat.le_refl _) hown' hgrow; have hc1 := hv1.cell; have hf1 := hv1.frozen)
    exact ⟨hk2.from _, hb2, ⟨_, hv2, by simpa using hr2, trivial⟩, hB.trans hb2⟩
  case done =>
    rintro D ys W hD rfl ⟨⟨v, hv, hrow, _⟩, hB⟩ hK
    have hcl := hv.cell
    gi_wp2
    refine ⟨by simp, .inl ⟨_, _, rfl, run_takeDeferred hK, ?_⟩⟩
    rw [picks_len] at hrow
    exact ⟨_, results_tmp rfl _ _ _, v, rfl, ownsRow_putObj hrow _ hK rfl, hB.trans (belowK_b (w := w) (Nat.le_refl _) W D _ _ (by simp at hD; omega) hK rfl rfl)⟩
  case stop =>
    rintro D c pre W _ _ h _
    exact h.elim

theorem own_of_row {w : World} {B n : Nat} {v : Value} {l : List Int} {t : TypeId} (h : w.ownsRow B t 1 v n (l.map (Value.int .i64))) (hl : l.length = n) : ∃ a d, v = .slice a n d ∧ Own .i64 t w B a n d l := by
  rcases h.2 with ⟨hv, hn⟩ | ⟨g, cap, cur, hv, _⟩
  · subst hn
    exact ⟨none, 0, hv, hl, by rw [← hv]; exact h⟩
  · exact ⟨_, _, hv, hl, by rw [← hv]; exact h⟩

set_option maxRecDepth 100000 in
theorem collect_any (g : Nat) (s p : Int) (c : Nat) (w : World) (hs : Fit64 s) (hp : 0 ≤ p ∧ p ≤ 1000000) (hc : c ≤ 1000000) (hC : Caught w g s p c) :
    Calls Try.prog 80 #[.func (.func 100) #[] (lbOf g)] w fun e w' => ∃ a d, e = .returned (.slice a c d) ∧ Own .i64 3 w' w.heap.size a c d (picks s p c) ∧ Below w.heap.size w w' := by
  have K := callsIn_wide.1 (appendSeq_in g s p c w hs hp hc hC)
  clear hs hC
  go_enter Try.func80, Try.ntmps80
  go_wp2_with (go_at_call 99; refine K.mono ?_; rintro e w' ⟨v, rfl, hrow, hb⟩; obtain ⟨a, d, rfl, ho⟩ := own_of_row hrow (picks_len _ _ _))
  go_ret
  exact ⟨a, d, rfl, ho, hb⟩
end Go.Proofs.Ytjmabidahofbbaa
