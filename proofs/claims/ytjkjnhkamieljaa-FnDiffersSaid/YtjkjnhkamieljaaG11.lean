/- The items of a field, picked by an iterator and collected into a slice of the call's own. The table of functions that write, read and measure a field's value: what is handed out for a kind. The cursor over a list of bytes, by the program: what is taken, and what is left. What is appended for a field's value, and the greatest number of bytes of one, by the program's functions of the table. One number off the cursor, and one value: a number, or a row of numbers behind their count. -/
import Derived.RangeFuncNested
import Derived.RangeFuncBound
import Derived.RangeFuncCalls
import Derived.RangeFuncLeaves
import Derived.RangeFuncBox
import Derived.Shelf.Abstract
import Derived.Shelf.RegionOpen
import Derived.WalkKit
import Derived.OwnWalkIn
import Derived.TacticsInMore
import Derived.LoopNIn
import Derived.LoopIn
import Derived.Maps.AppendAt
import Derived.Test.YtjkjnhkamieljaaG9
import Derived.Test.YtjkjnhkamieljaaG4
import Derived.Laws.EntriesVeiled
import Derived.Handy
import Derived.Test.YtjkjnhkamieljaaG7
import Derived.Test.YtjkjnhkamieljaaG6
import Derived.Deep.RegionHeld3
namespace Go.Proofs.Ytjkjnhkamieljaa
open Go.ChangeShapes Go.WideShapes Go.ChangeAt Go.RowKit Go.Shelf
set_option linter.unusedVariables false
attribute [local go_sem] Oper.semAt_some

/-- The three variables that the iterator has captured: the seed, the first place, the count. -/
structure Caught (W : World) (g : Nat) (s p : Int) (c : Nat) : Prop where
  seed : W.cell? ⟨g, 0, none⟩ = some (.int .i64 s)
  first : W.cell? ⟨g + 1, 0, none⟩ = some (.int .i64 p)
  count : W.cell? ⟨g + 2, 0, none⟩ = some (.int .i64 c)
theorem Caught.below {W W' : World} {g n₀ : Nat} {s p : Int} {c : Nat} (h : Caught W g s p c) (hb : Below n₀ W W') (hg : g + 2 < n₀) : Caught W' g s p c :=
  ⟨(hb.cell (p := ⟨g, 0, none⟩) (by show g < n₀; omega)).trans h.seed, (hb.cell (p := ⟨g + 1, 0, none⟩) (by show g + 1 < n₀; omega)).trans h.first, (hb.cell (p := ⟨g + 2, 0, none⟩) hg).trans h.count⟩
theorem Caught.lt {W : World} {g : Nat} {s p : Int} {c : Nat} (h : Caught W g s p c) : g + 2 < W.heap.size := cell_in h.count
theorem Caught.same {W W' : World} {g : Nat} {s p : Int} {c : Nat} (h : Caught W g s p c) (hb : Below W.heap.size W W') : Caught W' g s p c := h.below hb h.lt

def lbOf (g : Nat) : Array Value := #[.pointer (some ⟨g + 2, 0, none⟩), .pointer (some ⟨g, 0, none⟩), .pointer (some ⟨g + 1, 0, none⟩)]

set_option maxRecDepth 100000 in
set_option maxHeartbeats 1000000 in
theorem itemPicks_any (s p : Int) (c : Nat) (w : World) :
    Calls Try.prog 68 #[.int .i64 s, .int .i64 p, .int .i64 c] w fun e w' => e = .returned (.func (.func 89) #[] (lbOf w.heap.size)) ∧ Caught w' w.heap.size s p c ∧ Below w.heap.size w w' := by
  go_enter Try.func68, Try.ntmps68
  go_wp2
  go_ret
  have h0 := heap_alloc_new w (.cells #[.int .i64 s] 3)
  have h1 := heap_alloc_new (w.alloc (.cells #[.int .i64 s] 3)) (.cells #[.int .i64 p] 3)
  have h2 := heap_alloc_new ((w.alloc (.cells #[.int .i64 s] 3)).alloc (.cells #[.int .i64 p] 3)) (.cells #[.int .i64 c] 3)
  have e1 : (w.alloc (.cells #[.int .i64 s] 3)).heap.size = w.heap.size + 1 := by simp
  have e2 : ((w.alloc (.cells #[.int .i64 s] 3)).alloc (.cells #[.int .i64 p] 3)).heap.size = w.heap.size + 2 := by simp
  have b1 := alloc_same (w.alloc (.cells #[.int .i64 s] 3)) (.cells #[.int .i64 p] 3)
  have b2 := alloc_same ((w.alloc (.cells #[.int .i64 s] 3)).alloc (.cells #[.int .i64 p] 3)) (.cells #[.int .i64 c] 3)
  rw [e1] at h1
  rw [e2] at h2
  have c0 := (block_cell h0 0).trans rfl
  have c1 := (block_cell h1 0).trans rfl
  have c2 := (block_cell h2 0).trans rfl
  exact ⟨rfl, ⟨cell_stay (cell_stay c0 b1) b2, cell_stay c1 b2, c2⟩, ((alloc_same w _).trans (b1.mono (by simp))).trans (b2.mono (by simp; omega))⟩

set_option maxRecDepth 100000 in
set_option maxHeartbeats 2000000 in
theorem picks1_in (m l g n₀ : Nat) (s p : Int) (c : Nat) (hm : 1 ≤ m) (hs : Fit64 s) (hp : 0 ≤ p ∧ p ≤ 1000000) (hc : c ≤ 1000000) (hg : g + 2 < n₀) (J Jx : List Int → World → Prop)
    (hJ : ∀ pre W W', J pre W → Below W.heap.size W W' → J pre W')
    (hY : ∀ pre x W, J pre W → pre.length < c → YieldAt Fence.wide (m - 1) Try.prog l #[.int .i64 x] W fun e W' =>
      (e = .returned (.bool true) ∧ J (pre ++ [x]) W' ∧ Below n₀ W W') ∨ (e = .returned (.bool false) ∧ Jx (pre ++ [x]) W'))
    (W : World) (hn : n₀ ≤ W.heap.size) (hC : Caught W g s p c) (h0 : J [] W) :
    CallsIn Fence.wide m Try.prog 89 #[.func (.yield l) #[] #[], .pointer (some ⟨g + 2, 0, none⟩), .pointer (some ⟨g, 0, none⟩), .pointer (some ⟨g + 1, 0, none⟩)] W fun e W' => (∃ v, e = .returned v) ∧
      ((∃ ys, ys = picks s p c ∧ J ys W') ∨ (∃ pre, True ∧ Jx pre W')) := by
  have HS := Lib.hid hs
  have HC0 := Lib.hid hC
  have hcnt := hC.count
  clear hs hC
  refine callsIn_of_wp Try.func89 rfl trivial ?_ rfl
  simp only [Try.ntmps89, List.size_toArray, List.length_cons, List.length_nil, Nat.reduceAdd, Nat.reduceSub, Array.replicate_succ, Array.replicate_zero, List.push_toArray, List.append_toArray, List.nil_append, List.cons_append]
  gi_wp2
  gi_loopw [7] (fun i wr => ∃ j : Nat, i = .int .i64 j ∧ j ≤ c ∧ n₀ ≤ wr.heap.size ∧ Caught wr g s p c ∧ J (picks s p j) wr) (fun i _ => c - (intOf i).toNat)
  case atStart => exact ⟨0, rfl, Nat.zero_le _, hn, HC0.out, h0⟩
  case round =>
    obtain ⟨j, rfl, hj, hnr, hCr, hJr⟩ := hrel
    by_cases hlt : j < c
    · have c1 := hCr.seed
      have c2 := hCr.first
      have HCR := Lib.hid hCr
      have HJR := Lib.hid hJr
      have hfit : Fit64 (p + j) := fit_mk (by omega) (by omega)
      have KP := pickOf_any s (p + j) 100 wr HS.out hfit (fit_mk (by omega) (by omega))
      clear hCr hJr hfit
      gi_wp2_with (refine ⟨trivial, ?_⟩; gi_at_call 66; refine (callsIn_wide.2 KP).mono ?_; rintro e w1 ⟨rfl, hb1⟩; obtain ⟨fn, tmps, assign, body, hy, hR⟩ := hY (picks s p j) (pickOf s (p + j) 100) w1 (hJ _ _ _ HJR.out hb1) (by rw [picks_len]; exact hlt))
      refine hR.mono ?_
      rintro e w3 (⟨rfl, hJ3, hk3⟩ | ⟨rfl, hJx3⟩)
      · have HB1 := hb1.size
        gi_wp2
        go_roundw
        case rel => exact ⟨j + 1, by go_num, by omega, by have := hk3.size; omega, (HCR.out.same hb1).below hk3 hg, hJ3⟩
        case measure => simp [intOf]; omega
      · gi_wp2
        refine bodyPost_ret (results_none rfl _ _ _) rfl ?_
        exact ⟨⟨_, rfl⟩, .inr ⟨_, trivial, hJx3⟩⟩
    · obtain rfl : j = c := by omega
      gi_wp2
      go_end0
      exact ⟨⟨_, rfl⟩, .inl ⟨_, rfl, hJr⟩⟩

theorem picks_stops (m g n₀ : Nat) (s p : Int) (c : Nat) (hm : 1 ≤ m) (hs : Fit64 s) (hp : 0 ≤ p ∧ p ≤ 1000000) (hc : c ≤ 1000000) (hg : g + 2 < n₀) (w : World) (hn : n₀ ≤ w.heap.size) (hC : Caught w g s p c) :
    SeqStopsK Fence.wide m Try.prog 89 (lbOf g) (fun x : Int => #[Value.int .i64 x]) (Below n₀) (fun ys => ys = picks s p c) (fun _ => True) c w := fun l J Jx W hW hJ _ hY h0 =>
  picks1_in m l g n₀ s p c hm hs hp hc hg J Jx (fun pre W1 W2 h hb => hJ pre W1 W2 none h (grown_below hb none) (fun r e => by cases e)) hY W (Nat.le_trans hn hW.size) (hC.same hW) h0

theorem infoI : (Try.prog.info? 3).map (fun i => (i.zero, i.size, i.bytes)) = some (some (.int .i64 0), 1, 8) := by kernel_rfl

set_option maxRecDepth 100000 in
set_option maxHeartbeats 2000000 in
theorem appendSeq_in (g : Nat) (s p : Int) (c : Nat) (w : World) (hs : Fit64 s) (hp : 0 ≤ p ∧ p ≤ 1000000) (hc : c ≤ 1000000) (hC : Caught w g s p c) :
    CallsIn Fence.wide 4 Try.prog 88 #[.slice none 0 0, .func (.func 89) #[] (lbOf g)] w fun e W' => ∃ v, e = .returned v ∧ W'.ownsRow w.heap.size 3 1 v c ((picks s p c).map (Value.int .i64)) ∧ Below w.heap.size w W' := by
  have h1 : 1 ≤ 4 := by omega
  obtain ⟨i0, hi, hz0, hz1, hz2⟩ := info_parts infoI
  have hlt := hC.lt
  refine callsIn_of_wp_marks Try.func88 rfl trivial ?_ rfl
  simp only [Try.ntmps88, List.size_toArray, List.length_cons, List.length_nil, Nat.reduceAdd, Nat.reduceSub, Array.replicate_succ, Array.replicate_zero, List.push_toArray, List.append_toArray, List.nil_append, List.cons_append]
  gi_wp2
  have bO := Boxed.new w 32 (.slice none 0 0)
  have hB0 : Below w.heap.size w (w.alloc (.cells #[.slice none 0 0] 32)) := (Below.refl _ w).alloc (Nat.le_refl _) _
  refine wpIn_rangeFunc_ownG rfl h1 (gf := 89) (lb := lbOf g) rfl trivial (enters_of Try.func89 (by kernel_rfl) rfl)
    (picks_stops 3 g w.heap.size s p c (by omega) hs hp hc hlt _ (by simp) (hC.same hB0)) belowK_t (belowK_b (by simp)) (Below.refl _ _) (fun _ => rfl)
    (fun (pre : List Int) W => (∃ v, Boxed W w.heap.size 32 v ∧ W.ownsRow w.heap.size 3 1 v pre.length (pre.map (Value.int .i64)) ∧ True) ∧ Below w.heap.size w W)
    (fun _ _ _ => False)
    (OwnFrom.and (Own.from (holdsRow_own w.heap.size w.heap.size 32 3 1 (fun pre : List Int => pre.length) (fun pre => pre.map (Value.int .i64)) (fun _ _ => True)) _) (ownFrom_below (Nat.le_refl _) (by simp)))
    (fun _ _ _ _ _ hs _ _ => hs)
    ⟨⟨_, bO, World.ownsRow_nil _ _ _ _, trivial⟩, hB0⟩
    (fun x => { tmps := #[.slice none 0 0, .func (.func 89) #[] (lbOf g), .pointer (some ⟨w.heap.size, 0, none⟩), undef, .slice none 0 0, .int .i64 x, .func (.func 89) #[] (lbOf g), .int .i64 x, undef, undef, undef, undef, undef], defers := [] }) ?assign ?body ?done ?stop
  case assign =>
    intro l x W K hK
    gi_wp2
    exact hK
  case body =>
    rintro l pre x W ⟨⟨v, hv, hrow, _⟩, hB⟩ hlen
    have hcl := hv.cell
    gi_wp2_with (gi_at_builtin; refine wpListIn_append_own _ rfl _ _ 32 rfl w.heap.size 3 i0 (.int .i64 0) 1 8 Try.underlying32 hi hz0 hz1 hz2 rfl (by decide) _ _ _ rfl (hrow.alloc _) ⟨W.heap.size, 0, none⟩ 1 1 [.int .i64 x] rfl rfl (cell_one_new _ _ _) (by simp [Value.oneCell']) (by unfold maxLen; omega) (by omega) (by have := hB.size; simp; omega) ?_; intro v' w1 hown' hgrow _; obtain ⟨g', cap', rfl⟩ := ownsRow_succ hown'; obtain ⟨hv1, hv2, hr2, hk2, hb2⟩ := hv.appended (by decide) hrow hB.size (Nat.le_refl _) hown' hgrow; have hc1 := hv1.cell; have hf1 := hv1.frozen)
    exact ⟨hk2.from _, hb2, ⟨_, hv2, by simpa using hr2, trivial⟩, hB.trans hb2⟩
  case done =>
    rintro D ys W hD rfl ⟨⟨v, hv, hrow, _⟩, hB⟩ hK
    have hcl := hv.cell
    gi_wp2
    refine ⟨by simp, .inl ⟨_, _, rfl, run_takeDeferred hK, ?_⟩⟩
    rw [picks_len] at hrow
    exact ⟨_, results_tmp rfl _ _ _, v, rfl, ownsRow_putObj hrow _ hK rfl, hB.trans (belowK_b (w := w) (Nat.le_refl _) W D _ _ (by simp at hD; omega) hK rfl rfl)⟩
  case stop =>
    rintro D c pre W _ _ h _
    exact h.elim

theorem own_of_row {w : World} {B n : Nat} {v : Value} {l : List Int} {t : TypeId} (h : w.ownsRow B t 1 v n (l.map (Value.int .i64))) (hl : l.length = n) : ∃ a d, v = .slice a n d ∧ Own .i64 t w B a n d l := by
  rcases h.2 with ⟨hv, hn⟩ | ⟨g, cap, cur, hv, _⟩
  · subst hn
    exact ⟨none, 0, hv, hl, by rw [← hv]; exact h⟩
  · exact ⟨_, _, hv, hl, by rw [← hv]; exact h⟩

set_option maxRecDepth 100000 in
theorem collect_any (g : Nat) (s p : Int) (c : Nat) (w : World) (hs : Fit64 s) (hp : 0 ≤ p ∧ p ≤ 1000000) (hc : c ≤ 1000000) (hC : Caught w g s p c) :
    Calls Try.prog 67 #[.func (.func 89) #[] (lbOf g)] w fun e w' => ∃ a d, e = .returned (.slice a c d) ∧ Own .i64 3 w' w.heap.size a c d (picks s p c) ∧ Below w.heap.size w w' := by
  have K := callsIn_wide.1 (appendSeq_in g s p c w hs hp hc hC)
  clear hs hC
  go_enter Try.func67, Try.ntmps67
  go_wp2_with (go_at_call 88; refine K.mono ?_; rintro e w' ⟨v, rfl, hrow, hb⟩; obtain ⟨a, d, rfl, ho⟩ := own_of_row hrow (picks_len _ _ _))
  go_ret
  exact ⟨a, d, rfl, ho, hb⟩
end Go.Proofs.Ytjkjnhkamieljaa
namespace Go.Proofs.Ytjkjnhkamieljaa
open Go.ChangeShapes Go.WideShapes Go.ChangeAt Go.RowKit
set_option linter.unusedVariables false

/-- The functions for the numbers, and those for the texts and the lists. -/
def numCode : Value := .agg #[.func (.func 83) #[] #[], .func (.func 84) #[] #[], .func (.func 85) #[] #[]]
def itemsCode : Value := .agg #[.func (.func 80) #[] #[], .func (.func 81) #[] #[], .func (.func 82) #[] #[]]

theorem three_same (w : World) (A B C : Obj) : Below w.heap.size w (((w.alloc A).alloc B).alloc C) :=
  (((Below.refl _ w).alloc (Nat.le_refl _) _).alloc (by simp) _).alloc (by simp; omega) _
set_option maxHeartbeats 1000000 in
set_option maxRecDepth 100000 in
theorem codeOf_num (w : World) : Calls Try.prog 63 #[.int .i64 1] w (fun e w' => e = .returned numCode ∧ Below w.heap.size w w') := by
  unfold numCode
  go_enter Try.func63, Try.ntmps63
  go_wp2_with fail
  go_returns
  exact ⟨rfl, three_same _ _ _ _⟩
set_option maxHeartbeats 1000000 in
set_option maxRecDepth 100000 in
theorem codeOf_text (w : World) : Calls Try.prog 63 #[.int .i64 2] w (fun e w' => e = .returned itemsCode ∧ Below w.heap.size w w') := by
  unfold itemsCode
  go_enter Try.func63, Try.ntmps63
  go_wp2_with fail
  go_returns
  exact ⟨rfl, three_same _ _ _ _⟩
set_option maxHeartbeats 1000000 in
set_option maxRecDepth 100000 in
theorem codeOf_list (w : World) : Calls Try.prog 63 #[.int .i64 3] w (fun e w' => e = .returned itemsCode ∧ Below w.heap.size w w') := by
  unfold itemsCode
  go_enter Try.func63, Try.ntmps63
  go_wp2_with fail
  go_returns
  exact ⟨rfl, three_same _ _ _ _⟩
theorem codeOf_more {k : Int} (hk : k = 2 ∨ k = 3) (w : World) : Calls Try.prog 63 #[.int .i64 k] w (fun e w' => e = .returned itemsCode ∧ Below w.heap.size w w') := by
  rcases hk with rfl | rfl
  · exact codeOf_text w
  · exact codeOf_list w
theorem numCode_write (w : World) : (Instr.field 88 (.agg #[.func (.func 83) #[] #[], .func (.func 84) #[] #[], .func (.func 85) #[] #[]]) 0).run Try.prog w = .ok (.func (.func 83) #[] #[]) w := by kernel_rfl
theorem numCode_read (w : World) : (Instr.field 88 (.agg #[.func (.func 83) #[] #[], .func (.func 84) #[] #[], .func (.func 85) #[] #[]]) 1).run Try.prog w = .ok (.func (.func 84) #[] #[]) w := by kernel_rfl
theorem numCode_longest (w : World) : (Instr.field 88 (.agg #[.func (.func 83) #[] #[], .func (.func 84) #[] #[], .func (.func 85) #[] #[]]) 2).run Try.prog w = .ok (.func (.func 85) #[] #[]) w := by kernel_rfl
theorem itemsCode_write (w : World) : (Instr.field 88 (.agg #[.func (.func 80) #[] #[], .func (.func 81) #[] #[], .func (.func 82) #[] #[]]) 0).run Try.prog w = .ok (.func (.func 80) #[] #[]) w := by kernel_rfl
theorem itemsCode_read (w : World) : (Instr.field 88 (.agg #[.func (.func 80) #[] #[], .func (.func 81) #[] #[], .func (.func 82) #[] #[]]) 1).run Try.prog w = .ok (.func (.func 81) #[] #[]) w := by kernel_rfl
theorem itemsCode_longest (w : World) : (Instr.field 88 (.agg #[.func (.func 80) #[] #[], .func (.func 81) #[] #[], .func (.func 82) #[] #[]]) 2).run Try.prog w = .ok (.func (.func 82) #[] #[]) w := by kernel_rfl
end Go.Proofs.Ytjkjnhkamieljaa
namespace Go.Proofs.Ytjkjnhkamieljaa
open Go.ChangeShapes Go.WideShapes Go.ChangeAt Go.RowKit
set_option linter.unusedVariables false

/-- A cursor in block g over m numbers from b on, k of them read. -/
def Cur (w : World) (g : Nat) (b : Option Addr) (m d k : Nat) : Prop := w.heap[g]? = some (.cells #[.slice b m d, .int .i64 k] 92 (0, 0))
theorem Cur.lt {w : World} {g m d k : Nat} {b : Option Addr} (h : Cur w g b m d k) : g < w.heap.size := (Array.getElem?_eq_some_iff.1 h).1
theorem Cur.same {w w' : World} {g m d k : Nat} {b : Option Addr} (h : Cur w g b m d k) (hb : Below w.heap.size w w') : Cur w' g b m d k := (hb.block _ h.lt).trans h

set_option maxHeartbeats 1000000 in
set_option maxRecDepth 100000 in
theorem take_no (g : Nat) (b : Option Addr) (m d k : Nat) (z : Int) (w : World) (h : Cur w g b m d k) (hk : k ≤ m) (hm : m ≤ 1000000000) (hz : ¬ (0 ≤ z ∧ z ≤ (m : Int) - k)) :
    Calls Try.prog 96 #[.pointer (some ⟨g, 0, none⟩), .int .i64 z] w (Told (.tuple #[.slice none 0 0, .bool false]) w) := by
  obtain ⟨c0, c1, f0, f1⟩ := two_cells h
  have e1 : decide (0 ≤ z ∧ z ≤ (m : Int) - k) = false := decide_eq_false hz
  have hkI : (k : Int) ≤ (m : Int) := by omega
  have hmI : (m : Int) ≤ 1000000000 := by omega
  clear h hz
  go_enter Try.func96, Try.ntmps96
  go_wp2_with fail
  go_quiet ((go_at_call 33; exact Calls.quiet_of_same (inR_t e1 _)))
  go_wp2_with fail
  go_ret2
  exact ⟨rfl, by first | exact drewN_same _ _ | exact (Below.refl _ _).drew | exact Below.refl _ _⟩
set_option maxHeartbeats 1000000 in
set_option maxRecDepth 100000 in
theorem take_yes (g : Nat) (b : Option Addr) (m d k q : Nat) (w : World) (h : Cur w g b m d k) (hd : m ≤ d ∧ (d : Int) ≤ 9223372036854775807) (hk : k + q ≤ m) (hm : m ≤ 1000000000) :
    Calls Try.prog 96 #[.pointer (some ⟨g, 0, none⟩), .int .i64 q] w (fun e w' => ∃ p, e = .returned (.tuple #[.slice p q q, .bool true]) ∧ (0 < q → ∀ ad, b = some ad → p = some (ad.add k)) ∧ Cur w' g b m d (k + q) ∧ w.grownBy w' (some g)) := by
  obtain ⟨c0, c1, f0, f1⟩ := two_cells h
  have HC := Lib.hid h
  have e1 : decide ((0 : Int) ≤ (q : Int) ∧ (q : Int) ≤ (m : Int) - k) = true := decide_eq_true (by omega)
  have hkI : (k : Int) ≤ (m : Int) := by omega
  have hmI : (m : Int) ≤ 1000000000 := by omega
  have hqI : (k : Int) + (q : Int) ≤ (m : Int) := by omega
  clear h
  go_enter Try.func96, Try.ntmps96
  go_wp2_with fail
  go_quiet ((go_at_call 33; exact Calls.quiet_of_same (inR_t e1 _)))
  go_wp2_with fail
  have h1 : ((w.drewN nq).setCell ⟨g, 1, none⟩ (.int .i64 ((k : Int) + (q : Int)))).heap[g]? = some (.cells #[.slice b m d, .int .i64 ((k : Int) + (q : Int))] 92 (0, 0)) := heap_setCell_same (w.drewN nq) g 1 _ _ _ (HC.out.same (drewN_same w nq))
  have hg1 : w.grownBy ((w.drewN nq).setCell ⟨g, 1, none⟩ (.int .i64 ((k : Int) + (q : Int)))) (some g) := (grown_below (drewN_same w nq) _).trans (set_grown _ g 1 _)
  clear c0 c1 f0 f1
  generalize (w.drewN nq).setCell ⟨g, 1, none⟩ (.int .i64 ((k : Int) + (q : Int))) = w2 at *
  obtain ⟨c0, c1, _, _⟩ := two_cells h1
  have H1 : Hid (Cur w2 g b m d (k + q)) := Lib.hid (by unfold Cur; rw [h1]; simp)
  have HG1 := Lib.hid hg1
  clear h1 hg1
  by_cases h0 : q = 0
  · subst h0
    go_quiet (fail)
    go_wp2_with fail
    go_ret2
    exact ⟨_, rfl, fun h => absurd h (by omega), H1.out.same (drewN_same _ _), HG1.out.trans (grown_below (drewN_same _ _) _)⟩
  · have h3 : 0 < q := by omega
    clear h0
    go_quiet (fail)
    go_wp2_with fail
    go_ret2
    exact ⟨b.map fun x => x.add k, by rw [Nat.add_sub_cancel_left]; rfl, fun _ ad e => by rw [e]; rfl, H1.out.same (drewN_same _ _), HG1.out.trans (grown_below (drewN_same _ _) _)⟩
end Go.Proofs.Ytjkjnhkamieljaa
namespace Go.Proofs.Ytjkjnhkamieljaa
open Go.ChangeShapes Go.WideShapes Go.ChangeAt Go.RowKit
set_option linter.unusedVariables false

section
variable {P : Program}
/-- Integers are appended to a slice of the call's own, wherever they lie: what is written, and where the outcome lies. -/
theorem run_app_g (w : World) {k : IntKind} (t ty e : TypeId) (i : TypeInfo) (z : Value) (bytes : Nat) (ht : P.underlying t = some (.slice e)) (hi : P.info? e = some i) (hz : i.zero = some z) (hsize : i.size = 1) (hby : i.bytes = bytes) (hzs : z.cells.size = 1)
    {B n c m d : Nat} {a b : Option Addr} {l l' : List Int} (ho : Own k e w B a n c l) (hs : Nums k w b m l') (hbytes : (n + m) * bytes ≤ 140737488355328) (h63 : n + m ≤ maxLen) (hB : B ≤ w.heap.size) :
    ∃ a' c' w', (Builtin.append_ #[t, t] ty #[.slice a n c, .slice b m d]).run P w = .ok (.slice a' (n + m) c') w' ∧ Own k e w' B a' (n + m) c' (l ++ l') ∧ w.grownBy w' (Value.ownBlock (.slice a n c)) ∧ (∀ cd, a' = some cd → (∃ bd, a = some bd ∧ bd.block = cd.block) ∨ cd.block = w.heap.size) := by
  rcases b with _ | ad
  · obtain rfl : m = 0 := by
      rcases Nat.eq_zero_or_pos m with h0 | h0
      · exact h0
      · obtain ⟨ad, h, _⟩ := hs.cell 0 h0
        cases h
    obtain rfl : l' = [] := List.eq_nil_of_length_eq_zero hs.len
    exact ⟨a, c, w, run_app_nothing w B t ty e i ht hi ho.2 d, by simpa using ho, grown_below (Below.refl _ _) _, fun cd e => Or.inl ⟨cd, e, rfl⟩⟩
  · obtain ⟨v', w', hr, h2, h3, _, h5⟩ := run_append_own_at (P := P) w B t ty e i z 1 bytes ht hi hz hsize hby hzs (by omega) (.slice a n c) n (l.map (Value.int k)) ho.2 ad m d (l'.map (Value.int k)) (by simp [hs.len]) (fun j u hu => by
      have hj : j < m := by
        rcases Nat.lt_or_ge j m with h | h
        · exact h
        · rw [List.getElem?_eq_none (by simp [hs.len]; exact h)] at hu; cases hu
      obtain ⟨ad', e', hx⟩ := hs.cell j hj
      cases e'
      have hl : j < l'.length := by rw [hs.len]; exact hj
      rw [List.getElem?_map, List.getElem?_eq_getElem hl] at hu
      cases hu
      rw [hx]
      simp [List.getD, List.getElem?_eq_getElem hl]) (ints_oneCell k l') h63 hbytes hB
    rw [← List.map_append] at h2
    have hlie : ∀ (g q cap : Nat), v' = .slice (some ⟨g, 0, none⟩) q cap → (∃ bd, a = some bd ∧ bd.block = g) ∨ g = w.heap.size := fun g q cap e => by
      subst e
      rcases h5 with e | e
      · left
        cases ha : a with
        | none => rw [ha] at e; simp [Value.ownBlock] at e
        | some bd => rw [ha] at e; simp only [Value.ownBlock, Option.some.injEq] at e; exact ⟨bd, rfl, e.symm⟩
      · right
        simpa [Value.ownBlock] using e
    rcases h2.2 with ⟨rfl, hn⟩ | ⟨g, cap, cur, rfl, hrest⟩
    · exact ⟨none, 0, w', by rw [hn]; exact hr, by rw [hn] at h2 ⊢; exact ⟨by have := h2.1; simpa using this, h2⟩, h3, fun cd e => by cases e⟩
    · exact ⟨_, cap, w', hr, ⟨by have := ho.len; have := hs.len; simp; omega, h2⟩, h3, fun cd e => by cases e; exact hlie _ _ _ rfl⟩
theorem step_app_g (w : World) {ops : Array Oper} {o : Oper} {act : Act} {K : Act → World → Prop} {Q : Exit → Act → World → Prop} {E : Prop} (hgd : o.guard = none) (s x : Operand) (t : TypeId)
    (ho : o.op = .call { callee := .builtin .append, args := #[s, x], argTypes := #[t, t] })
    (k : IntKind) (e : TypeId) (i : TypeInfo) (z : Value) (bytes : Nat) (ht : P.underlying t = some (.slice e)) (hi : P.info? e = some i) (hz : i.zero = some z) (hsize : i.size = 1) (hby : i.bytes = bytes) (hzs : z.cells.size = 1)
    {B n c m d : Nat} {a b : Option Addr} {l l' : List Int} (hs : act.eval s = .slice a n c) (hown : Own k e w B a n c l) (hx : act.eval x = .slice b m d) (hnew : Nums k w b m l')
    (hb1 : 0 < bytes) (hbytes : (n + m) * bytes ≤ 140737488355328) (hB : B ≤ w.heap.size)
    (h : ∀ a' c' w', Own k e w' B a' (n + m) c' (l ++ l') → w.grownBy w' (Value.ownBlock (.slice a n c)) → (∀ cd, a' = some cd → (∃ bd, a = some bd ∧ bd.block = cd.block) ∨ cd.block = w.heap.size) → K (act.put o.dst (.slice a' (n + m) c')) w') :
    if Region.wanted o (yielded ops act.tmps) = true then Oper.wp P o act w K Q else E := by
  have hw : Region.wanted o (yielded ops act.tmps) = true := by simp [Region.wanted, hgd]
  rw [if_pos hw]
  have h63 : n + m ≤ maxLen := by
    have := Nat.mul_le_mul_left (n + m) hb1
    unfold maxLen
    omega
  obtain ⟨a', c', w', hr, h2, h3, h4⟩ := run_app_g (P := P) (d := d) w t o.type e i z bytes ht hi hz hsize hby hzs hown hnew hbytes h63 hB
  unfold Oper.wp execOp
  simp only [ho, resolve, invoke, builtin, Sem.run_bind, Sem.run_pure, Result.andThen_ok, List.map_toArray, List.map_cons, List.map_nil, hs, hx, hr]
  exact h a' c' w' h2 h3 h4
theorem wpl_app_g (w : World) {ops : Array Oper} {rest : List Oper} {o : Oper} {act : Act} {Q : Exit → Act → World → Prop} (hgd : o.guard = none) (s x : Operand) (t : TypeId)
    (ho : o.op = .call { callee := .builtin .append, args := #[s, x], argTypes := #[t, t] })
    (k : IntKind) (e : TypeId) (i : TypeInfo) (z : Value) (bytes : Nat) (ht : P.underlying t = some (.slice e)) (hi : P.info? e = some i) (hz : i.zero = some z) (hsize : i.size = 1) (hby : i.bytes = bytes) (hzs : z.cells.size = 1)
    {B n c m d : Nat} {a b : Option Addr} {l l' : List Int} (hs : act.eval s = .slice a n c) (hown : Own k e w B a n c l) (hx : act.eval x = .slice b m d) (hnew : Nums k w b m l')
    (hb1 : 0 < bytes) (hbytes : (n + m) * bytes ≤ 140737488355328) (hB : B ≤ w.heap.size)
    (h : ∀ a' c' w', Own k e w' B a' (n + m) c' (l ++ l') → w.grownBy w' (Value.ownBlock (.slice a n c)) → wpList P ops Q rest (act.put o.dst (.slice a' (n + m) c')) w') : wpList P ops Q (o :: rest) act w := by
  refine wpList_plain hgd fun K hK => ?_
  have h63 : n + m ≤ maxLen := by
    have := Nat.mul_le_mul_left (n + m) hb1
    unfold maxLen
    omega
  obtain ⟨a', c', w', hr, h2, h3, _⟩ := run_app_g (P := P) (d := d) w t o.type e i z bytes ht hi hz hsize hby hzs hown hnew hbytes h63 hB
  unfold Oper.wp execOp
  simp only [ho, resolve, invoke, builtin, Sem.run_bind, Sem.run_pure, Result.andThen_ok, List.map_toArray, List.map_cons, List.map_nil, hs, hx, hr]
  exact hK _ _ (h a' c' w' h2 h3)
end
theorem nums_new2 (w : World) (o : Obj) (k : IntKind) (x : Int) (t : TypeId) : Nums k ((w.alloc o).alloc (.cells #[.int k x] t)) (some ⟨w.heap.size + 1, 0, none⟩) 1 [x] := by
  have := nums_new (w.alloc o) k x t
  simpa using this
/-- What a function leaves that appends to a slice of the caller's own: the new slice; nothing but its memory is written. -/
def Grew (tI : TypeId) (B : Nat) (a : Option Addr) (n c : Nat) (l : List Int) (w : World) (e : Ending) (w' : World) : Prop :=
  ∃ a' n' c', e = .returned (.slice a' n' c') ∧ Own .i64 tI w' B a' n' c' l ∧ w.grownBy w' (Value.ownBlock (.slice a n c))
theorem grown_on {w w1 w2 : World} {row row2 : Option Nat} (h : w.grownBy w1 row) (g : w1.grownBy w2 row2) (hr : ∀ r, row2 = some r → row = some r ∨ w.heap.size ≤ r) : w.grownBy w2 row :=
  ⟨g.os.trans h.os, g.tape.trans h.tape, g.output.trans h.output, Nat.le_trans h.size g.size, fun i hi hne => (g.block i (Nat.lt_of_lt_of_le hi h.size) (fun e => by
    rcases hr i e.symm with q | q
    · exact hne q.symm
    · omega)).trans (h.block i hi hne)⟩
theorem cell_off {w w' : World} {ad : Addr} {v : Value} {row : Option Nat} (h : w.cell? ad = some v) (hg : w.grownBy w' row) (hr : row ≠ some ad.block) : w'.cell? ad = some v := by
  have e := hg.block _ (cell_in h) hr.symm
  unfold World.cell? at h ⊢
  rw [e]
  exact h
theorem own_off {a : Option Addr} {n c lo hi g : Nat} (h : Span a lo hi) (hg : hi ≤ g) : Value.ownBlock (.slice a n c) ≠ some g := by
  cases a with
  | none => simp [Value.ownBlock]
  | some ad =>
    have := (h ad rfl).2
    simp [Value.ownBlock]
    omega
set_option maxHeartbeats 2000000 in
set_option maxRecDepth 100000 in
theorem writeNum_any (B : Nat) (a : Option Addr) (n c : Nat) (l : List Int) (k : Int) (p : Option Addr) (m d : Nat) (w : World) (h : Own .i64 3 w B a n c l) (hB : B ≤ w.heap.size) (hn : n ≤ 1000000) :
    Calls Try.prog 83 #[.slice a n c, .agg #[.int .i64 k, .slice p m d]] w (Grew 3 B a n c (l ++ [k]) w) := by
  have H := Lib.hid h
  have HB := Lib.hid hB
  obtain ⟨i0, hi, hz0, hz1, hz2⟩ := info_parts infoIntS
  have HI := Lib.hid (And.intro hi (And.intro hz0 (And.intro hz1 hz2)))
  clear h hi hz0 hz1 hz2
  go_enter Try.func83, Try.ntmps83
  go_wp2_with (at_builtin; refine wpl_app_g _ rfl (.tmp 5) (.tmp 8) 32 rfl .i64 3 i0 (.int .i64 0) 8 Try.underlying32 HI.out.1 HI.out.2.1 HI.out.2.2.1 HI.out.2.2.2 rfl rfl ((H.out.alloc _).alloc _) rfl (nums_new2 _ _ _ _ _) (by omega) ?c1 ?c2 ?_)
  case c1 => omega
  case c2 => have := HB.out; simp; omega
  intro a3 c3 w3 ho3 hg3
  have HO3 := Lib.hid ho3
  have HG3 := Lib.hid (grown_on (grown_below (((Below.refl _ w).alloc (Nat.le_refl _) _).alloc (by simp) _) _) hg3 fun r e => Or.inl e)
  clear ho3 hg3
  go_wp2_with fail
  go_ret
  exact ⟨_, _, _, rfl, HO3.out, HG3.out⟩
theorem row3 {a a' : Option Addr} {n c n' c' s t : Nat} (hl : ∀ cd, a' = some cd → (∃ bd, a = some bd ∧ bd.block = cd.block) ∨ cd.block = s) (hg : t ≤ s) : ∀ r, Value.ownBlock (.slice a' n' c') = some r → Value.ownBlock (.slice a n c) = some r ∨ t ≤ r := fun r e => by
  cases a' with
  | none => simp [Value.ownBlock] at e
  | some cd =>
    simp only [Value.ownBlock, Option.some.injEq] at e
    rcases hl cd rfl with ⟨bd, rfl, q⟩ | q
    · left
      simp only [Value.ownBlock, Option.some.injEq]
      omega
    · right
      omega
theorem off3 {a a' : Option Addr} {n c n' c' g s : Nat} (h : Value.ownBlock (.slice a n c) ≠ some g) (hl : ∀ cd, a' = some cd → (∃ bd, a = some bd ∧ bd.block = cd.block) ∨ cd.block = s) (hg : g < s) : Value.ownBlock (.slice a' n' c') ≠ some g := by
  cases a' with
  | none => simp [Value.ownBlock]
  | some cd =>
    rcases hl cd rfl with ⟨bd, rfl, e⟩ | e
    · simp only [Value.ownBlock, ne_eq, Option.some.injEq] at h ⊢
      omega
    · simp only [Value.ownBlock, ne_eq, Option.some.injEq]
      omega
set_option maxHeartbeats 2000000 in
set_option maxRecDepth 100000 in
theorem writeItems_any (B : Nat) (a : Option Addr) (n c : Nat) (l : List Int) (k : Int) (p : Option Addr) (m d : Nat) (y : List Int) (w : World) (h : Own .i64 3 w B a n c l) (hv : ∀ w', Below B w w' → Nums .i64 w' p m y) (hB : B ≤ w.heap.size) (hn : n ≤ 1000000) (hm : m ≤ 1000000) :
    Calls Try.prog 80 #[.slice a n c, .agg #[.int .i64 k, .slice p m d]] w (Grew 3 B a n c (l ++ (m : Int) :: y) w) := by
  have H := Lib.hid h
  have HV := Lib.hid hv
  have HB := Lib.hid hB
  obtain ⟨i0, hi, hz0, hz1, hz2⟩ := info_parts infoIntS
  have HI := Lib.hid (And.intro hi (And.intro hz0 (And.intro hz1 hz2)))
  clear h hv hi hz0 hz1 hz2
  go_enter Try.func80, Try.ntmps80
  go_wp2_with fail
  have hc : (w.alloc (.cells #[.int .i64 k, .slice p m d] 64)).cell? ⟨w.heap.size, 1, none⟩ = some (.slice p m d) := by simp
  have HW : Hid (Below w.heap.size w (w.alloc (.cells #[.int .i64 k, .slice p m d] 64))) := Lib.hid (alloc_same _ _)
  have H1 := Lib.hid (H.out.same HW.out)
  have HBW := Lib.hid (HW.out.mono HB.out)
  have HOFF : Hid (Value.ownBlock (.slice a n c) ≠ some w.heap.size) := Lib.hid (own_off H.out.span (Nat.le_refl _))
  have hB1 : B ≤ (w.alloc (.cells #[.int .i64 k, .slice p m d] 64)).heap.size := by have := HB.out; simp; omega
  have hlt1 : w.heap.size < (w.alloc (.cells #[.int .i64 k, .slice p m d] 64)).heap.size := by simp
  generalize w.alloc (.cells #[.int .i64 k, .slice p m d] 64) = w1 at *
  have HC := Lib.hid hc
  clear hc
  have HQ : Hid (Below w1.heap.size w1 (w1.alloc (.cells #[.int .i64 (m : Int)] 3)).drew) := Lib.hid (alloc_same _ _).drew
  have HO2 : Hid (Own .i64 3 (w1.alloc (.cells #[.int .i64 (m : Int)] 3)).drew B a n c l) := Lib.hid (H1.out.same HQ.out)
  have HN2 : Hid (Nums .i64 (w1.alloc (.cells #[.int .i64 (m : Int)] 3)).drew (some ⟨w1.heap.size, 0, none⟩) 1 [(m : Int)]) := Lib.hid ((nums_new _ _ _ _).same (Below.refl _ _).drew)
  have hs2 : B ≤ (w1.alloc (.cells #[.int .i64 (m : Int)] 3)).drew.heap.size := Nat.le_trans hB1 HQ.out.size
  have HWQ : Hid (Below w.heap.size w (w1.alloc (.cells #[.int .i64 (m : Int)] 3)).drew) := Lib.hid (HW.out.trans (HQ.out.mono (Nat.le_of_lt hlt1)))
  have hle2 : w.heap.size ≤ (w1.alloc (.cells #[.int .i64 (m : Int)] 3)).drew.heap.size := HWQ.out.size
  have hlt2 : w.heap.size < (w1.alloc (.cells #[.int .i64 (m : Int)] 3)).drew.heap.size := Nat.lt_of_lt_of_le hlt1 HQ.out.size
  go_region_held3 (fun w' => w'.cell? ⟨w.heap.size, 1, none⟩ = some (.slice p m d)) (first | exact cell_kept HC.out (Below.refl _ _).drew | exact cell_kept HC.out HQ.out | exact HC3.out | exact HC4.out) ((first | (refine step_app_g _ (by rfl) (.tmp 5) (.tmp 9) 32 (by rfl) .i64 3 i0 (.int .i64 0) 8 Try.underlying32 HI.out.1 HI.out.2.1 HI.out.2.2.1 HI.out.2.2.2 rfl (by rfl) HO2.out (by rfl) HN2.out (by omega) (by omega) hs2 ?_; intro a3 c3 w3 ho3 hg3 hl3; have HOFF3 : Hid (Value.ownBlock (.slice a3 (n + 1) c3) ≠ some w.heap.size) := Lib.hid (off3 HOFF.out hl3 hlt2); have HO3 := Lib.hid ho3; have HG3 := Lib.hid (grown_on (grown_below HWQ.out (Value.ownBlock (.slice a n c))) hg3 fun r e => Or.inl e); have HL3 := Lib.hid (row3 (n := n) (c := c) (n' := n + 1) (c' := c3) hl3 hle2); have HB3 := Lib.hid (grown_to hg3 (HBW.out.trans (HQ.out.mono hB1)) HO2.out.span (Nat.le_refl _) hs2); have HC3 := Lib.hid (cell_off (cell_kept HC.out HQ.out) hg3 HOFF.out); have hs3 : B ≤ w3.heap.size := Nat.le_trans hs2 hg3.size; clear ho3 hg3) | (refine step_app_g _ (by rfl) (.tmp 10) (.tmp 12) 32 (by rfl) .i64 3 i0 (.int .i64 0) 8 Try.underlying32 HI.out.1 HI.out.2.1 HI.out.2.2.1 HI.out.2.2.2 rfl (by rfl) HO3.out (by rfl) (HV.out _ HB3.out) (by omega) (by omega) hs3 ?_; intro a4 c4 w4 ho4 hg4 _; have HO4 := Lib.hid ho4; have HG4 := Lib.hid (grown_on HG3.out hg4 HL3.out); have HC4 := Lib.hid (cell_off HC3.out hg4 HOFF3.out); clear ho4 hg4)))
  go_wp2_with fail
  go_ret
  exact ⟨_, _, _, rfl, by simpa using HO4.out, HG4.out⟩
theorem own_away {a : Option Addr} {n c lo hi g : Nat} (h : Span a lo hi) (hg : g < lo) : Value.ownBlock (.slice a n c) ≠ some g := by
  cases a with
  | none => simp [Value.ownBlock]
  | some ad =>
    have := (h ad rfl).1
    simp [Value.ownBlock]
    omega
theorem kind_in {l : List Fd} {j : Nat} {x : Fd} (hok : okTo l l.length) (hj : j < l.length) (hx : l[j]? = some x) : x.kind = 1 ∨ x.kind = 2 ∨ x.kind = 3 := by
  have h := hok j x hj hx
  unfold fieldOk at h
  rw [Bool.and_eq_true, decide_eq_true_eq] at h
  have h1 := h.1
  unfold mostOf at h1
  revert h1
  repeat' split
  all_goals omega
set_option maxHeartbeats 1000000 in
theorem longestNum_any (x : Fd) (w : World) : Calls Try.prog 85 #[x.val] w (Told (.int .i64 1) w) := by
  unfold Fd.val
  go_enter Try.func85, Try.ntmps85
  go_wp2_with fail
  go_ret
  exact ⟨rfl, alloc_same _ _⟩
set_option maxHeartbeats 1000000 in
theorem longestItems_any (x : Fd) (w : World) (h : 1 ≤ x.max ∧ x.max ≤ 99) : Calls Try.prog 82 #[x.val] w (Told (.int .i64 (1 + x.max)) w) := by
  obtain ⟨xk, xm, xt, xi⟩ := x
  dsimp only at h
  unfold Fd.val
  go_enter Try.func82, Try.ntmps82
  go_wp2_with fail
  go_ret
  exact ⟨by go_num, alloc_same _ _⟩
end Go.Proofs.Ytjkjnhkamieljaa
namespace Go.Proofs.Ytjkjnhkamieljaa
open Go.ChangeShapes Go.WideShapes Go.ChangeAt Go.RowKit
set_option linter.unusedVariables false

theorem grown_set2 {w w1 : World} {row : Option Nat} {R : Nat} (h : w.grownBy w1 row) (hR : w.heap.size ≤ R) (u v : Value) : w.grownBy ((w1.setCell ⟨R, 0, none⟩ u).setCell ⟨R, 1, none⟩ v) row :=
  grown_on h ((set_grown w1 R 0 u).trans (set_grown _ R 1 v)) (fun r e => Or.inr (by cases e; exact hR))
theorem Cur.set2 {w : World} {g m d k R : Nat} {b : Option Addr} (h : Cur w g b m d k) (hR : g ≠ R) (u v : Value) : Cur ((w.setCell ⟨R, 0, none⟩ u).setCell ⟨R, 1, none⟩ v) g b m d k := by
  unfold Cur
  rw [Below.heap_setCell _ _ _ _ (by dsimp only; omega), Below.heap_setCell _ _ _ _ (by dsimp only; omega)]
  exact h
theorem addr_none (ad : Addr) : ad.add 0 = ad := by unfold Addr.add; simp
/-- The cells of b are the list y, whatever happens to the cursor in block g. -/
def Fix (w : World) (g : Nat) (b : Option Addr) (m : Nat) (y : List Int) : Prop := ∀ w', w.grownBy w' (some g) → Nums .i64 w' b m y
theorem Fix.same {w w' : World} {g m : Nat} {b : Option Addr} {y : List Int} (h : Fix w g b m y) (hb : Below w.heap.size w w') : Fix w' g b m y := fun w2 hg => h w2 ((grown_below hb _).trans hg)
theorem Fix.on {w w' : World} {g m : Nat} {b : Option Addr} {y : List Int} (h : Fix w g b m y) (hb : w.grownBy w' (some g)) : Fix w' g b m y := fun w2 hg => h w2 (hb.trans hg)
theorem Fix.len {w : World} {g m : Nat} {b : Option Addr} {y : List Int} (h : Fix w g b m y) : y.length = m := (h w (grown_below (Below.refl _ _) _)).len
/-- What a function leaves that finds no value, and one that finds one. -/
def Rdn (g : Nat) (w : World) (e : Ending) (w' : World) : Prop := e = .returned (.tuple #[.agg #[.int .i64 0, .slice none 0 0], .bool false]) ∧ w.grownBy w' (some g)
def Rdd (g : Nat) (b : Option Addr) (m d : Nat) (num : Int) (q : Nat) (it : List Int) (k' : Nat) (w : World) (e : Ending) (w' : World) : Prop :=
  ∃ p r, e = .returned (.tuple #[.agg #[.int .i64 num, .slice p q r], .bool true]) ∧ Fix w g p q it ∧ Cur w' g b m d k' ∧ w.grownBy w' (some g)

set_option maxHeartbeats 1000000 in
set_option maxRecDepth 100000 in
theorem next_no (g : Nat) (b : Option Addr) (m d : Nat) (w : World) (h : Cur w g b m d m) (hm : m ≤ 1000000000) :
    Calls Try.prog 95 #[.pointer (some ⟨g, 0, none⟩)] w (Told (.tuple #[.int .i64 0, .bool false]) w) := by
  have KT := Lib.hid (take_no g b m d m 1 w h (Nat.le_refl _) hm (by omega))
  clear h
  go_enter Try.func95, Try.ntmps95
  go_wp2_with fail
  refine KT.out.mono ?_
  rintro e w1 ⟨rfl, hb⟩
  have HB := Lib.hid hb
  clear hb
  go_wp2_with fail
  go_ret2
  exact ⟨rfl, HB.out⟩
set_option maxHeartbeats 1000000 in
set_option maxRecDepth 100000 in
theorem next_yes (g : Nat) (b : Option Addr) (m d k : Nat) (y : List Int) (z : Int) (w : World) (h : Cur w g b m d k) (hv : Fix w g b m y) (hd : m ≤ d ∧ (d : Int) ≤ 9223372036854775807) (hm : m ≤ 1000000000) (hz : y[k]? = some z) :
    Calls Try.prog 95 #[.pointer (some ⟨g, 0, none⟩)] w (fun e w' => e = .returned (.tuple #[.int .i64 z, .bool true]) ∧ Cur w' g b m d (k + 1) ∧ w.grownBy w' (some g)) := by
  have hk : k + 1 ≤ m := by have := lt_of_some hz; have := hv.len; omega
  have KT := Lib.hid (take_yes g b m d k 1 w h hd hk hm)
  rw [show ((1 : Nat) : Int) = 1 from rfl] at KT
  have HV := Lib.hid hv
  have HZ := Lib.hid hz
  clear h hv hz
  go_enter Try.func95, Try.ntmps95
  go_wp2_with fail
  refine KT.out.mono ?_
  rintro e w1 ⟨p, rfl, hp, hc, hg⟩
  obtain ⟨ad, u, e, hu, hcell⟩ := ((HV.out w1 hg).sub k 1 hk (b := p) hp).at_ (j := 0) (by omega)
  have : u = z := by
    have h2 := HZ.out
    simp only [List.getElem?_take, List.getElem?_drop] at hu
    simp at hu
    rw [h2] at hu
    cases hu
    rfl
  subst this
  subst e
  have hcell2 : w1.cell? ad = some (.int .i64 u) := by rw [addr_none] at hcell; exact hcell
  have HC := Lib.hid hc
  have HG := Lib.hid hg
  clear hp hc hg hu
  go_wp2_with fail
  go_ret2
  exact ⟨rfl, HC.out, HG.out⟩

set_option maxHeartbeats 1000000 in
set_option maxRecDepth 100000 in
theorem readNum_no (g : Nat) (b : Option Addr) (m d : Nat) (w : World) (h : Cur w g b m d m) (hm : m ≤ 1000000000) :
    Calls Try.prog 84 #[.pointer (some ⟨g, 0, none⟩)] w (Rdn g w) := by
  have hgl := h.lt
  have HB : Hid (Below w.heap.size w (w.alloc (.cells #[.int .i64 0, .slice none 0 0] 64))) := Lib.hid (alloc_same _ _)
  have KN := Lib.hid (next_no g b m d _ (h.same HB.out) hm)
  have hs : w.heap.size < (w.alloc (.cells #[.int .i64 0, .slice none 0 0] 64)).heap.size := by simp
  have hM : (w.alloc (.cells #[.int .i64 0, .slice none 0 0] 64)).heap[w.heap.size]? = some (.cells #[.int .i64 0, .slice none 0 0] 64 (0, 0)) := heap_alloc_new w _
  clear h
  unfold Rdn
  go_enter Try.func84, Try.ntmps84
  go_wp2_with fail
  generalize (w.alloc (.cells #[.int .i64 0, .slice none 0 0] 64)) = w0 at *
  refine KN.out.mono ?_
  rintro e w1 ⟨rfl, hb⟩
  have hM1 : w1.heap[w.heap.size]? = some (.cells #[.int .i64 0, .slice none 0 0] 64 (0, 0)) := by rw [hb.block _ hs]; exact hM
  have HG := Lib.hid (grown_below (HB.out.trans (hb.mono HB.out.size)) (some g))
  obtain ⟨m0, m1, g0, g1⟩ := two_cells hM1
  obtain ⟨z0, z1, hZ⟩ := two_put hM1 (.int .i64 0) (.slice none 0 0)
  clear hM hM1 hb hZ
  go_wp2_with fail
  (try simp only [Exit.inBlock, Exit.then])
  refine bodyPost_ret (by simp [results, Try.results84, go_sem, z0, z1]; try rfl) rfl ?_
  exact ⟨rfl, grown_set2 HG.out (Nat.le_refl _) _ _⟩
set_option maxHeartbeats 1000000 in
set_option maxRecDepth 100000 in
theorem readNum_yes (g : Nat) (b : Option Addr) (m d k : Nat) (y : List Int) (z : Int) (w : World) (h : Cur w g b m d k) (hv : Fix w g b m y) (hd : m ≤ d ∧ (d : Int) ≤ 9223372036854775807) (hm : m ≤ 1000000000) (hz : y[k]? = some z) :
    Calls Try.prog 84 #[.pointer (some ⟨g, 0, none⟩)] w (Rdd g b m d z 0 [] (k + 1) w) := by
  have hgl := h.lt
  have HB : Hid (Below w.heap.size w (w.alloc (.cells #[.int .i64 0, .slice none 0 0] 64))) := Lib.hid (alloc_same _ _)
  have KN := Lib.hid (next_yes g b m d k y z _ (h.same HB.out) (hv.same HB.out) hd hm hz)
  have hs : w.heap.size < (w.alloc (.cells #[.int .i64 0, .slice none 0 0] 64)).heap.size := by simp
  have hM : (w.alloc (.cells #[.int .i64 0, .slice none 0 0] 64)).heap[w.heap.size]? = some (.cells #[.int .i64 0, .slice none 0 0] 64 (0, 0)) := heap_alloc_new w _
  clear h hv hz
  unfold Rdd
  go_enter Try.func84, Try.ntmps84
  go_wp2_with fail
  generalize (w.alloc (.cells #[.int .i64 0, .slice none 0 0] 64)) = w0 at *
  refine KN.out.mono ?_
  rintro e w1 ⟨rfl, hc, hg⟩
  have hM1 : w1.heap[w.heap.size]? = some (.cells #[.int .i64 0, .slice none 0 0] 64 (0, 0)) := by rw [hg.block _ hs (by simp; omega)]; exact hM
  have HG := Lib.hid ((grown_below HB.out (some g)).trans hg)
  have HC := Lib.hid hc
  obtain ⟨m0, m1, g0, g1⟩ := two_cells hM1
  obtain ⟨z0, z1, hZ⟩ := two_put hM1 (.int .i64 z) (.slice none 0 0)
  clear hM hM1 hg hc hZ
  go_wp2_with fail
  (try simp only [Exit.inBlock, Exit.then])
  refine bodyPost_ret (by simp [results, Try.results84, go_sem, z0, z1]; try rfl) rfl ?_
  exact ⟨none, 0, rfl, fun _ _ => Nums.none, HC.out.set2 (by omega) _ _, grown_set2 HG.out (Nat.le_refl _) _ _⟩

set_option maxHeartbeats 1000000 in
set_option maxRecDepth 100000 in
theorem readItems_no (g : Nat) (b : Option Addr) (m d : Nat) (w : World) (h : Cur w g b m d m) (hm : m ≤ 1000000000) :
    Calls Try.prog 81 #[.pointer (some ⟨g, 0, none⟩)] w (Rdn g w) := by
  have hgl := h.lt
  have HB : Hid (Below w.heap.size w (w.alloc (.cells #[.int .i64 0, .slice none 0 0] 64))) := Lib.hid (alloc_same _ _)
  have KN := Lib.hid (next_no g b m d _ (h.same HB.out) hm)
  have hs : w.heap.size < (w.alloc (.cells #[.int .i64 0, .slice none 0 0] 64)).heap.size := by simp
  have hM : (w.alloc (.cells #[.int .i64 0, .slice none 0 0] 64)).heap[w.heap.size]? = some (.cells #[.int .i64 0, .slice none 0 0] 64 (0, 0)) := heap_alloc_new w _
  clear h
  unfold Rdn
  go_enter Try.func81, Try.ntmps81
  go_wp2_with fail
  generalize (w.alloc (.cells #[.int .i64 0, .slice none 0 0] 64)) = w0 at *
  refine KN.out.mono ?_
  rintro e w1 ⟨rfl, hb⟩
  have hM1 : w1.heap[w.heap.size]? = some (.cells #[.int .i64 0, .slice none 0 0] 64 (0, 0)) := by rw [hb.block _ hs]; exact hM
  have HG := Lib.hid (grown_below (HB.out.trans (hb.mono HB.out.size)) (some g))
  obtain ⟨m0, m1, g0, g1⟩ := two_cells hM1
  obtain ⟨z0, z1, hZ⟩ := two_put hM1 (.int .i64 0) (.slice none 0 0)
  clear hM hM1 hb hZ
  go_wp2_with fail
  (try simp only [Exit.inBlock, Exit.then])
  refine bodyPost_ret (by simp [results, Try.results81, go_sem, z0, z1]; try rfl) rfl ?_
  exact ⟨rfl, grown_set2 HG.out (Nat.le_refl _) _ _⟩
set_option maxHeartbeats 1000000 in
set_option maxRecDepth 100000 in
theorem readItems_out (g : Nat) (b : Option Addr) (m d k : Nat) (y : List Int) (z : Int) (w : World) (h : Cur w g b m d k) (hv : Fix w g b m y) (hd : m ≤ d ∧ (d : Int) ≤ 9223372036854775807) (hm : m ≤ 1000000000) (hz : y[k]? = some z) (ho : ¬ (0 ≤ z ∧ z ≤ (m : Int) - k - 1)) :
    Calls Try.prog 81 #[.pointer (some ⟨g, 0, none⟩)] w (Rdn g w) := by
  have hgl := h.lt
  have hk : k + 1 ≤ m := by have := lt_of_some hz; have := hv.len; omega
  have HB : Hid (Below w.heap.size w (w.alloc (.cells #[.int .i64 0, .slice none 0 0] 64))) := Lib.hid (alloc_same _ _)
  have KN := Lib.hid (next_yes g b m d k y z _ (h.same HB.out) (hv.same HB.out) hd hm hz)
  have KT := Lib.hid (fun (w0 : World) (h0 : Cur w0 g b m d (k + 1)) => take_no g b m d (k + 1) z w0 h0 hk hm (by omega))
  have hs : w.heap.size < (w.alloc (.cells #[.int .i64 0, .slice none 0 0] 64)).heap.size := by simp
  have hM : (w.alloc (.cells #[.int .i64 0, .slice none 0 0] 64)).heap[w.heap.size]? = some (.cells #[.int .i64 0, .slice none 0 0] 64 (0, 0)) := heap_alloc_new w _
  clear h hv hz ho
  unfold Rdn
  go_enter Try.func81, Try.ntmps81
  go_wp2_with fail
  generalize (w.alloc (.cells #[.int .i64 0, .slice none 0 0] 64)) = w0 at *
  refine KN.out.mono ?_
  rintro e w1 ⟨rfl, hc, hg⟩
  have hM1 : w1.heap[w.heap.size]? = some (.cells #[.int .i64 0, .slice none 0 0] 64 (0, 0)) := by rw [hg.block _ hs (by simp; omega)]; exact hM
  have hs1 := Nat.lt_of_lt_of_le hs hg.size
  have HG := Lib.hid ((grown_below HB.out (some g)).trans hg)
  have HC := Lib.hid hc
  clear hM hg hc
  go_wp2_with fail
  refine (KT.out w1 HC.out).mono ?_
  rintro e w2 ⟨rfl, hb⟩
  have hM2 : w2.heap[w.heap.size]? = some (.cells #[.int .i64 0, .slice none 0 0] 64 (0, 0)) := by rw [hb.block _ hs1]; exact hM1
  have HG2 := Lib.hid (HG.out.trans (grown_below hb (some g)))
  obtain ⟨m0, m1, g0, g1⟩ := two_cells hM2
  obtain ⟨z0, z1, hZ⟩ := two_put hM2 (.int .i64 0) (.slice none 0 0)
  clear hM1 hM2 hb hZ
  go_wp2_with fail
  (try simp only [Exit.inBlock, Exit.then])
  refine bodyPost_ret (by simp [results, Try.results81, go_sem, z0, z1]; try rfl) rfl ?_
  exact ⟨rfl, grown_set2 HG2.out (Nat.le_refl _) _ _⟩
set_option maxHeartbeats 1000000 in
set_option maxRecDepth 100000 in
theorem readItems_yes (g : Nat) (b : Option Addr) (m d k q : Nat) (y : List Int) (w : World) (h : Cur w g b m d k) (hv : Fix w g b m y) (hd : m ≤ d ∧ (d : Int) ≤ 9223372036854775807) (hm : m ≤ 1000000000) (hz : y[k]? = some (q : Int)) (ho : k + 1 + q ≤ m) :
    Calls Try.prog 81 #[.pointer (some ⟨g, 0, none⟩)] w (Rdd g b m d 0 q ((y.drop (k + 1)).take q) (k + 1 + q) w) := by
  have hgl := h.lt
  have hk : k + 1 ≤ m := by omega
  have HV := Lib.hid hv
  have HB : Hid (Below w.heap.size w (w.alloc (.cells #[.int .i64 0, .slice none 0 0] 64))) := Lib.hid (alloc_same _ _)
  have KN := Lib.hid (next_yes g b m d k y q _ (h.same HB.out) (hv.same HB.out) hd hm hz)
  have KT := Lib.hid (fun (w0 : World) (h0 : Cur w0 g b m d (k + 1)) => take_yes g b m d (k + 1) q w0 h0 hd ho hm)
  have hs : w.heap.size < (w.alloc (.cells #[.int .i64 0, .slice none 0 0] 64)).heap.size := by simp
  have hM : (w.alloc (.cells #[.int .i64 0, .slice none 0 0] 64)).heap[w.heap.size]? = some (.cells #[.int .i64 0, .slice none 0 0] 64 (0, 0)) := heap_alloc_new w _
  clear h hv hz
  unfold Rdd
  go_enter Try.func81, Try.ntmps81
  go_wp2_with fail
  generalize (w.alloc (.cells #[.int .i64 0, .slice none 0 0] 64)) = w0 at *
  refine KN.out.mono ?_
  rintro e w1 ⟨rfl, hc, hg⟩
  have hM1 : w1.heap[w.heap.size]? = some (.cells #[.int .i64 0, .slice none 0 0] 64 (0, 0)) := by rw [hg.block _ hs (by simp; omega)]; exact hM
  have hs1 := Nat.lt_of_lt_of_le hs hg.size
  have HG := Lib.hid ((grown_below HB.out (some g)).trans hg)
  have HC := Lib.hid hc
  clear hM hg hc
  go_wp2_with fail
  refine (KT.out w1 HC.out).mono ?_
  rintro e w2 ⟨p, rfl, hp, hc, hg⟩
  have hM2 : w2.heap[w.heap.size]? = some (.cells #[.int .i64 0, .slice none 0 0] 64 (0, 0)) := by rw [hg.block _ hs1 (by simp; omega)]; exact hM1
  have HG2 := Lib.hid (HG.out.trans hg)
  have HC2 := Lib.hid hc
  have HP := Lib.hid hp
  obtain ⟨m0, m1, g0, g1⟩ := two_cells hM2
  obtain ⟨z0, z1, hZ⟩ := two_put hM2 (.int .i64 0) (.slice p q q)
  clear hM1 hM2 hg hc hp hZ
  go_wp2_with fail
  (try simp only [Exit.inBlock, Exit.then])
  refine bodyPost_ret (by simp [results, Try.results81, go_sem, z0, z1]; try rfl) rfl ?_
  exact ⟨p, q, rfl, fun w' hg => (HV.out w' hg).sub (k + 1) q ho HP.out, HC2.out.set2 (by omega) _ _, grown_set2 HG2.out (Nat.le_refl _) _ _⟩
end Go.Proofs.Ytjkjnhkamieljaa
