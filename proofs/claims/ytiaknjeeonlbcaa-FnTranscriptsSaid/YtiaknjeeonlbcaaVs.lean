/- The container of chapter 16: the iterator over its elements, at integers and at lists of integers. -/
import Derived.RangeFuncNested
import Derived.RangeFuncBound
import Derived.RangeFuncCalls
import Derived.RangeFuncLeaves
import Derived.RangeFuncBox
import Derived.Shelf.Abstract
import Derived.Shelf.RegionOpen
import Derived.WalkKit
import Derived.OwnWalkIn
import Derived.TacticsInMore
import Derived.LoopNIn
import Derived.LoopIn
import Derived.Maps.AppendAt
import Derived.Test.YtiaknjeeonlbcaaLl
namespace Go.Proofs.Ytiaknjeeonlbcaa
open Go.ChangeShapes Go.WideShapes Go.ChangeAt Go.RowKit Go.Shelf
set_option linter.unusedVariables false
attribute [local go_sem] Oper.semAt_some

/-- From a on lie elements of one cell each, in a block below n₀. -/
def Holds {α : Type} (enc : α → Value) (n₀ : Nat) (W : World) (a : Option Addr) (xs : List α) : Prop := ∀ k x, xs[k]? = some x → ∃ ad, a = some ad ∧ W.cell? (ad.add k) = some (enc x) ∧ ad.block < n₀
theorem Holds.below {α : Type} {enc : α → Value} {n₀ : Nat} {A B : World} {a : Option Addr} {xs : List α} (h : Holds enc n₀ A a xs) (hb : Below n₀ A B) : Holds enc n₀ B a xs := fun k x hk => by
  obtain ⟨ad, e, h1, h2⟩ := h k x hk
  exact ⟨ad, e, (hb.cell (p := ad.add k) (by rw [addr_block]; exact h2)).trans h1, h2⟩
theorem take_more {α : Type} {xs : List α} {k : Nat} {x : α} (h : xs[k]? = some x) : xs.take (k + 1) = xs.take k ++ [x] := by rw [List.take_add_one, h]; rfl

theorem firstI_any (a : Option Addr) (n c : Nat) (w : World) :
    Calls Try.prog 57 #[.slice a n c] w fun e w' => e = .returned (.func (.func 60) #[] #[.pointer (some ⟨w.heap.size, 0, none⟩)]) ∧ w' = w.alloc (.cells #[.slice a n c] 58) := by
  have K : Calls Try.prog 59 #[.slice a n c] w fun e w' => e = .returned (.func (.func 60) #[] #[.pointer (some ⟨w.heap.size, 0, none⟩)]) ∧ w' = w.alloc (.cells #[.slice a n c] 58) := by
    go_enter Try.func59, Try.ntmps59
    go_wp2
    go_ret
    exact ⟨rfl, rfl⟩
  go_enter Try.func57, Try.ntmps57
  go_wp2_with fail
  refine K.mono ?_
  rintro e w1 ⟨rfl, rfl⟩
  go_wp2_with fail
  go_ret
  exact ⟨rfl, rfl⟩
set_option maxRecDepth 100000 in
set_option maxHeartbeats 2000000 in
theorem valuesI_in {α : Type} (enc : α → Value) (m l g n₀ : Nat) (a : Option Addr) (n c : Nat) (xs : List α) (hm : 1 ≤ m) (hl : xs.length = n) (hn : (n : Int) ≤ 9223372036854775807) (J Jx : List α → World → Prop)
    (hY : ∀ pre x W, J pre W → pre.length < n → YieldAt Fence.wide (m - 1) Try.prog l #[enc x] W fun e W' =>
      (e = .returned (.bool true) ∧ J (pre ++ [x]) W' ∧ Below n₀ W W') ∨ (e = .returned (.bool false) ∧ Jx (pre ++ [x]) W'))
    (W : World) (hG : W.cell? ⟨g, 0, none⟩ = some (.slice a n c)) (hH : Holds enc n₀ W a xs) (h0 : J [] W) :
    CallsIn Fence.wide m Try.prog 60 #[.func (.yield l) #[] #[], .pointer (some ⟨g, 0, none⟩)] W fun e W' => (∃ v, e = .returned v) ∧
      ((∃ ys, ys = xs ∧ J ys W') ∨ (∃ pre, pre <+: xs ∧ Jx pre W')) := by
  have HH := Lib.hid hH
  clear hH
  refine callsIn_of_wp Try.func60 rfl trivial ?_ rfl
  simp only [Try.ntmps60, List.size_toArray, List.length_cons, List.length_nil, Nat.reduceAdd, Nat.reduceSub, Array.replicate_succ, Array.replicate_zero, List.push_toArray, List.append_toArray, List.nil_append, List.cons_append]
  gi_wp2
  gi_loopw [7] (fun i wr => ∃ k : Nat, k ≤ n ∧ i = .int .i64 k ∧ J (xs.take k) wr ∧ Below n₀ W wr) (fun i _ => n - (intOf i).toNat)
  case atStart => exact ⟨0, Nat.zero_le _, rfl, h0, Below.refl _ _⟩
  case round =>
    obtain ⟨k, hk, rfl, hJs, hnx⟩ := hrel
    by_cases hlt : k < n
    · obtain ⟨x, hx⟩ : ∃ x, xs[k]? = some x := ⟨_, List.getElem?_eq_getElem (by omega)⟩
      obtain ⟨ad, rfl, hc, _⟩ := HH.out.below hnx k x hx
      obtain ⟨fn, tmps, assign, body, hy, hR⟩ := hY _ x wr hJs (by rw [List.length_take]; omega)
      have HX := Lib.hid (take_more hx)
      clear hx
      gi_wp2
      refine hR.mono ?_
      rintro e W3 (⟨rfl, hJ3, hk3⟩ | ⟨rfl, hJx3⟩)
      · gi_wp2
        go_roundw
        case rel => exact ⟨k + 1, by omega, by go_num, by rw [HX.out]; exact hJ3, hnx.trans hk3⟩
        case measure => simp [intOf]; omega
      · gi_wp2
        refine bodyPost_ret (results_none rfl _ _ _) rfl ?_
        exact ⟨⟨_, rfl⟩, .inr ⟨_, ⟨xs.drop (k + 1), by rw [← HX.out, List.take_append_drop]⟩, hJx3⟩⟩
    · obtain rfl : k = n := by omega
      rw [List.take_of_length_le (by omega)] at hJs
      gi_wp2
      go_end0
      exact ⟨⟨_, rfl⟩, .inl ⟨_, rfl, hJs⟩⟩
theorem valuesI_stops {α : Type} (enc : α → Value) (m g n₀ : Nat) (a : Option Addr) (n c : Nat) (xs : List α) (hm : 1 ≤ m) (hl : xs.length = n) (hn : (n : Int) ≤ 9223372036854775807) (w : World) (hG : w.cell? ⟨g, 0, none⟩ = some (.slice a n c)) (hs : n₀ ≤ w.heap.size) (hH : Holds enc n₀ w a xs) :
    SeqStopsK Fence.wide m Try.prog 60 #[.pointer (some ⟨g, 0, none⟩)] (fun x : α => #[enc x]) (Below n₀) (fun ys => ys = xs) (fun pre => pre <+: xs) n w := fun l J Jx W hW hJ _ hY h0 =>
  valuesI_in enc m l g n₀ a n c xs hm hl hn J Jx hY W (cell_stay hG hW) (hH.below (hW.mono hs)) h0

theorem firstR_any (a : Option Addr) (n c : Nat) (w : World) :
    Calls Try.prog 43 #[.slice a n c] w fun e w' => e = .returned (.func (.func 58) #[] #[.pointer (some ⟨w.heap.size, 0, none⟩)]) ∧ w' = w.alloc (.cells #[.slice a n c] 48) := by
  have K : Calls Try.prog 53 #[.slice a n c] w fun e w' => e = .returned (.func (.func 58) #[] #[.pointer (some ⟨w.heap.size, 0, none⟩)]) ∧ w' = w.alloc (.cells #[.slice a n c] 48) := by
    go_enter Try.func53, Try.ntmps53
    go_wp2
    go_ret
    exact ⟨rfl, rfl⟩
  go_enter Try.func43, Try.ntmps43
  go_wp2_with fail
  refine K.mono ?_
  rintro e w1 ⟨rfl, rfl⟩
  go_wp2_with fail
  go_ret
  exact ⟨rfl, rfl⟩
set_option maxRecDepth 100000 in
set_option maxHeartbeats 2000000 in
theorem valuesR_in {α : Type} (enc : α → Value) (m l g n₀ : Nat) (a : Option Addr) (n c : Nat) (xs : List α) (hm : 1 ≤ m) (hl : xs.length = n) (hn : (n : Int) ≤ 9223372036854775807) (J Jx : List α → World → Prop)
    (hY : ∀ pre x W, J pre W → pre.length < n → YieldAt Fence.wide (m - 1) Try.prog l #[enc x] W fun e W' =>
      (e = .returned (.bool true) ∧ J (pre ++ [x]) W' ∧ Below n₀ W W') ∨ (e = .returned (.bool false) ∧ Jx (pre ++ [x]) W'))
    (W : World) (hG : W.cell? ⟨g, 0, none⟩ = some (.slice a n c)) (hH : Holds enc n₀ W a xs) (h0 : J [] W) :
    CallsIn Fence.wide m Try.prog 58 #[.func (.yield l) #[] #[], .pointer (some ⟨g, 0, none⟩)] W fun e W' => (∃ v, e = .returned v) ∧
      ((∃ ys, ys = xs ∧ J ys W') ∨ (∃ pre, pre <+: xs ∧ Jx pre W')) := by
  have HH := Lib.hid hH
  clear hH
  refine callsIn_of_wp Try.func58 rfl trivial ?_ rfl
  simp only [Try.ntmps58, List.size_toArray, List.length_cons, List.length_nil, Nat.reduceAdd, Nat.reduceSub, Array.replicate_succ, Array.replicate_zero, List.push_toArray, List.append_toArray, List.nil_append, List.cons_append]
  gi_wp2
  gi_loopw [7] (fun i wr => ∃ k : Nat, k ≤ n ∧ i = .int .i64 k ∧ J (xs.take k) wr ∧ Below n₀ W wr) (fun i _ => n - (intOf i).toNat)
  case atStart => exact ⟨0, Nat.zero_le _, rfl, h0, Below.refl _ _⟩
  case round =>
    obtain ⟨k, hk, rfl, hJs, hnx⟩ := hrel
    by_cases hlt : k < n
    · obtain ⟨x, hx⟩ : ∃ x, xs[k]? = some x := ⟨_, List.getElem?_eq_getElem (by omega)⟩
      obtain ⟨ad, rfl, hc, _⟩ := HH.out.below hnx k x hx
      obtain ⟨fn, tmps, assign, body, hy, hR⟩ := hY _ x wr hJs (by rw [List.length_take]; omega)
      have HX := Lib.hid (take_more hx)
      clear hx
      gi_wp2
      refine hR.mono ?_
      rintro e W3 (⟨rfl, hJ3, hk3⟩ | ⟨rfl, hJx3⟩)
      · gi_wp2
        go_roundw
        case rel => exact ⟨k + 1, by omega, by go_num, by rw [HX.out]; exact hJ3, hnx.trans hk3⟩
        case measure => simp [intOf]; omega
      · gi_wp2
        refine bodyPost_ret (results_none rfl _ _ _) rfl ?_
        exact ⟨⟨_, rfl⟩, .inr ⟨_, ⟨xs.drop (k + 1), by rw [← HX.out, List.take_append_drop]⟩, hJx3⟩⟩
    · obtain rfl : k = n := by omega
      rw [List.take_of_length_le (by omega)] at hJs
      gi_wp2
      go_end0
      exact ⟨⟨_, rfl⟩, .inl ⟨_, rfl, hJs⟩⟩
theorem valuesR_stops {α : Type} (enc : α → Value) (m g n₀ : Nat) (a : Option Addr) (n c : Nat) (xs : List α) (hm : 1 ≤ m) (hl : xs.length = n) (hn : (n : Int) ≤ 9223372036854775807) (w : World) (hG : w.cell? ⟨g, 0, none⟩ = some (.slice a n c)) (hs : n₀ ≤ w.heap.size) (hH : Holds enc n₀ w a xs) :
    SeqStopsK Fence.wide m Try.prog 58 #[.pointer (some ⟨g, 0, none⟩)] (fun x : α => #[enc x]) (Below n₀) (fun ys => ys = xs) (fun pre => pre <+: xs) n w := fun l J Jx W hW hJ _ hY h0 =>
  valuesR_in enc m l g n₀ a n c xs hm hl hn J Jx hY W (cell_stay hG hW) (hH.below (hW.mono hs)) h0
end Go.Proofs.Ytiaknjeeonlbcaa
