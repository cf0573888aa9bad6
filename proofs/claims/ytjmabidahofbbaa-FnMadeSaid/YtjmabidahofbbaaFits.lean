/- Whether a value fits a field: by the program. -/
import Derived.Test.YtjmabidahofbbaaThere
namespace Go.Proofs.Ytjmabidahofbbaa
open Go.ChangeShapes Go.WideShapes Go.ChangeAt Go.RowKit
set_option linter.unusedVariables false

/-- All integers lie between 0 and g. -/
def allIn (y : List Int) (g : Int) : Bool := y.all fun z => decide (0 ≤ z ∧ z ≤ g)
def fitIts (y : List Int) (most g : Int) : Bool := decide ((y.length : Int) ≤ most) && allIn y g
def fitsField (x : Fd) (k : Int) (y : List Int) : Bool :=
  if x.kind = 1 then decide (0 ≤ k ∧ k ≤ x.max) && decide (y.length = 0)
  else if x.kind = 2 then decide (k = 0) && fitIts y x.max 255
  else if x.kind = 3 then decide (k = 0) && fitIts y x.max 99
  else false
theorem allIn_zero (y : List Int) (g : Int) : allIn (y.take 0) g = true := by simp [allIn]
theorem allIn_step {y : List Int} {j : Nat} {z g : Int} (h : allIn (y.take j) g = true) (hz : y[j]? = some z) (hi : 0 ≤ z ∧ z ≤ g) : allIn (y.take (j + 1)) g = true := by
  unfold allIn at *
  rw [List.take_add_one, hz, Option.toList_some, List.all_append, h]
  simpa using hi
theorem allIn_no {y : List Int} {j : Nat} {z g : Int} (hz : y[j]? = some z) (hi : ¬ (0 ≤ z ∧ z ≤ g)) : allIn y g = false := by
  unfold allIn
  rw [List.all_eq_false]
  exact ⟨z, List.mem_of_getElem? hz, by simpa using hi⟩
set_option maxRecDepth 100000 in
theorem fitItems_any (p : Option Addr) (m c : Nat) (y : List Int) (most g : Int) (w : World) (h : Nums .i64 w p m y) :
    Calls Try.prog 85 #[.slice p m c, .int .i64 most, .int .i64 g] w fun e w' => e = .returned (.bool (fitIts y most g)) ∧ w = w' := by
  have H := Lib.hid h
  have hl := h.len
  have hfit := h.fits
  clear h
  by_cases h1 : (m : Int) ≤ most
  · have e1 : fitIts y most g = allIn y g := by unfold fitIts; rw [hl, decide_eq_true h1]; rfl
    rw [e1]
    clear e1
    go_enter Try.func85, Try.ntmps85
    go_wp2_with fail
    go_loop [15] (fun i => ∃ j : Nat, j ≤ m ∧ i = .int .i64 j ∧ allIn (y.take j) g = true) (fun i => m - (intOf i).toNat)
    case atStart => exact ⟨0, Nat.zero_le _, rfl, allIn_zero _ _⟩
    case round =>
      obtain ⟨j, hj, rfl, hall⟩ := hrel
      have HA := Lib.hid hall
      clear hall
      by_cases hlt : j < m
      · obtain ⟨ad, z, rfl, hz, hc⟩ := H.out.at_ hlt
        by_cases hi : 0 ≤ z ∧ z ≤ g
        · have HS := Lib.hid (allIn_step HA.out hz hi)
          have K := Lib.hid (fun w0 => inR_t (decide_eq_true hi) w0)
          clear hz hi
          go_wp2_with (go_at_call 55; refine (K.out _).mono ?_; rintro e w' ⟨rfl, rfl⟩)
          go_round
          case rel => exact ⟨j + 1, by omega, by go_num, HS.out⟩
          case measure => simp [intOf]; omega
        · have HE := Lib.hid (allIn_no hz hi)
          have K := Lib.hid (fun w0 => inR_t (decide_eq_false hi) w0)
          clear hz hi
          go_wp2_with (go_at_call 55; refine (K.out _).mono ?_; rintro e w' ⟨rfl, rfl⟩)
          go_ret
          exact ⟨by rw [HE.out]; rfl, rfl⟩
      · obtain rfl : j = m := by omega
        have h2 := HA.out
        rw [List.take_of_length_le (by omega)] at h2
        have HE := Lib.hid h2
        clear h2
        go_wp2_with fail
        go_ret
        exact ⟨by rw [HE.out]; rfl, rfl⟩
  · have e1 : fitIts y most g = false := by unfold fitIts; rw [hl, decide_eq_false h1]; rfl
    rw [e1]
    clear e1
    go_enter Try.func85, Try.ntmps85
    go_wp2_with fail
    go_ret
    exact ⟨rfl, rfl⟩
theorem typeOf_t {k : Int} {v : Value} (e : typeVal k = v) (w : World) : Calls Try.prog 56 #[.int .i64 k] w fun e w' => e = .returned v ∧ w = w' := (typeOf_any k w).mono fun e' w' ⟨h1, h2⟩ => ⟨by rw [h1, e], h2⟩
theorem typeVal_no {k : Int} (h1 : k ≠ 1) (h2 : k ≠ 2) (h3 : k ≠ 3) : typeVal k = .iface 120 (.agg #[]) := by simp [typeVal, h1, h2, h3]

theorem is_num_num (w : World) : (Instr.typeAssert (.iface 117 (.agg #[])) 79 117 true).run Try.prog w = .ok (.tuple #[.agg #[], .bool true]) w := by kernel_rfl
theorem is_text_num (w : World) : (Instr.typeAssert (.iface 118 (.agg #[])) 79 117 true).run Try.prog w = .ok (.tuple #[.agg #[], .bool false]) w := by kernel_rfl
theorem is_list_num (w : World) : (Instr.typeAssert (.iface 119 (.agg #[])) 79 117 true).run Try.prog w = .ok (.tuple #[.agg #[], .bool false]) w := by kernel_rfl
theorem is_no_num (w : World) : (Instr.typeAssert (.iface 120 (.agg #[])) 79 117 true).run Try.prog w = .ok (.tuple #[.agg #[], .bool false]) w := by kernel_rfl
theorem is_num_text (w : World) : (Instr.typeAssert (.iface 117 (.agg #[])) 79 118 true).run Try.prog w = .ok (.tuple #[.agg #[], .bool false]) w := by kernel_rfl
theorem is_text_text (w : World) : (Instr.typeAssert (.iface 118 (.agg #[])) 79 118 true).run Try.prog w = .ok (.tuple #[.agg #[], .bool true]) w := by kernel_rfl
theorem is_list_text (w : World) : (Instr.typeAssert (.iface 119 (.agg #[])) 79 118 true).run Try.prog w = .ok (.tuple #[.agg #[], .bool false]) w := by kernel_rfl
theorem is_no_text (w : World) : (Instr.typeAssert (.iface 120 (.agg #[])) 79 118 true).run Try.prog w = .ok (.tuple #[.agg #[], .bool false]) w := by kernel_rfl
theorem is_num_list (w : World) : (Instr.typeAssert (.iface 117 (.agg #[])) 79 119 true).run Try.prog w = .ok (.tuple #[.agg #[], .bool false]) w := by kernel_rfl
theorem is_text_list (w : World) : (Instr.typeAssert (.iface 118 (.agg #[])) 79 119 true).run Try.prog w = .ok (.tuple #[.agg #[], .bool false]) w := by kernel_rfl
theorem is_list_list (w : World) : (Instr.typeAssert (.iface 119 (.agg #[])) 79 119 true).run Try.prog w = .ok (.tuple #[.agg #[], .bool true]) w := by kernel_rfl
theorem is_no_list (w : World) : (Instr.typeAssert (.iface 120 (.agg #[])) 79 119 true).run Try.prog w = .ok (.tuple #[.agg #[], .bool false]) w := by kernel_rfl
set_option maxHeartbeats 2000000 in
set_option maxRecDepth 100000 in
theorem fitsField_any (x : Fd) (k : Int) (p : Option Addr) (m c : Nat) (y : List Int) (w : World) (h : Nums .i64 w p m y) :
    Calls Try.prog 61 #[x.val, .agg #[.int .i64 k, .slice p m c]] w (Told (.bool (fitsField x k y)) w) := by
  obtain ⟨xk, xm, xt, xi⟩ := x
  unfold Fd.val
  have hl := h.len
  have KI := Lib.hid (fun (most g : Int) (w0 : World) (hb : Below w.heap.size w w0) => fitItems_any p m c y most g w0 (h.same hb))
  have HB : Hid (Below w.heap.size w ((w.alloc (.cells #[.int .i64 xk, .int .i64 xm, .int .i64 xt, .int .i64 xi] 70)).alloc (.cells #[.int .i64 k, .slice p m c] 73))) := Lib.hid (((Below.refl _ w).alloc (Nat.le_refl _) _).alloc (by simp) _)
  clear h
  by_cases h1 : xk = 1
  · have KT := Lib.hid (fun w0 => typeOf_t (k := xk) (v := .iface 117 (.agg #[])) (by rw [h1]; rfl) w0)
    have Anum := is_num_num
    have ef : fitsField ⟨xk, xm, xt, xi⟩ k y = (decide (0 ≤ k ∧ k ≤ xm) && decide (y.length = 0)) := by unfold fitsField; dsimp only; rw [if_pos h1]
    rw [ef]
    clear ef h1
    by_cases h2 : 0 ≤ k ∧ k ≤ xm
    · have KR := Lib.hid (fun w0 => inR_t (decide_eq_true h2) w0)
      rw [decide_eq_true h2]
      clear h2
      go_enter Try.func61, Try.ntmps61
      go_wp2_with (first | (go_at_call 56; refine (KT.out _).mono ?_; rintro e w' ⟨rfl, rfl⟩) | (go_at_call 55; refine (KR.out _).mono ?_; rintro e w' ⟨rfl, rfl⟩))
      go_ret
      exact ⟨by rw [hl]; by_cases e : m = 0 <;> simp [e], HB.out⟩
    · have KR := Lib.hid (fun w0 => inR_t (decide_eq_false h2) w0)
      rw [decide_eq_false h2]
      clear h2
      go_enter Try.func61, Try.ntmps61
      go_wp2_with (first | (go_at_call 56; refine (KT.out _).mono ?_; rintro e w' ⟨rfl, rfl⟩) | (go_at_call 55; refine (KR.out _).mono ?_; rintro e w' ⟨rfl, rfl⟩))
      go_ret
      exact ⟨rfl, HB.out⟩
  · by_cases h2 : xk = 2
    · have KT := Lib.hid (fun w0 => typeOf_t (k := xk) (v := .iface 118 (.agg #[])) (by rw [h2]; rfl) w0)
      have Anum := is_text_num
      have Atext := is_text_text
      have ef : fitsField ⟨xk, xm, xt, xi⟩ k y = (decide (k = 0) && fitIts y xm 255) := by unfold fitsField; dsimp only; rw [if_neg h1, if_pos h2]
      rw [ef]
      clear ef h1 h2
      by_cases h3 : k = 0
      · have b3 : (k == 0) = true := by simpa using h3
        rw [decide_eq_true h3]
        clear h3
        go_enter Try.func61, Try.ntmps61
        go_wp2_with (first | (go_at_call 56; refine (KT.out _).mono ?_; rintro e w' ⟨rfl, rfl⟩) | (go_at_call 85; refine (KI.out _ _ _ HB.out).mono ?_; rintro e w' ⟨rfl, rfl⟩))
        go_ret
        exact ⟨by simp, HB.out⟩
      · have b3 : (k == 0) = false := by simpa using h3
        rw [decide_eq_false h3]
        clear h3
        go_enter Try.func61, Try.ntmps61
        go_wp2_with (first | (go_at_call 56; refine (KT.out _).mono ?_; rintro e w' ⟨rfl, rfl⟩) | (go_at_call 85; refine (KI.out _ _ _ HB.out).mono ?_; rintro e w' ⟨rfl, rfl⟩))
        go_ret
        exact ⟨rfl, HB.out⟩
    · by_cases h2' : xk = 3
      · have KT := Lib.hid (fun w0 => typeOf_t (k := xk) (v := .iface 119 (.agg #[])) (by rw [h2']; rfl) w0)
        have Anum := is_list_num
        have Atext := is_list_text
        have Alist := is_list_list
        have ef : fitsField ⟨xk, xm, xt, xi⟩ k y = (decide (k = 0) && fitIts y xm 99) := by unfold fitsField; dsimp only; rw [if_neg h1, if_neg h2, if_pos h2']
        rw [ef]
        clear ef h1 h2 h2'
        by_cases h3 : k = 0
        · have b3 : (k == 0) = true := by simpa using h3
          rw [decide_eq_true h3]
          clear h3
          go_enter Try.func61, Try.ntmps61
          go_wp2_with (first | (go_at_call 56; refine (KT.out _).mono ?_; rintro e w' ⟨rfl, rfl⟩) | (go_at_call 85; refine (KI.out _ _ _ HB.out).mono ?_; rintro e w' ⟨rfl, rfl⟩))
          go_ret
          exact ⟨by simp, HB.out⟩
        · have b3 : (k == 0) = false := by simpa using h3
          rw [decide_eq_false h3]
          clear h3
          go_enter Try.func61, Try.ntmps61
          go_wp2_with (first | (go_at_call 56; refine (KT.out _).mono ?_; rintro e w' ⟨rfl, rfl⟩) | (go_at_call 85; refine (KI.out _ _ _ HB.out).mono ?_; rintro e w' ⟨rfl, rfl⟩))
          go_ret
          exact ⟨rfl, HB.out⟩
      · have KT := Lib.hid (fun w0 => typeOf_t (k := xk) (typeVal_no h1 h2 h2') w0)
        have Anum := is_no_num
        have Atext := is_no_text
        have Alist := is_no_list
        have ef : fitsField ⟨xk, xm, xt, xi⟩ k y = false := by unfold fitsField; dsimp only; rw [if_neg h1, if_neg h2, if_neg h2']
        rw [ef]
        clear ef h1 h2 h2'
        go_enter Try.func61, Try.ntmps61
        go_wp2_with (go_at_call 56; refine (KT.out _).mono ?_; rintro e w' ⟨rfl, rfl⟩)
        go_ret
        exact ⟨rfl, HB.out⟩
end Go.Proofs.Ytjmabidahofbbaa
