/- Whether a field is there: by the program. Whether a value fits a field: by the program. Lists of integers are compared: by the library. Values are compared: by the program. -/
import Derived.Test.YtcmjadfpifpknaaGreatG2
import Derived.Test.YtcmjadfpifpknaaGreatG1
import Derived.Deep.RegionHeld3
import Derived.Deep.QuietTactic
import Derived.BigQuiet
import Derived.RegionTactic
namespace Go.Proofs.YtcmjadfpifpknaaGreat
open Go.ChangeShapes Go.WideShapes Go.ChangeAt Go.RowKit
set_option linter.unusedVariables false

/-- Whether there is a field i, and its condition is met. -/
def isThere (l : List Fd) (v : List Vl) (i : Int) : Bool :=
  if 0 ≤ i ∧ i ≤ (l.length : Int) - 1 then
    match l[i.toNat]? with
    | some x => if x.cond = -1 then true else decide (0 ≤ x.cond ∧ x.cond ≤ (v.length : Int) - 1) && (match v[x.cond.toNat]? with
      | some y => decide (y.num = x.is)
      | none => false)
    | none => false
  else false
theorem isThere_out {l : List Fd} {v : List Vl} {i : Int} (h : ¬ (0 ≤ i ∧ i ≤ (l.length : Int) - 1)) : isThere l v i = false := if_neg h
theorem isThere_in {l : List Fd} {v : List Vl} {k : Nat} {x : Fd} (h : l[k]? = some x) : isThere l v k = (if x.cond = -1 then true else decide (0 ≤ x.cond ∧ x.cond ≤ (v.length : Int) - 1) && (match v[x.cond.toNat]? with
      | some y => decide (y.num = x.is)
      | none => false)) := by
  have hk := lt_of_some h
  unfold isThere
  rw [if_pos ⟨by omega, by omega⟩, Int.toNat_natCast, h]
theorem isThere_always {l : List Fd} {v : List Vl} {k : Nat} {x : Fd} (h : l[k]? = some x) (hc : x.cond = -1) : isThere l v k = true := by rw [isThere_in h, if_pos hc]
theorem isThere_far {l : List Fd} {v : List Vl} {k : Nat} {x : Fd} (h : l[k]? = some x) (hc : x.cond ≠ -1) (hd : ¬ (0 ≤ x.cond ∧ x.cond ≤ (v.length : Int) - 1)) : isThere l v k = false := by rw [isThere_in h, if_neg hc, decide_eq_false hd]; rfl
theorem isThere_when {l : List Fd} {v : List Vl} {k q : Nat} {x : Fd} {y : Vl} (h : l[k]? = some x) (hc : x.cond = q) (hy : v[q]? = some y) : isThere l v k = (y.num == x.is) := by
  have hq := lt_of_some hy
  rw [isThere_in h, if_neg (by omega), decide_eq_true (by omega), hc, Int.toNat_natCast, hy]
  simp only [Bool.true_and]
  by_cases e : y.num = x.is <;> simp [e]
theorem inR_t {n l h : Int} {x : Bool} (e : decide (l ≤ n ∧ n ≤ h) = x) (w : World) :
    Calls Tryz.prog 55 #[.int .i64 n, .int .i64 l, .int .i64 h] w fun e w' => e = .returned (.bool x) ∧ w' = w := (inR_any n l h w).mono fun e' w' ⟨h1, h2⟩ => ⟨by rw [h1, e], h2.symm⟩
theorem eqb_dec (x y : Int) : (x == y) = decide (x = y) := by by_cases h : x = y <;> simp [h]

end Go.Proofs.YtcmjadfpifpknaaGreat
namespace Go.Proofs.YtcmjadfpifpknaaGreat
open Go.ChangeShapes Go.WideShapes Go.ChangeAt Go.RowKit
set_option linter.unusedVariables false

/-- All integers lie between 0 and g. -/
def allIn (y : List Int) (g : Int) : Bool := y.all fun z => decide (0 ≤ z ∧ z ≤ g)
def fitIts (y : List Int) (most g : Int) : Bool := decide ((y.length : Int) ≤ most) && allIn y g
def fitsField (x : Fd) (k : Int) (y : List Int) : Bool :=
  if x.kind = 1 then decide (0 ≤ k ∧ k ≤ x.max) && decide (y.length = 0)
  else if x.kind = 2 then decide (k = 0) && fitIts y x.max 255
  else if x.kind = 3 then decide (k = 0) && fitIts y x.max 99
  else false
theorem allIn_zero (y : List Int) (g : Int) : allIn (y.take 0) g = true := by simp [allIn]
theorem allIn_step {y : List Int} {j : Nat} {z g : Int} (h : allIn (y.take j) g = true) (hz : y[j]? = some z) (hi : 0 ≤ z ∧ z ≤ g) : allIn (y.take (j + 1)) g = true := by
  unfold allIn at *
  rw [List.take_add_one, hz, Option.toList_some, List.all_append, h]
  simpa using hi
theorem allIn_no {y : List Int} {j : Nat} {z g : Int} (hz : y[j]? = some z) (hi : ¬ (0 ≤ z ∧ z ≤ g)) : allIn y g = false := by
  unfold allIn
  rw [List.all_eq_false]
  exact ⟨z, List.mem_of_getElem? hz, by simpa using hi⟩
set_option maxRecDepth 100000 in
theorem fitItems_any (p : Option Addr) (m c : Nat) (y : List Int) (most g : Int) (w : World) (h : Nums .i64 w p m y) :
    Calls Tryz.prog 159 #[.slice p m c, .int .i64 most, .int .i64 g] w fun e w' => e = .returned (.bool (fitIts y most g)) ∧ w = w' := by
  have H := Lib.hid h
  have hl := h.len
  have hfit := h.fits
  clear h
  by_cases h1 : (m : Int) ≤ most
  · have e1 : fitIts y most g = allIn y g := by unfold fitIts; rw [hl, decide_eq_true h1]; rfl
    rw [e1]
    clear e1
    go_enter Tryz.func159, Tryz.ntmps159
    go_wp2_with fail
    go_loop [15] (fun i => ∃ j : Nat, j ≤ m ∧ i = .int .i64 j ∧ allIn (y.take j) g = true) (fun i => m - (intOf i).toNat)
    case atStart => exact ⟨0, Nat.zero_le _, rfl, allIn_zero _ _⟩
    case round =>
      obtain ⟨j, hj, rfl, hall⟩ := hrel
      have HA := Lib.hid hall
      clear hall
      by_cases hlt : j < m
      · obtain ⟨ad, z, rfl, hz, hc⟩ := H.out.at_ hlt
        by_cases hi : 0 ≤ z ∧ z ≤ g
        · have HS := Lib.hid (allIn_step HA.out hz hi)
          have K := Lib.hid (fun w0 => inR_t (decide_eq_true hi) w0)
          clear hz hi
          go_wp2_with (go_at_call 55; refine (K.out _).mono ?_; rintro e w' ⟨rfl, rfl⟩)
          go_round
          case rel => exact ⟨j + 1, by omega, by go_num, HS.out⟩
          case measure => simp [intOf]; omega
        · have HE := Lib.hid (allIn_no hz hi)
          have K := Lib.hid (fun w0 => inR_t (decide_eq_false hi) w0)
          clear hz hi
          go_wp2_with (go_at_call 55; refine (K.out _).mono ?_; rintro e w' ⟨rfl, rfl⟩)
          go_ret
          exact ⟨by rw [HE.out]; rfl, rfl⟩
      · obtain rfl : j = m := by omega
        have h2 := HA.out
        rw [List.take_of_length_le (by omega)] at h2
        have HE := Lib.hid h2
        clear h2
        go_wp2_with fail
        go_ret
        exact ⟨by rw [HE.out]; rfl, rfl⟩
  · have e1 : fitIts y most g = false := by unfold fitIts; rw [hl, decide_eq_false h1]; rfl
    rw [e1]
    clear e1
    go_enter Tryz.func159, Tryz.ntmps159
    go_wp2_with fail
    go_ret
    exact ⟨rfl, rfl⟩
theorem typeOf_t {k : Int} {v : Value} (e : typeVal k = v) (w : World) : Calls Tryz.prog 158 #[.int .i64 k] w fun e w' => e = .returned v ∧ w = w' := (typeOf_any k w).mono fun e' w' ⟨h1, h2⟩ => ⟨by rw [h1, e], h2⟩
theorem typeVal_no {k : Int} (h1 : k ≠ 1) (h2 : k ≠ 2) (h3 : k ≠ 3) : typeVal k = .iface 188 (.agg #[]) := by simp [typeVal, h1, h2, h3]

theorem is_num_num (w : World) : (Instr.typeAssert (.iface 177 (.agg #[])) 174 177 true).run Tryz.prog w = .ok (.tuple #[.agg #[], .bool true]) w := by kernel_rfl
theorem is_text_num (w : World) : (Instr.typeAssert (.iface 178 (.agg #[])) 174 177 true).run Tryz.prog w = .ok (.tuple #[.agg #[], .bool false]) w := by kernel_rfl
theorem is_list_num (w : World) : (Instr.typeAssert (.iface 180 (.agg #[])) 174 177 true).run Tryz.prog w = .ok (.tuple #[.agg #[], .bool false]) w := by kernel_rfl
theorem is_no_num (w : World) : (Instr.typeAssert (.iface 188 (.agg #[])) 174 177 true).run Tryz.prog w = .ok (.tuple #[.agg #[], .bool false]) w := by kernel_rfl
theorem is_num_text (w : World) : (Instr.typeAssert (.iface 177 (.agg #[])) 174 178 true).run Tryz.prog w = .ok (.tuple #[.agg #[], .bool false]) w := by kernel_rfl
theorem is_text_text (w : World) : (Instr.typeAssert (.iface 178 (.agg #[])) 174 178 true).run Tryz.prog w = .ok (.tuple #[.agg #[], .bool true]) w := by kernel_rfl
theorem is_list_text (w : World) : (Instr.typeAssert (.iface 180 (.agg #[])) 174 178 true).run Tryz.prog w = .ok (.tuple #[.agg #[], .bool false]) w := by kernel_rfl
theorem is_no_text (w : World) : (Instr.typeAssert (.iface 188 (.agg #[])) 174 178 true).run Tryz.prog w = .ok (.tuple #[.agg #[], .bool false]) w := by kernel_rfl
theorem is_num_list (w : World) : (Instr.typeAssert (.iface 177 (.agg #[])) 174 180 true).run Tryz.prog w = .ok (.tuple #[.agg #[], .bool false]) w := by kernel_rfl
theorem is_text_list (w : World) : (Instr.typeAssert (.iface 178 (.agg #[])) 174 180 true).run Tryz.prog w = .ok (.tuple #[.agg #[], .bool false]) w := by kernel_rfl
theorem is_list_list (w : World) : (Instr.typeAssert (.iface 180 (.agg #[])) 174 180 true).run Tryz.prog w = .ok (.tuple #[.agg #[], .bool true]) w := by kernel_rfl
theorem is_no_list (w : World) : (Instr.typeAssert (.iface 188 (.agg #[])) 174 180 true).run Tryz.prog w = .ok (.tuple #[.agg #[], .bool false]) w := by kernel_rfl
set_option maxHeartbeats 2000000 in
set_option maxRecDepth 100000 in
theorem fitsField_any (x : Fd) (k : Int) (p : Option Addr) (m c : Nat) (y : List Int) (w : World) (h : Nums .i64 w p m y) :
    Calls Tryz.prog 140 #[x.val, .agg #[.int .i64 k, .slice p m c]] w (Told (.bool (fitsField x k y)) w) := by
  obtain ⟨xk, xm, xt, xi⟩ := x
  unfold Fd.val
  have hl := h.len
  have KI := Lib.hid (fun (most g : Int) (w0 : World) (hb : Below w.heap.size w w0) => fitItems_any p m c y most g w0 (h.same hb))
  have HB : Hid (Below w.heap.size w ((w.alloc (.cells #[.int .i64 xk, .int .i64 xm, .int .i64 xt, .int .i64 xi] 157)).alloc (.cells #[.int .i64 k, .slice p m c] 160))) := Lib.hid (((Below.refl _ w).alloc (Nat.le_refl _) _).alloc (by simp) _)
  clear h
  by_cases h1 : xk = 1
  · have KT := Lib.hid (fun w0 => typeOf_t (k := xk) (v := .iface 177 (.agg #[])) (by rw [h1]; rfl) w0)
    have Anum := is_num_num
    have ef : fitsField ⟨xk, xm, xt, xi⟩ k y = (decide (0 ≤ k ∧ k ≤ xm) && decide (y.length = 0)) := by unfold fitsField; dsimp only; rw [if_pos h1]
    rw [ef]
    clear ef h1
    by_cases h2 : 0 ≤ k ∧ k ≤ xm
    · have KR := Lib.hid (fun w0 => inR_t (decide_eq_true h2) w0)
      rw [decide_eq_true h2]
      clear h2
      go_enter Tryz.func140, Tryz.ntmps140
      go_wp2_with (first | (go_at_call 158; refine (KT.out _).mono ?_; rintro e w' ⟨rfl, rfl⟩) | (go_at_call 55; refine (KR.out _).mono ?_; rintro e w' ⟨rfl, rfl⟩))
      go_ret
      exact ⟨by rw [hl]; by_cases e : m = 0 <;> simp [e], HB.out⟩
    · have KR := Lib.hid (fun w0 => inR_t (decide_eq_false h2) w0)
      rw [decide_eq_false h2]
      clear h2
      go_enter Tryz.func140, Tryz.ntmps140
      go_wp2_with (first | (go_at_call 158; refine (KT.out _).mono ?_; rintro e w' ⟨rfl, rfl⟩) | (go_at_call 55; refine (KR.out _).mono ?_; rintro e w' ⟨rfl, rfl⟩))
      go_ret
      exact ⟨rfl, HB.out⟩
  · by_cases h2 : xk = 2
    · have KT := Lib.hid (fun w0 => typeOf_t (k := xk) (v := .iface 178 (.agg #[])) (by rw [h2]; rfl) w0)
      have Anum := is_text_num
      have Atext := is_text_text
      have ef : fitsField ⟨xk, xm, xt, xi⟩ k y = (decide (k = 0) && fitIts y xm 255) := by unfold fitsField; dsimp only; rw [if_neg h1, if_pos h2]
      rw [ef]
      clear ef h1 h2
      by_cases h3 : k = 0
      · have b3 : (k == 0) = true := by simpa using h3
        rw [decide_eq_true h3]
        clear h3
        go_enter Tryz.func140, Tryz.ntmps140
        go_wp2_with (first | (go_at_call 158; refine (KT.out _).mono ?_; rintro e w' ⟨rfl, rfl⟩) | (go_at_call 159; refine (KI.out _ _ _ HB.out).mono ?_; rintro e w' ⟨rfl, rfl⟩))
        go_ret
        exact ⟨by simp, HB.out⟩
      · have b3 : (k == 0) = false := by simpa using h3
        rw [decide_eq_false h3]
        clear h3
        go_enter Tryz.func140, Tryz.ntmps140
        go_wp2_with (first | (go_at_call 158; refine (KT.out _).mono ?_; rintro e w' ⟨rfl, rfl⟩) | (go_at_call 159; refine (KI.out _ _ _ HB.out).mono ?_; rintro e w' ⟨rfl, rfl⟩))
        go_ret
        exact ⟨rfl, HB.out⟩
    · by_cases h2' : xk = 3
      · have KT := Lib.hid (fun w0 => typeOf_t (k := xk) (v := .iface 180 (.agg #[])) (by rw [h2']; rfl) w0)
        have Anum := is_list_num
        have Atext := is_list_text
        have Alist := is_list_list
        have ef : fitsField ⟨xk, xm, xt, xi⟩ k y = (decide (k = 0) && fitIts y xm 99) := by unfold fitsField; dsimp only; rw [if_neg h1, if_neg h2, if_pos h2']
        rw [ef]
        clear ef h1 h2 h2'
        by_cases h3 : k = 0
        · have b3 : (k == 0) = true := by simpa using h3
          rw [decide_eq_true h3]
          clear h3
          go_enter Tryz.func140, Tryz.ntmps140
          go_wp2_with (first | (go_at_call 158; refine (KT.out _).mono ?_; rintro e w' ⟨rfl, rfl⟩) | (go_at_call 159; refine (KI.out _ _ _ HB.out).mono ?_; rintro e w' ⟨rfl, rfl⟩))
          go_ret
          exact ⟨by simp, HB.out⟩
        · have b3 : (k == 0) = false := by simpa using h3
          rw [decide_eq_false h3]
          clear h3
          go_enter Tryz.func140, Tryz.ntmps140
          go_wp2_with (first | (go_at_call 158; refine (KT.out _).mono ?_; rintro e w' ⟨rfl, rfl⟩) | (go_at_call 159; refine (KI.out _ _ _ HB.out).mono ?_; rintro e w' ⟨rfl, rfl⟩))
          go_ret
          exact ⟨rfl, HB.out⟩
      · have KT := Lib.hid (fun w0 => typeOf_t (k := xk) (typeVal_no h1 h2 h2') w0)
        have Anum := is_no_num
        have Atext := is_no_text
        have Alist := is_no_list
        have ef : fitsField ⟨xk, xm, xt, xi⟩ k y = false := by unfold fitsField; dsimp only; rw [if_neg h1, if_neg h2, if_neg h2']
        rw [ef]
        clear ef h1 h2 h2'
        go_enter Tryz.func140, Tryz.ntmps140
        go_wp2_with (go_at_call 158; refine (KT.out _).mono ?_; rintro e w' ⟨rfl, rfl⟩)
        go_ret
        exact ⟨rfl, HB.out⟩
end Go.Proofs.YtcmjadfpifpknaaGreat
namespace Go.Proofs.YtcmjadfpifpknaaGreat
open Go.ChangeShapes Go.WideShapes Go.ChangeAt Go.RowKit
set_option linter.unusedVariables false

set_option maxRecDepth 100000 in
theorem slicesEqual_yes {a b : Option Addr} {n m c d : Nat} {l : List Int} {w : World} (h : Nums .i64 w a n l) (h' : Nums .i64 w b m l) :
    Calls Tryz.prog 95 #[.slice a n c, .slice b m d] w (Told (.bool true) w) := by
  obtain rfl : n = m := by rw [← h.len, ← h'.len]
  have hn := h.fits
  have H := Lib.hid h
  have H' := Lib.hid h'
  clear h h'
  go_enter Tryz.func95, Tryz.ntmps95
  go_wp2
  go_loopw [13] (fun i wr => ∃ j : Nat, j ≤ n ∧ i = .int .i64 j ∧ Below w.heap.size w wr) (fun i _ => n - (intOf i).toNat)
  case atStart => exact ⟨0, Nat.zero_le _, rfl, Below.refl _ _⟩
  case round =>
    obtain ⟨j, hj, rfl, hb⟩ := hrel
    have HB := Lib.hid hb
    clear hb
    by_cases hlt : j < n
    · obtain ⟨ad, x, rfl, hx, hc⟩ := (H.out.same HB.out).at_ hlt
      obtain ⟨be, y, rfl, hy, hc'⟩ := (H'.out.same HB.out).at_ hlt
      rw [hx] at hy
      cases hy
      clear hx
      go_wp2
      go_quiet (fail)
      go_wp2
      go_roundw
      case rel => exact ⟨j + 1, by omega, by go_num, HB.out.trans ((drewN_same _ _).mono HB.out.size)⟩
      case measure => simp [intOf]; omega
    · go_wp2
      go_ret
      exact ⟨rfl, HB.out⟩
set_option maxRecDepth 100000 in
theorem slicesEqual_no {a b : Option Addr} {n m c d : Nat} {l l' : List Int} {w : World} (h : Nums .i64 w a n l) (h' : Nums .i64 w b m l') (hne : l ≠ l') :
    Calls Tryz.prog 95 #[.slice a n c, .slice b m d] w (Told (.bool false) w) := by
  have hn := h.fits
  have hm := h'.fits
  have H := Lib.hid h
  have H' := Lib.hid h'
  have HE := Lib.hid hne
  clear h h' hne
  by_cases hnm : n = m
  · subst hnm
    go_enter Tryz.func95, Tryz.ntmps95
    go_wp2
    go_loopw [13] (fun i wr => ∃ j : Nat, j ≤ n ∧ i = .int .i64 j ∧ l.take j = l'.take j ∧ Below w.heap.size w wr) (fun i _ => n - (intOf i).toNat)
    case atStart => exact ⟨0, Nat.zero_le _, rfl, rfl, Below.refl _ _⟩
    case round =>
      obtain ⟨j, hj, rfl, ht, hb⟩ := hrel
      have HB := Lib.hid hb
      have HT := Lib.hid ht
      clear hb ht
      by_cases hlt : j < n
      · obtain ⟨ad, x, rfl, hx, hc⟩ := (H.out.same HB.out).at_ hlt
        obtain ⟨be, y, rfl, hy, hc'⟩ := (H'.out.same HB.out).at_ hlt
        have HX := Lib.hid hx
        have HY := Lib.hid hy
        clear hx hy
        by_cases hxy : x = y
        · subst hxy
          go_wp2
          go_quiet (fail)
          go_wp2
          go_roundw
          case rel => exact ⟨j + 1, by omega, by go_num, by rw [List.take_add_one, List.take_add_one, HX.out, HY.out, HT.out], HB.out.trans ((drewN_same _ _).mono HB.out.size)⟩
          case measure => simp [intOf]; omega
        · have hq : (x != y) = true := by simp [hxy]
          clear hxy
          go_wp2
          go_quiet (fail)
          go_wp2
          go_ret
          exact ⟨rfl, HB.out.trans ((drewN_same _ _).mono HB.out.size)⟩
      · exfalso
        have h1 := HT.out
        rw [List.take_of_length_le (by rw [H.out.len]; omega), List.take_of_length_le (by rw [H'.out.len]; omega)] at h1
        exact HE.out h1
  · have hq : ((n : Int) != (m : Int)) = true := by simp; omega
    clear hnm
    go_enter Tryz.func95, Tryz.ntmps95
    go_wp2
    go_ret
    exact ⟨rfl, Below.refl _ _⟩
end Go.Proofs.YtcmjadfpifpknaaGreat
namespace Go.Proofs.YtcmjadfpifpknaaGreat
open Go.ChangeShapes Go.WideShapes Go.ChangeAt Go.RowKit
set_option linter.unusedVariables false

end Go.Proofs.YtcmjadfpifpknaaGreat
