/- Whether a field is there: by the program. -/
import Derived.Test.YtjmabidahofbbaaVal
import Derived.Test.YtjmabidahofbbaaNameI
import Derived.Deep.RegionHeld3
import Derived.Deep.QuietTactic
import Derived.BigQuiet
namespace Go.Proofs.Ytjmabidahofbbaa
open Go.ChangeShapes Go.WideShapes Go.ChangeAt Go.RowKit
set_option linter.unusedVariables false

/-- Whether there is a field i, and its condition is met. -/
def isThere (l : List Fd) (v : List Vl) (i : Int) : Bool :=
  if 0 ≤ i ∧ i ≤ (l.length : Int) - 1 then
    match l[i.toNat]? with
    | some x => if x.cond = -1 then true else decide (0 ≤ x.cond ∧ x.cond ≤ (v.length : Int) - 1) && (match v[x.cond.toNat]? with
      | some y => decide (y.num = x.is)
      | none => false)
    | none => false
  else false
theorem isThere_out {l : List Fd} {v : List Vl} {i : Int} (h : ¬ (0 ≤ i ∧ i ≤ (l.length : Int) - 1)) : isThere l v i = false := if_neg h
theorem isThere_in {l : List Fd} {v : List Vl} {k : Nat} {x : Fd} (h : l[k]? = some x) : isThere l v k = (if x.cond = -1 then true else decide (0 ≤ x.cond ∧ x.cond ≤ (v.length : Int) - 1) && (match v[x.cond.toNat]? with
      | some y => decide (y.num = x.is)
      | none => false)) := by
  have hk := lt_of_some h
  unfold isThere
  rw [if_pos ⟨by omega, by omega⟩, Int.toNat_natCast, h]
theorem isThere_always {l : List Fd} {v : List Vl} {k : Nat} {x : Fd} (h : l[k]? = some x) (hc : x.cond = -1) : isThere l v k = true := by rw [isThere_in h, if_pos hc]
theorem isThere_far {l : List Fd} {v : List Vl} {k : Nat} {x : Fd} (h : l[k]? = some x) (hc : x.cond ≠ -1) (hd : ¬ (0 ≤ x.cond ∧ x.cond ≤ (v.length : Int) - 1)) : isThere l v k = false := by rw [isThere_in h, if_neg hc, decide_eq_false hd]; rfl
theorem isThere_when {l : List Fd} {v : List Vl} {k q : Nat} {x : Fd} {y : Vl} (h : l[k]? = some x) (hc : x.cond = q) (hy : v[q]? = some y) : isThere l v k = (y.num == x.is) := by
  have hq := lt_of_some hy
  rw [isThere_in h, if_neg (by omega), decide_eq_true (by omega), hc, Int.toNat_natCast, hy]
  simp only [Bool.true_and]
  by_cases e : y.num = x.is <;> simp [e]
theorem inR_t {n l h : Int} {x : Bool} (e : decide (l ≤ n ∧ n ≤ h) = x) (w : World) :
    Calls Try.prog 55 #[.int .i64 n, .int .i64 l, .int .i64 h] w fun e w' => e = .returned (.bool x) ∧ w' = w := (inR_any n l h w).mono fun e' w' ⟨h1, h2⟩ => ⟨by rw [h1, e], h2.symm⟩
theorem eqb_dec (x y : Int) : (x == y) = decide (x = y) := by by_cases h : x = y <;> simp [h]

set_option maxHeartbeats 1000000 in
set_option maxRecDepth 100000 in
theorem isThere_any (a : Option Addr) (n c : Nat) (l : List Fd) (b : Option Addr) (m d : Nat) (v : List Vl) (i : Int) (w : World) (h : Fds w a n l) (hv : Vals w b m v) (hn : n ≤ 1000000000) (hm : m ≤ 1000000000) :
    Calls Try.prog 52 #[.slice a n c, .slice b m d, .int .i64 i] w (Told (.bool (isThere l v i)) w) := by
  have H := Lib.hid h
  have HV := Lib.hid hv
  have hl := h.len
  have hvl := hv.len
  clear h hv
  by_cases h1 : 0 ≤ i ∧ i ≤ (n : Int) - 1
  · obtain ⟨k, rfl⟩ : ∃ k : Nat, i = k := ⟨i.toNat, by omega⟩
    have hkn : k < n := by omega
    have e1 : decide ((0 : Int) ≤ (k : Int) ∧ (k : Int) ≤ (n : Int) - 1) = true := decide_eq_true h1
    clear h1
    obtain ⟨bb, o, ⟨xk, xm, xt, xi⟩, rfl, hx, hc0, hc1, hc2, hc3⟩ := fds_at H.out hkn
    dsimp only at hc0 hc1 hc2 hc3
    have HB : Hid (Below w.heap.size w (w.alloc (.cells #[.int .i64 xk, .int .i64 xm, .int .i64 xt, .int .i64 xi] 70))) := Lib.hid (alloc_same w _)
    by_cases h2 : xt = -1
    · have e2 : (xt == -1) = true := by simpa using h2
      rw [isThere_always hx h2]
      clear hx h2
      go_enter Try.func52, Try.ntmps52
      go_wp2_with (go_at_call 55; refine (inR_any _ _ _ _).mono ?_; rw [e1]; rintro e w' ⟨rfl, rfl⟩)
      go_ret
      exact ⟨rfl, HB.out⟩
    · have e2 : (xt == -1) = false := by simpa using h2
      by_cases h3 : 0 ≤ xt ∧ xt ≤ (m : Int) - 1
      · have e3 : decide ((0 : Int) ≤ xt ∧ xt ≤ (m : Int) - 1) = true := decide_eq_true h3
        obtain ⟨q, rfl⟩ : ∃ q : Nat, xt = q := ⟨xt.toNat, by omega⟩
        have hqm : q < m := by omega
        clear h2 h3
        obtain ⟨b2, o2, p2, m2, d2, yk, yl, rfl, hy, hd0, hd1, hN, hr⟩ := HV.out.at_ hqm
        rw [isThere_when hx rfl hy]
        have ha0 : ∀ ob, (w.alloc ob).cell? ⟨b2, o2 + q * 2, none⟩ = some (.int .i64 yk) := fun ob => by rw [(alloc_same w ob).cell (cell_in hd0)]; exact hd0
        clear hx hy hN hd0 hd1
        go_enter Try.func52, Try.ntmps52
        go_wp2_with (go_at_call 55; refine (inR_any _ _ _ _).mono ?_; (first | rw [e1] | rw [e3]); rintro e w' ⟨rfl, rfl⟩)
        go_quiet ((go_at_call 55; exact Calls.quiet_of_same (inR_t e3 _)))
        go_wp2_with fail
        go_ret
        exact ⟨rfl, HB.out.trans ((drewN_same _ _).mono HB.out.size)⟩
      · have e3 : decide ((0 : Int) ≤ xt ∧ xt ≤ (m : Int) - 1) = false := decide_eq_false h3
        rw [isThere_far hx h2 (by rw [hvl]; exact h3)]
        clear hx h2 h3
        go_enter Try.func52, Try.ntmps52
        go_wp2_with (go_at_call 55; refine (inR_any _ _ _ _).mono ?_; (first | rw [e1] | rw [e3]); rintro e w' ⟨rfl, rfl⟩)
        go_quiet ((go_at_call 55; exact Calls.quiet_of_same (inR_t e3 _)))
        go_wp2_with fail
        go_ret
        exact ⟨rfl, HB.out.trans ((drewN_same _ _).mono HB.out.size)⟩
  · have e1 : decide ((0 : Int) ≤ i ∧ i ≤ (n : Int) - 1) = false := decide_eq_false h1
    rw [isThere_out (by rw [hl]; exact h1)]
    clear h1
    go_enter Try.func52, Try.ntmps52
    go_wp2_with (go_at_call 55; refine (inR_any _ _ _ _).mono ?_; rw [e1]; rintro e w' ⟨rfl, rfl⟩)
    go_ret
    exact ⟨rfl, Below.refl _ _⟩
end Go.Proofs.Ytjmabidahofbbaa
