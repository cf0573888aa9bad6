/- Being a format: by the program and by its model. -/
import Derived.Test.YtjmabidahofbbaaFieldT
import Derived.Test.YtjmabidahofbbaaNameI
import Derived.Deep.RegionHeld3
namespace Go.Proofs.Ytjmabidahofbbaa
open Go.ChangeShapes Go.WideShapes Go.ChangeAt Go.RowKit
set_option linter.unusedVariables false

theorem beq_dec (x y : Int) : (x == y) = decide (x = y) := by by_cases h : x = y <;> simp [h]
/-- The condition of a field behind the fields l looks back at a number that is there always, and at a value that it can have. -/
def condOk (l : List Fd) (x : Fd) : Bool :=
  if x.cond = -1 then decide (x.is = 0)
  else decide (0 ≤ x.cond ∧ x.cond ≤ (l.length : Int) - 1) && (match l[x.cond.toNat]? with
    | some g => decide (g.kind = 1) && decide (g.cond = -1) && decide (0 ≤ x.is ∧ x.is ≤ g.max)
    | none => false)
def fieldOk (l : List Fd) (x : Fd) : Bool := decide (1 ≤ x.max ∧ x.max ≤ mostOf x.kind) && condOk l x
/-- The first j fields are as they must be. -/
def okTo (l : List Fd) (j : Nat) : Prop := ∀ i x, i < j → l[i]? = some x → fieldOk (l.take i) x = true
def IsFmt (l : List Fd) : Prop := (1 ≤ l.length ∧ l.length ≤ 6) ∧ okTo l l.length
noncomputable def isFmt (l : List Fd) : Bool := @decide (IsFmt l) (Classical.propDecidable _)

set_option maxRecDepth 100000 in
theorem condAfter_any (a : Option Addr) (n c : Nat) (l : List Fd) (x : Fd) (w : World) (h : Fds w a n l) (hn : n ≤ 1000000000) :
    Calls Try.prog 57 #[.slice a n c, x.val] w (Told (.bool (condOk l x)) w) := by
  have H := Lib.hid h
  have hl := h.len
  clear h
  unfold Fd.val
  by_cases h1 : x.cond = -1
  · have e1 : (x.cond == -1) = true := by simpa using h1
    have e2 : condOk l x = decide (x.is = 0) := by simp [condOk, h1]
    rw [e2, h1]
    clear e2 e1 h1
    go_enter Try.func57, Try.ntmps57
    go_wp2
    go_ret
    exact ⟨by rw [beq_dec]; rfl, (Below.refl _ w).alloc (Nat.le_refl _) _⟩
  · have e1 : (x.cond == -1) = false := by simpa using h1
    by_cases h2 : 0 ≤ x.cond ∧ x.cond ≤ (l.length : Int) - 1
    · have e2 : decide (0 ≤ x.cond ∧ x.cond ≤ (n : Int) - 1) = true := by rw [← hl]; simpa using h2
      obtain ⟨k, hk⟩ : ∃ k : Nat, x.cond = k := ⟨x.cond.toNat, by omega⟩
      have hkn : k < n := by omega
      obtain ⟨b, o, g, rfl, hg, hc0, hc1, hc2, hc3⟩ := fds_at H.out (j := k) hkn
      have e3 : condOk l x = (decide (g.kind = 1) && decide (g.cond = -1) && decide (0 ≤ x.is ∧ x.is ≤ g.max)) := by
        unfold condOk
        rw [if_neg h1, decide_eq_true h2, hk, Int.toNat_natCast, hg]
        rfl
      rw [e3]
      rw [hk] at e1 e2 ⊢
      have ha0 : ∀ ob, (w.alloc ob).cell? ⟨b, o + k * 4, none⟩ = some (.int .i64 g.kind) := fun ob => by rw [(alloc_same w ob).cell (cell_in hc0)]; exact hc0
      have ha1 : ∀ ob, (w.alloc ob).cell? ⟨b, o + k * 4 + 1, none⟩ = some (.int .i64 g.max) := fun ob => by rw [(alloc_same w ob).cell (cell_in hc1)]; exact hc1
      have ha2 : ∀ ob, (w.alloc ob).cell? ⟨b, o + k * 4 + 2, none⟩ = some (.int .i64 g.cond) := fun ob => by rw [(alloc_same w ob).cell (cell_in hc2)]; exact hc2
      have ha3 : ∀ ob, (w.alloc ob).cell? ⟨b, o + k * 4 + 3, none⟩ = some (.int .i64 g.is) := fun ob => by rw [(alloc_same w ob).cell (cell_in hc3)]; exact hc3
      clear e3 h2 hg hc0 hc1 hc2 hc3
      by_cases q1 : g.kind = 1
      · have b1 : (g.kind == 1) = true := by simpa using q1
        by_cases q2 : g.cond = -1
        · have b2 : (g.cond == -1) = true := by simpa using q2
          rw [decide_eq_true q1, decide_eq_true q2]
          clear q1 q2
          go_enter Try.func57, Try.ntmps57
          go_wp2_with (go_at_call 55; refine (inR_any _ _ _ _).mono ?_; first | (rw [e2]; rintro e w' ⟨rfl, rfl⟩) | rintro e w' ⟨rfl, rfl⟩)
          go_ret
          exact ⟨by simp, ((Below.refl _ w).alloc (Nat.le_refl _) _).alloc (by simp) _⟩
        · have b2 : (g.cond == -1) = false := by simpa using q2
          rw [decide_eq_true q1, decide_eq_false q2]
          clear q1 q2
          go_enter Try.func57, Try.ntmps57
          go_wp2_with (go_at_call 55; refine (inR_any _ _ _ _).mono ?_; first | (rw [e2]; rintro e w' ⟨rfl, rfl⟩) | rintro e w' ⟨rfl, rfl⟩)
          go_ret
          exact ⟨by simp, ((Below.refl _ w).alloc (Nat.le_refl _) _).alloc (by simp) _⟩
      · have b1 : (g.kind == 1) = false := by simpa using q1
        rw [decide_eq_false q1]
        clear q1
        go_enter Try.func57, Try.ntmps57
        go_wp2_with (go_at_call 55; refine (inR_any _ _ _ _).mono ?_; first | (rw [e2]; rintro e w' ⟨rfl, rfl⟩) | rintro e w' ⟨rfl, rfl⟩)
        go_ret
        exact ⟨by simp, ((Below.refl _ w).alloc (Nat.le_refl _) _).alloc (by simp) _⟩
    · have e2 : decide (0 ≤ x.cond ∧ x.cond ≤ (n : Int) - 1) = false := by rw [← hl]; simpa using h2
      have e3 : condOk l x = false := by unfold condOk; rw [if_neg h1, decide_eq_false h2]; rfl
      rw [e3]
      clear e3
      go_enter Try.func57, Try.ntmps57
      go_wp2_with (go_at_call 55; refine (inR_any _ _ _ _).mono ?_; rw [e2]; rintro e w' ⟨rfl, rfl⟩)
      go_ret
      exact ⟨rfl, (Below.refl _ w).alloc (Nat.le_refl _) _⟩
end Go.Proofs.Ytjmabidahofbbaa
