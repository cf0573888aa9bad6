/- Comparisons, by the program: of two integers, of two entries by their tags, of an entry with a tag. -/
import Derived.Test.YtjmabidahofbbaaSrt0
import Derived.Test.YtjmabidahofbbaaEnt
namespace Go.Proofs.Ytjmabidahofbbaa
open Go.ChangeShapes Go.WideShapes Go.ChangeAt Go.RowKit Go.Sort
set_option linter.unusedVariables false

/-- What cmp.Compare says. -/
def cmpZ (x y : Int) : Int := if x < y then -1 else if y < x then 1 else 0
theorem cmpZ_lt (x y : Int) : cmpZ x y < 0 ↔ x < y := by unfold cmpZ; split <;> (try split) <;> omega
theorem cmpZ_eq (x y : Int) : cmpZ x y = 0 ↔ x = y := by unfold cmpZ; split <;> (try split) <;> omega
set_option maxHeartbeats 1000000 in
set_option maxRecDepth 100000 in
theorem nan_any (x : Int) (w : World) : Calls Try.prog 110 #[.int .i64 x] w (fun e w' => e = .returned (.bool false) ∧ w' = w) := by
  go_enter Try.func110, Try.ntmps110
  go_wp2
  go_ret
  trivial
set_option maxHeartbeats 1000000 in
set_option maxRecDepth 100000 in
theorem cmp_any (x y : Int) (w : World) : Calls Try.prog 93 #[.int .i64 x, .int .i64 y] w (fun e w' => e = .returned (.int .i64 (cmpZ x y)) ∧ w' = w) := by
  have H := fun z (W : World) => nan_any z W
  by_cases h1 : x < y
  · have h : cmpZ x y = -1 := by unfold cmpZ; rw [if_pos h1]
    rw [h]
    go_enter Try.func93, Try.ntmps93
    go_wp2_with (go_at_call 110; refine (H _ _).mono ?_; rintro e w' ⟨rfl, rfl⟩)
    go_ret
    trivial
  · by_cases h2 : y < x
    · have h : cmpZ x y = 1 := by unfold cmpZ; rw [if_neg h1, if_pos h2]
      rw [h]
      go_enter Try.func93, Try.ntmps93
      go_wp2_with (go_at_call 110; refine (H _ _).mono ?_; rintro e w' ⟨rfl, rfl⟩)
      go_ret
      trivial
    · have h : cmpZ x y = 0 := by unfold cmpZ; rw [if_neg h1, if_neg h2]
      rw [h]
      go_enter Try.func93, Try.ntmps93
      go_wp2_with (go_at_call 110; refine (H _ _).mono ?_; rintro e w' ⟨rfl, rfl⟩)
      go_ret
      trivial
set_option maxHeartbeats 1000000 in
set_option maxRecDepth 100000 in
theorem byTag_any (x y : En) (W : World) : Calls Try.prog 92 #[.agg #[.int .i64 x.tag, .int .i64 x.vend, .bool x.old], .agg #[.int .i64 y.tag, .int .i64 y.vend, .bool y.old]] W (fun e w' => e = .returned (.int .i64 (cmpZ x.tag y.tag)) ∧ ∃ q os', w' = grow (W.drewN q) os') := by
  have H := cmp_any x.tag y.tag
  generalize cmpZ x.tag y.tag = r at H ⊢
  go_enter Try.func92, Try.ntmps92
  go_wp2_with (go_at_call 93; refine (H _).mono ?_; rintro e w' ⟨rfl, rfl⟩)
  go_ret
  exact ⟨rfl, 0, _, by rw [alloc_eq_grow, alloc_eq_grow, grow_grow]; rfl⟩
set_option maxHeartbeats 1000000 in
set_option maxRecDepth 100000 in
theorem toTag_any (x : En) (t : Int) (W : World) : Calls Try.prog 96 #[.agg #[.int .i64 x.tag, .int .i64 x.vend, .bool x.old], .int .i64 t] W (fun e w' => e = .returned (.int .i64 (cmpZ x.tag t)) ∧ ∃ q os', w' = grow (W.drewN q) os') := by
  have H := cmp_any x.tag t
  generalize cmpZ x.tag t = r at H ⊢
  go_enter Try.func96, Try.ntmps96
  go_wp2_with (go_at_call 93; refine (H _).mono ?_; rintro e w' ⟨rfl, rfl⟩)
  go_ret
  exact ⟨rfl, 0, _, by rw [alloc_eq_grow]; rfl⟩
end Go.Proofs.Ytjmabidahofbbaa
