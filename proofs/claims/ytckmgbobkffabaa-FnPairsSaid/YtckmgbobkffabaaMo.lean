/- The key of a move; the index of the first move with a key: by the program. -/
import Derived.Test.YtckmgbobkffabaaKm
import Derived.Test.YtckmgbobkffabaaAp
import Derived.Deep.RegionHeld3
import Derived.Deep.QuietTactic
import Derived.BigQuiet
import Derived.RegionTactic
import Derived.Handy
namespace Go.Proofs.Ytckmgbobkffabaa
open Go.ChangeShapes Go.WideShapes Go.ChangeAt Go.RowKit
set_option linter.unusedVariables false
set_option linter.unusedSimpArgs false

set_option maxRecDepth 100000 in
theorem key_any (x : Mv) (w : World) : Calls Try.prog 89 #[x.val] w (Told (.agg #[.int .i64 x.frm, .bool x.send, .int .i64 x.msg]) w) := by
  unfold Mv.val
  go_enter Try.func89, Try.ntmps89
  go_wp2
  go_returns
  exact ⟨rfl, ((Below.refl _ w).alloc (Nat.le_refl _) _).alloc (by simp) _⟩

theorem four_at {w : World} {g : Nat} {t : TypeId} {a b c d : Value} (h : w.heap[g]? = some (.cells #[a, b, c, d] t (0, 0))) :
    w.cell? ⟨g, 0, none⟩ = some a ∧ w.cell? ⟨g, 1, none⟩ = some b ∧ w.cell? ⟨g, 2, none⟩ = some c ∧ w.cell? ⟨g, 3, none⟩ = some d :=
  ⟨(block_cell h 0).trans rfl, (block_cell h 1).trans rfl, (block_cell h 2).trans rfl, (block_cell h 3).trans rfl⟩
set_option maxHeartbeats 1000000 in
set_option maxRecDepth 100000 in
/-- The library's IndexFunc, for a closure that is told by a contract of its own. -/
theorem indexTurn_any {ptr : Value} {p : Mv → Bool} {a : Option Addr} {n c : Nat} {l : List Mv} {w : World} (h : Mvs w a n l)
    (HF : ∀ (x : Mv) (w' : World), Below w.heap.size w w' → Calls Try.prog 88 #[x.val, ptr] w' (Told (.bool (p x)) w')) :
    Calls Try.prog 107 #[.slice a n c, .func (.func 88) #[] #[ptr]] w (Told (.int .i64 (firstAt p l)) w) := by
  have H := Lib.hid h
  have hl := h.len
  have hfit := h.fits
  have HC := Lib.hid HF
  clear h HF
  go_enter Try.func107, Try.ntmps107
  go_wp2_with fail
  go_loopw [8] (fun i wr => ∃ j : Nat, j ≤ n ∧ i = .int .i64 j ∧ (l.take j).any p = false ∧ Below w.heap.size w wr) (fun i _ => n - (intOf i).toNat)
  case atStart => exact ⟨0, Nat.zero_le _, rfl, by simp, Below.refl _ _⟩
  case round =>
    obtain ⟨j, hj, rfl, hno, hb⟩ := hrel
    have HN := Lib.hid hno
    have HB := Lib.hid hb
    clear hno hb
    by_cases hlt : j < n
    · obtain ⟨b1, o1, x, rfl, hx, hc0, hc1, hc2, hc3⟩ := mvs_at (H.out.same HB.out) hlt
      have HR := HC.out x wr HB.out
      unfold Mv.val at HR
      cases hk : p x with
      | true =>
        have HE := Lib.hid (firstAt_hit hx HN.out hk)
        rw [hk] at HR
        have HQ := Lib.hid HR
        clear hx hk HR
        go_wp2_with fail
        refine HQ.out.mono ?_
        rintro e w2 ⟨rfl, hb2⟩
        have HB2 := Lib.hid (HB.out.trans (hb2.mono HB.out.size))
        clear hb2
        go_wp2_with fail
        go_ret
        exact ⟨by rw [HE.out]; try rfl, HB2.out⟩
      | false =>
        have HS : Hid ((l.take (j + 1)).any p = false) := Lib.hid (by
          rw [List.take_add_one, hx, List.any_append, HN.out]
          simp [hk])
        rw [hk] at HR
        have HQ := Lib.hid HR
        clear hx hk HR
        go_wp2_with fail
        refine HQ.out.mono ?_
        rintro e w2 ⟨rfl, hb2⟩
        have HB2 := Lib.hid (HB.out.trans (hb2.mono HB.out.size))
        clear hb2
        go_wp2_with fail
        go_roundw
        case rel => exact ⟨j + 1, by omega, by go_num, HS.out, HB2.out⟩
        case measure => simp [intOf]; omega
    · obtain rfl : j = n := by omega
      have h1 := HN.out
      rw [List.take_of_length_le (by omega)] at h1
      have HE := Lib.hid (firstAt_none h1)
      clear h1
      go_wp2_with fail
      go_ret
      exact ⟨by rw [HE.out]; try rfl, HB.out⟩

end Go.Proofs.Ytckmgbobkffabaa
