/- What two lists of numbers have in common, a list without a number, the greatest common version, a version added and taken away, the runs: by the model. -/
import Derived.Test.YtejnghnmmeiioaaVrM
import Derived.Test.YtejnghnmmeiioaaPut4
import Derived.Test.YtejnghnmmeiioaaAdv
namespace Go.Proofs.Ytejnghnmmeiioaa
open Go.ChangeShapes Go.WideShapes Go.ChangeAt Go.RowKit
set_option linter.unusedVariables false
set_option linter.unusedSimpArgs false

set_option maxHeartbeats 4000000 in
set_option maxRecDepth 100000 in
theorem specCommonOf_any {a b : Option Addr} {n m c d : Nat} {l l' : List Int} {w : World} (h : Nums .i64 w a n l) (h' : Nums .i64 w b m l') (hn : n ≤ 1048576000) :
    Calls Try.prog 25 #[.slice a n c, .slice b m d] w (Made .i64 3 w.heap.size (common l l') w) := by
  have H := Lib.hid h
  have H' := Lib.hid h'
  have hl := Lib.hid h.len
  obtain ⟨i0, hi, hz0, hz1, hz2⟩ := info_parts infoIntS
  have HI := Lib.hid (And.intro hi (And.intro hz0 (And.intro hz1 hz2)))
  clear hi hz0 hz1 hz2
  unfold Made
  have KO := Lib.hid (Own.empty (k := .i64) (t := 3) (w := w) (B := w.heap.size) (Nat.le_refl _))
  clear h h'
  go_enter Try.func25, Try.ntmps25
  go_wp2_with fail
  go_loopw [5, 6] (fun s i wr => ∃ (a' : Option Addr) (c' n' j : Nat), s = .slice a' n' c' ∧ i = .int .i64 (j : Int) ∧ j ≤ n ∧ Own .i64 3 wr w.heap.size a' n' c' (common (l.take j) l') ∧ Below w.heap.size w wr) (fun _ i _ => n - (intOf i).toNat)
  case atStart => exact ⟨_, _, _, 0, rfl, rfl, Nat.zero_le _, by rw [List.take_zero]; exact KO.out, alloc_same _ _⟩
  case round =>
    obtain ⟨a', c', n', j, rfl, rfl, hj, ho, hb⟩ := hrel
    have HO := Lib.hid ho
    have HB := Lib.hid hb
    have hn9 : n' ≤ 1048576000 := by
      have h1 := ho.len
      have h2 := common_few (l.take j) l'
      rw [List.length_take] at h2
      omega
    have hsw : w.heap.size ≤ wr.heap.size := hb.size
    clear ho hb
    by_cases hlt : j < n
    · obtain ⟨ad, z, rfl, hx, hc⟩ := (H.out.same HB.out).at_ hlt
      have HV := Lib.hid (l9Has_any (c := d) z (H'.out.same HB.out))
      cases hq : decide (z ∈ l') with
      | true =>
        have HY := Lib.hid (common_yes hx (of_decide_eq_true hq))
        rw [hq] at HV
        clear hq hx
        go_wp2_with fail
        refine HV.out.mono ?_
        rintro e w2 ⟨rfl, rfl⟩
        go_wp2_with (at_builtin; refine wpl_app _ rfl (.tmp 20) (.tmp 25) 24 rfl .i64 3 i0 (.int .i64 0) 8 Try.underlying24 HI.out.1 HI.out.2.1 HI.out.2.2.1 HI.out.2.2.2 rfl rfl (HO.out.alloc _) rfl (nums_new _ _ _ _) (by omega) ?c6 ?c7 ?_)
        case c6 => omega
        case c7 => simp; omega
        intro a3 c3 w3 ho3 hb3
        have HO3 := Lib.hid ho3
        have HB3 := Lib.hid hb3
        clear ho3 hb3
        go_wp2
        go_roundw
        case rel => exact ⟨a3, c3, _, j + 1, rfl, by go_num, by omega, by rw [HY.out]; exact HO3.out, HB.out.trans (((alloc_same _ _).mono hsw).trans HB3.out)⟩
        case measure => simp [intOf]; omega
      | false =>
        have HY := Lib.hid (common_no hx (of_decide_eq_false hq))
        rw [hq] at HV
        clear hq hx
        go_wp2_with fail
        refine HV.out.mono ?_
        rintro e w2 ⟨rfl, rfl⟩
        go_wp2
        go_roundw
        case rel => exact ⟨a', c', n', j + 1, rfl, by go_num, by omega, by rw [HY.out]; exact HO.out, HB.out⟩
        case measure => simp [intOf]; omega
    · obtain rfl : j = n := by omega
      have HY : Hid (common (l.take j) l' = common l l') := Lib.hid (by rw [← hl.out, List.take_length])
      go_wp2
      go_ret
      exact ⟨_, _, _, rfl, by rw [← HY.out]; exact HO.out, HB.out⟩
set_option maxHeartbeats 4000000 in
set_option maxRecDepth 100000 in
theorem without_any {a : Option Addr} {n c : Nat} {l : List Int} (v : Int) {w : World} (h : Nums .i64 w a n l) (hn : n ≤ 1048576000) :
    Calls Try.prog 47 #[.slice a n c, .int .i64 v] w (Made .i64 3 w.heap.size (without l v) w) := by
  have H := Lib.hid h
  have hl := Lib.hid h.len
  obtain ⟨i0, hi, hz0, hz1, hz2⟩ := info_parts infoIntS
  have HI := Lib.hid (And.intro hi (And.intro hz0 (And.intro hz1 hz2)))
  clear hi hz0 hz1 hz2
  unfold Made
  have KO := Lib.hid (Own.empty (k := .i64) (t := 3) (w := w) (B := w.heap.size) (Nat.le_refl _))
  clear h
  go_enter Try.func47, Try.ntmps47
  go_wp2_with fail
  go_loopw [5, 6] (fun s i wr => ∃ (a' : Option Addr) (c' n' j : Nat), s = .slice a' n' c' ∧ i = .int .i64 (j : Int) ∧ j ≤ n ∧ Own .i64 3 wr w.heap.size a' n' c' (without (l.take j) v) ∧ Below w.heap.size w wr) (fun _ i _ => n - (intOf i).toNat)
  case atStart => exact ⟨_, _, _, 0, rfl, rfl, Nat.zero_le _, by rw [List.take_zero]; exact KO.out, alloc_same _ _⟩
  case round =>
    obtain ⟨a', c', n', j, rfl, rfl, hj, ho, hb⟩ := hrel
    have HO := Lib.hid ho
    have HB := Lib.hid hb
    have hn9 : n' ≤ 1048576000 := by
      have h1 := ho.len
      have h2 := without_few (l.take j) v
      rw [List.length_take] at h2
      omega
    have hsw : w.heap.size ≤ wr.heap.size := hb.size
    clear ho hb
    by_cases hlt : j < n
    · obtain ⟨ad, z, rfl, hx, hc⟩ := (H.out.same HB.out).at_ hlt
      by_cases hq : z = v
      · have HY := Lib.hid (without_no hx hq)
        have hb0 : (z == v) = true := by simpa using hq
        have hb1 : (z != v) = false := by simp [hq]
        clear hq hx
        go_wp2
        go_roundw
        case rel => exact ⟨a', c', n', j + 1, rfl, by go_num, by omega, by rw [HY.out]; exact HO.out, HB.out⟩
        case measure => simp [intOf]; omega
      · have HY := Lib.hid (without_yes hx hq)
        have hb0 : (z == v) = false := by simpa using hq
        have hb1 : (z != v) = true := by simpa using hq
        clear hq hx
        go_wp2_with (at_builtin; refine wpl_app _ rfl (.tmp 20) (.tmp 25) 24 rfl .i64 3 i0 (.int .i64 0) 8 Try.underlying24 HI.out.1 HI.out.2.1 HI.out.2.2.1 HI.out.2.2.2 rfl rfl (HO.out.alloc _) rfl (nums_new _ _ _ _) (by omega) ?c6 ?c7 ?_)
        case c6 => omega
        case c7 => simp; omega
        intro a3 c3 w3 ho3 hb3
        have HO3 := Lib.hid ho3
        have HB3 := Lib.hid hb3
        clear ho3 hb3
        go_wp2
        go_roundw
        case rel => exact ⟨a3, c3, _, j + 1, rfl, by go_num, by omega, by rw [HY.out]; exact HO3.out, HB.out.trans (((alloc_same _ _).mono hsw).trans HB3.out)⟩
        case measure => simp [intOf]; omega
    · obtain rfl : j = n := by omega
      have HY : Hid (without (l.take j) v = without l v) := Lib.hid (by rw [← hl.out, List.take_length])
      go_wp2
      go_ret
      exact ⟨_, _, _, rfl, by rw [← HY.out]; exact HO.out, HB.out⟩
end Go.Proofs.Ytejnghnmmeiioaa
