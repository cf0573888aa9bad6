/- The versions of a word as a list, by the program; a version added and one taken away. -/
import Derived.Test.YtejnghnmmeiioaaGrt
import Derived.Test.YtejnghnmmeiioaaCpl
namespace Go.Proofs.Ytejnghnmmeiioaa
open Go.ChangeShapes Go.WideShapes Go.ChangeAt Go.RowKit
set_option linter.unusedVariables false
set_option linter.unusedSimpArgs false

theorem lwTo_len (k j : Nat) : (lwTo k j).length ≤ 9 := by
  unfold lwTo
  refine Nat.le_trans (List.length_filter_le _ _) ?_
  rw [List.length_take]
  exact Nat.min_le_right _ _
theorem lwTo_yes {k j : Nat} (hk : k < 512) (hj : j < 9) (h : decide (((j + 1 : Nat) : Int) ∈ lw k) = true) : lwTo k (j + 1) = lwTo k j ++ [((j + 1 : Nat) : Int)] := by
  have e : lwTo k (j + 1) = _ := t_step ⟨k, hk⟩ ⟨j, hj⟩
  have hm := (lw_mem.1 (of_decide_eq_true h)).2
  rw [show (((j + 1 : Nat) : Int)).toNat - 1 = j by omega] at hm
  rw [e]
  dsimp only
  rw [if_pos hm]
  rfl
theorem lwTo_no {k j : Nat} (hk : k < 512) (hj : j < 9) (h : decide (((j + 1 : Nat) : Int) ∈ lw k) = false) : lwTo k (j + 1) = lwTo k j := by
  have e : lwTo k (j + 1) = _ := t_step ⟨k, hk⟩ ⟨j, hj⟩
  have hm : ¬ k.testBit j = true := fun q => of_decide_eq_false h (lw_mem.2 ⟨by omega, by rw [show (((j + 1 : Nat) : Int)).toNat - 1 = j by omega]; exact q⟩)
  rw [e]
  dsimp only
  rw [if_neg hm]
set_option maxRecDepth 100000 in
set_option maxHeartbeats 2000000 in
theorem list_any {k : Nat} (hk : k < 512) (w : World) :
    Calls Try.prog 42 #[.int .u16 (k : Int)] w (Made .i64 3 w.heap.size (lw k) w) := by
  obtain ⟨i0, hi, hz0, hz1, hz2⟩ := info_parts infoIntS
  have HI := Lib.hid (And.intro hi (And.intro hz0 (And.intro hz1 hz2)))
  clear hi hz0 hz1 hz2
  have HG := greatest_any k hk
  have HH := fun n => has_any hk n
  have HT := Lib.hid (t_lwTo ⟨k, hk⟩)
  have h9 : Lib.bitLen k ≤ 9 := (t_great ⟨k, hk⟩).2.2.2.1
  obtain ⟨g, hg⟩ : ∃ g : Nat, Lib.bitLen k = g := ⟨_, rfl⟩
  dsimp only at HT
  rw [hg] at HG HT h9
  clear hg
  have KO := Lib.hid (Own.empty (k := .i64) (t := 3) (w := w) (B := w.heap.size) (Nat.le_refl _))
  unfold Made
  go_enter Try.func42, Try.ntmps42
  go_wp2_with fail
  go_loopw [3, 4] (fun s v wr => ∃ (a' : Option Addr) (c' n' j : Nat), s = .slice a' n' c' ∧ v = .int .i64 ((j + 1 : Nat) : Int) ∧ j ≤ g ∧ Own .i64 3 wr w.heap.size a' n' c' (lwTo k j) ∧ Below w.heap.size w wr) (fun _ v _ => g + 1 - (intOf v).toNat)
  case atStart => exact ⟨_, _, _, 0, rfl, rfl, Nat.zero_le _, by rw [HT.out.2]; exact KO.out, alloc_same _ _⟩
  case round =>
    obtain ⟨a', c', n', j, rfl, rfl, hj, ho, hb⟩ := hrel
    have HO := Lib.hid ho
    have HB := Lib.hid hb
    have hn9 : n' ≤ 9 := by rw [← ho.len]; exact lwTo_len k j
    clear ho hb
    by_cases hlt : j < g
    · go_wp2_with fail
      refine (HG _).mono ?_
      rintro e w2 ⟨rfl, rfl⟩
      cases hm : decide (((j + 1 : Nat) : Int) ∈ lw k) with
      | true =>
        have HY := Lib.hid (lwTo_yes hk (by omega) hm)
        have HV := Lib.hid (HH ((j + 1 : Nat) : Int))
        rw [hm] at HV
        clear hm
        go_wp2_with fail
        refine (HV.out _).mono ?_
        rintro e w2 ⟨rfl, rfl⟩
        go_wp2_with (at_builtin; refine wpl_app _ rfl (.tmp 15) (.tmp 17) 24 rfl .i64 3 i0 (.int .i64 0) 8 Try.underlying24 HI.out.1 HI.out.2.1 HI.out.2.2.1 HI.out.2.2.2 rfl rfl (HO.out.alloc _) rfl (nums_new _ _ _ _) (by omega) ?c6 ?c7 ?_)
        case c6 => omega
        case c7 => have := HB.out.size; simp; omega
        intro a3 c3 w3 ho3 hb3
        have HO3 := Lib.hid ho3
        have HB3 := Lib.hid hb3
        clear ho3 hb3
        go_wp2
        go_roundw
        case rel => exact ⟨a3, c3, _, j + 1, rfl, by go_num, by omega, by rw [HY.out]; exact HO3.out, HB.out.trans (((alloc_same _ _).mono HB.out.size).trans HB3.out)⟩
        case measure => simp [intOf]; omega
      | false =>
        have HY := Lib.hid (lwTo_no hk (by omega) hm)
        have HV := Lib.hid (HH ((j + 1 : Nat) : Int))
        rw [hm] at HV
        clear hm
        go_wp2_with fail
        refine (HV.out _).mono ?_
        rintro e w2 ⟨rfl, rfl⟩
        go_wp2
        go_roundw
        case rel => exact ⟨a', c', n', j + 1, rfl, by go_num, by omega, by rw [HY.out]; exact HO.out, HB.out⟩
        case measure => simp [intOf]; omega
    · obtain rfl : j = g := by omega
      go_wp2_with fail
      refine (HG _).mono ?_
      rintro e w2 ⟨rfl, rfl⟩
      go_wp2
      go_ret
      exact ⟨_, _, _, rfl, by rw [← HT.out.1]; exact HO.out, HB.out⟩
end Go.Proofs.Ytejnghnmmeiioaa
