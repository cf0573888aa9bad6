/- The helpers of the exact laws at lists of fields: marked. -/
import Derived.Test.YtpbmmepoddbefaaFieldT
import Derived.Deep.QuietTactic
import Derived.BigQuiet
import Derived.RegionTactic
import Derived.StillTailTactics
import Derived.Handy
namespace Go.Proofs.Ytpbmmepoddbefaa
open Go.ChangeShapes Go.WideShapes Go.ChangeAt Go.RowKit
set_option linter.unusedVariables false

/-- The marks that are laid: each one more than the one before. -/
def marksFieldS (j n : Nat) : List Fd := (List.range n).map fun i => ⟨((j + i * 4 : Nat) : Int), ((j + i * 4 + 1 : Nat) : Int), ((j + i * 4 + 2 : Nat) : Int), ((j + i * 4 + 3 : Nat) : Int)⟩
theorem marksFieldS_len (j n : Nat) : (marksFieldS j n).length = n := by simp [marksFieldS]
def partF (j0 j : Nat) (l : List Fd) : List Value := flatOf Fd.enc (marksFieldS j0 j ++ l.drop j)
theorem partF_zero (j0 : Nat) (l : List Fd) : partF j0 0 l = flatOf Fd.enc l := by simp [partF, marksFieldS]
theorem partF_all (j0 n : Nat) (l : List Fd) (h : l.length = n) : partF j0 n l = flatOf Fd.enc (marksFieldS j0 n) := by
  unfold partF
  rw [List.drop_eq_nil_of_le (by omega), List.append_nil]
theorem partF_step {l : List Fd} {i n : Nat} (j : Nat) (hi : i < n) (hn : l.length = n) :
    ((((partF j i l).set (i * 4) (.int .i64 ((j + i * 4 : Nat) : Int))).set (i * 4 + 1) (.int .i64 ((j + i * 4 + 1 : Nat) : Int))).set (i * 4 + 2) (.int .i64 ((j + i * 4 + 2 : Nat) : Int))).set (i * 4 + 3) (.int .i64 ((j + i * 4 + 3 : Nat) : Int)) = partF j (i + 1) l := by
  unfold partF
  rw [flatOf_app, List.drop_eq_getElem_cons (by omega), show flatOf Fd.enc (l[i] :: l.drop (i + 1)) = .int .i64 l[i].kind :: .int .i64 l[i].max :: .int .i64 l[i].cond :: .int .i64 l[i].is :: flatOf Fd.enc (l.drop (i + 1)) from rfl,
    set4 _ (i * 4) (by rw [flatOf_len Fd.enc_len, marksFieldS_len]), flatOf_app]
  simp [marksFieldS, List.range_succ, flatOf, Fd.enc]

set_option maxRecDepth 100000 in
theorem markFieldS_any (B : Nat) (a : Option Addr) (n c j0 : Nat) (l : List Fd) (w : World) (h : OwnF 56 w B a n c l) (h0 : j0 ≤ 1000000000000) (hn : n ≤ 1000000000000) :
    Calls Try.prog 28 #[.slice a n c, .int .i64 j0] w fun e w' => e = .returned (.int .i64 ((j0 + n * 4 : Nat) : Int)) ∧ OwnF 56 w' B a n c (marksFieldS j0 n) ∧ w.grownBy w' (Value.ownBlock (.slice a n c)) := by
  have H := Lib.hid h
  clear h
  go_enter Try.func28, Try.ntmps28
  go_wp2
  go_loopw [1, 5] (fun q i wr => ∃ j : Nat, j ≤ n ∧ i = .int .i64 j ∧ q = .int .i64 ((j0 + j * 4 : Nat) : Int) ∧ wr.ownsRow B 56 4 (.slice a n c) n (partF j0 j l) ∧ w.grownBy wr (Value.ownBlock (.slice a n c))) (fun _ i _ => n - (intOf i).toNat)
  case atStart => exact ⟨0, Nat.zero_le _, rfl, rfl, by rw [partF_zero]; exact H.out.2, grown_below (Below.refl _ _) _⟩
  case round =>
    obtain ⟨i, hi, rfl, rfl, hown, hg⟩ := hrel
    have HR := Lib.hid hown
    have HG := Lib.hid hg
    clear hown hg
    by_cases hlt : i < n
    · obtain ⟨g, e, _, _⟩ := H.out.head (by omega)
      subst e
      have hf0 := HR.out.frozenAt (i * 4)
      have hf1 := HR.out.frozenAt (i * 4 + 1)
      have hf2 := HR.out.frozenAt (i * 4 + 2)
      have hf3 := HR.out.frozenAt (i * 4 + 3)
      obtain ⟨u0, hu0⟩ := row_cell HR.out (k := i * 4) (by omega)
      obtain ⟨u1, hu1⟩ := row_cell HR.out (k := i * 4 + 1) (by omega)
      obtain ⟨u2, hu2⟩ := row_cell HR.out (k := i * 4 + 2) (by omega)
      obtain ⟨u3, hu3⟩ := row_cell HR.out (k := i * 4 + 3) (by omega)
      go_wp2
      go_roundw
      case rel =>
        have hs := stored4 HR.out (i * 4) (i * 4 + 1) (i * 4 + 2) (i * 4 + 3) (.int .i64 ((j0 + i * 4 : Nat) : Int)) (.int .i64 ((j0 + i * 4 + 1 : Nat) : Int)) (.int .i64 ((j0 + i * 4 + 2 : Nat) : Int)) (.int .i64 ((j0 + i * 4 + 3 : Nat) : Int))
        rw [partF_step _ hlt H.out.len] at hs
        exact ⟨i + 1, by omega, by go_num, by go_num, hs.1, HG.out.trans hs.2⟩
      case measure => simp [intOf]; omega
    · obtain rfl : i = n := by omega
      go_wp2
      go_ret
      have h1 := HR.out
      rw [partF_all _ _ _ H.out.len] at h1
      exact ⟨rfl, ⟨marksFieldS_len _ _, h1⟩, HG.out⟩
end Go.Proofs.Ytpbmmepoddbefaa
