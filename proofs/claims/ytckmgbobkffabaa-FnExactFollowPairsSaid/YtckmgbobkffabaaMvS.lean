/- The helpers of the exact laws at lists of moves: marked. -/
import Derived.Test.YtckmgbobkffabaaMvT
import Derived.Test.YtckmgbobkffabaaBl
import Derived.Deep.QuietTactic
import Derived.BigQuiet
import Derived.RegionTactic
import Derived.StillTailTactics
import Derived.Handy
namespace Go.Proofs.Ytckmgbobkffabaa
open Go.ChangeShapes Go.WideShapes Go.ChangeAt Go.RowKit
set_option linter.unusedVariables false

/-- The marks that are laid: each one more than the one before. -/
def marksMoveS (j n : Nat) : List Mv := (List.range n).map fun i => ⟨((j + i * 4 : Nat) : Int), third ((j + i * 4 + 1 : Nat) : Int), ((j + i * 4 + 2 : Nat) : Int), ((j + i * 4 + 3 : Nat) : Int)⟩
theorem marksMoveS_len (j n : Nat) : (marksMoveS j n).length = n := by simp [marksMoveS]
theorem marksMoveS_get {j n i : Nat} (h : i < n) : (marksMoveS j n)[i]? = some ⟨((j + i * 4 : Nat) : Int), third ((j + i * 4 + 1 : Nat) : Int), ((j + i * 4 + 2 : Nat) : Int), ((j + i * 4 + 3 : Nat) : Int)⟩ := by
  unfold marksMoveS
  rw [List.getElem?_map, List.getElem?_range h]; rfl
def partM (j0 j : Nat) (l : List Mv) : List Value := flatOf Mv.enc (marksMoveS j0 j ++ l.drop j)
theorem partM_zero (j0 : Nat) (l : List Mv) : partM j0 0 l = flatOf Mv.enc l := by simp [partM, marksMoveS]
theorem partM_all (j0 n : Nat) (l : List Mv) (h : l.length = n) : partM j0 n l = flatOf Mv.enc (marksMoveS j0 n) := by
  unfold partM
  rw [List.drop_eq_nil_of_le (by omega), List.append_nil]
theorem partM_step {l : List Mv} {i n : Nat} (j : Nat) (hi : i < n) (hn : l.length = n) :
    ((((partM j i l).set (i * 4) (.int .i64 ((j + i * 4 : Nat) : Int))).set (i * 4 + 1) (.bool (third ((j + i * 4 + 1 : Nat) : Int)))).set (i * 4 + 2) (.int .i64 ((j + i * 4 + 2 : Nat) : Int))).set (i * 4 + 3) (.int .i64 ((j + i * 4 + 3 : Nat) : Int)) = partM j (i + 1) l := by
  unfold partM
  rw [flatOf_app, List.drop_eq_getElem_cons (by omega), show flatOf Mv.enc (l[i] :: l.drop (i + 1)) = .int .i64 l[i].frm :: .bool l[i].send :: .int .i64 l[i].msg :: .int .i64 l[i].to :: flatOf Mv.enc (l.drop (i + 1)) from rfl,
    set4 _ (i * 4) (by rw [flatOf_len Mv.enc_len, marksMoveS_len]), flatOf_app]
  simp [marksMoveS, List.range_succ, flatOf, Mv.enc]

set_option maxRecDepth 100000 in
theorem markMoveS_any (B : Nat) (a : Option Addr) (n c j0 : Nat) (l : List Mv) (w : World) (h : OwnM 63 w B a n c l) (h0 : j0 ≤ 1000000000000) (hn : n ≤ 1000000000000) :
    Calls Try.prog 78 #[.slice a n c, .int .i64 j0] w fun e w' => e = .returned (.int .i64 ((j0 + n * 4 : Nat) : Int)) ∧ OwnM 63 w' B a n c (marksMoveS j0 n) ∧ w.grownBy w' (Value.ownBlock (.slice a n c)) := by
  have H := Lib.hid h
  clear h
  go_enter Try.func78, Try.ntmps78
  go_wp2
  go_loopw [1, 5] (fun q i wr => ∃ j : Nat, j ≤ n ∧ i = .int .i64 j ∧ q = .int .i64 ((j0 + j * 4 : Nat) : Int) ∧ wr.ownsRow B 63 4 (.slice a n c) n (partM j0 j l) ∧ w.grownBy wr (Value.ownBlock (.slice a n c))) (fun _ i _ => n - (intOf i).toNat)
  case atStart => exact ⟨0, Nat.zero_le _, rfl, rfl, by rw [partM_zero]; exact H.out.2, grown_below (Below.refl _ _) _⟩
  case round =>
    obtain ⟨i, hi, rfl, rfl, hown, hg⟩ := hrel
    have HR := Lib.hid hown
    have HG := Lib.hid hg
    clear hown hg
    by_cases hlt : i < n
    · obtain ⟨g, e, _, _⟩ := H.out.head (by omega)
      subst e
      have hf0 := HR.out.frozenAt (i * 4)
      have hf1 := HR.out.frozenAt (i * 4 + 1)
      have hf2 := HR.out.frozenAt (i * 4 + 2)
      have hf3 := HR.out.frozenAt (i * 4 + 3)
      obtain ⟨u0, hu0⟩ := row_cell HR.out (k := i * 4) (by omega)
      obtain ⟨u1, hu1⟩ := row_cell HR.out (k := i * 4 + 1) (by omega)
      obtain ⟨u2, hu2⟩ := row_cell HR.out (k := i * 4 + 2) (by omega)
      obtain ⟨u3, hu3⟩ := row_cell HR.out (k := i * 4 + 3) (by omega)
      go_wp2
      go_roundw
      case rel =>
        have hs := stored4 HR.out (i * 4) (i * 4 + 1) (i * 4 + 2) (i * 4 + 3) (.int .i64 ((j0 + i * 4 : Nat) : Int)) (.bool (third ((j0 + i * 4 + 1 : Nat) : Int))) (.int .i64 ((j0 + i * 4 + 2 : Nat) : Int)) (.int .i64 ((j0 + i * 4 + 3 : Nat) : Int))
        rw [partM_step _ hlt H.out.len] at hs
        exact ⟨i + 1, by omega, by go_num, by go_num, hs.1, HG.out.trans hs.2⟩
      case measure => simp [intOf]; omega
    · obtain rfl : i = n := by omega
      go_wp2
      go_ret
      have h1 := HR.out
      rw [partM_all _ _ _ H.out.len] at h1
      exact ⟨rfl, ⟨marksMoveS_len _ _, h1⟩, HG.out⟩

end Go.Proofs.Ytckmgbobkffabaa
