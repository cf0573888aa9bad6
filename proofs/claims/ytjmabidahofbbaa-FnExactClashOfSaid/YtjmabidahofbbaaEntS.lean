/- The helpers of the exact laws at lists of entries: marked. -/
import Derived.Test.YtjmabidahofbbaaEntT
import Derived.Deep.QuietTactic
import Derived.BigQuiet
import Derived.RegionTactic
import Derived.StillTailTactics
import Derived.Handy
namespace Go.Proofs.Ytjmabidahofbbaa
open Go.ChangeShapes Go.WideShapes Go.ChangeAt Go.RowKit
set_option linter.unusedVariables false

/-- What the helper asks of the third mark. -/
def third (x : Int) : Bool := x % 3 == 0
/-- The marks that are laid: each one more than the one before. -/
def marksEntryS (j n : Nat) : List En := (List.range n).map fun i => ⟨((j + i * 3 : Nat) : Int), ((j + i * 3 + 1 : Nat) : Int), third ((j + i * 3 + 2 : Nat) : Int)⟩
theorem marksEntryS_len (j n : Nat) : (marksEntryS j n).length = n := by simp [marksEntryS]
theorem marksEntryS_get {j n i : Nat} (h : i < n) : (marksEntryS j n)[i]? = some ⟨((j + i * 3 : Nat) : Int), ((j + i * 3 + 1 : Nat) : Int), third ((j + i * 3 + 2 : Nat) : Int)⟩ := by
  unfold marksEntryS
  rw [List.getElem?_map, List.getElem?_range h]; rfl
def partN (j0 j : Nat) (l : List En) : List Value := flatOf En.enc (marksEntryS j0 j ++ l.drop j)
theorem partN_zero (j0 : Nat) (l : List En) : partN j0 0 l = flatOf En.enc l := by simp [partN, marksEntryS]
theorem partN_all (j0 n : Nat) (l : List En) (h : l.length = n) : partN j0 n l = flatOf En.enc (marksEntryS j0 n) := by
  unfold partN
  rw [List.drop_eq_nil_of_le (by omega), List.append_nil]
theorem partN_step {l : List En} {i n : Nat} (j : Nat) (hi : i < n) (hn : l.length = n) :
    (((partN j i l).set (i * 3) (.int .i64 ((j + i * 3 : Nat) : Int))).set (i * 3 + 1) (.int .i64 ((j + i * 3 + 1 : Nat) : Int))).set (i * 3 + 2) (.bool (third ((j + i * 3 + 2 : Nat) : Int))) = partN j (i + 1) l := by
  unfold partN
  rw [flatOf_app, List.drop_eq_getElem_cons (by omega), show flatOf En.enc (l[i] :: l.drop (i + 1)) = .int .i64 l[i].tag :: .int .i64 l[i].vend :: .bool l[i].old :: flatOf En.enc (l.drop (i + 1)) from rfl,
    set3 _ (i * 3) (by rw [flatOf_len En.enc_len, marksEntryS_len]), flatOf_app]
  simp [marksEntryS, List.range_succ, flatOf, En.enc]

set_option maxRecDepth 100000 in
theorem markEntryS_any (B : Nat) (a : Option Addr) (n c j0 : Nat) (l : List En) (w : World) (h : OwnN 51 w B a n c l) (h0 : j0 ≤ 1000000000000) (hn : n ≤ 1000000000000) :
    Calls Try.prog 43 #[.slice a n c, .int .i64 j0] w fun e w' => e = .returned (.int .i64 ((j0 + n * 3 : Nat) : Int)) ∧ OwnN 51 w' B a n c (marksEntryS j0 n) ∧ w.grownBy w' (Value.ownBlock (.slice a n c)) := by
  have H := Lib.hid h
  clear h
  go_enter Try.func43, Try.ntmps43
  go_wp2
  go_loopw [1, 5] (fun q i wr => ∃ j : Nat, j ≤ n ∧ i = .int .i64 j ∧ q = .int .i64 ((j0 + j * 3 : Nat) : Int) ∧ wr.ownsRow B 51 3 (.slice a n c) n (partN j0 j l) ∧ w.grownBy wr (Value.ownBlock (.slice a n c))) (fun _ i _ => n - (intOf i).toNat)
  case atStart => exact ⟨0, Nat.zero_le _, rfl, rfl, by rw [partN_zero]; exact H.out.2, grown_below (Below.refl _ _) _⟩
  case round =>
    obtain ⟨i, hi, rfl, rfl, hown, hg⟩ := hrel
    have HR := Lib.hid hown
    have HG := Lib.hid hg
    clear hown hg
    by_cases hlt : i < n
    · obtain ⟨g, e, _, _⟩ := H.out.head (by omega)
      subst e
      have hf0 := HR.out.frozenAt (i * 3)
      have hf1 := HR.out.frozenAt (i * 3 + 1)
      have hf2 := HR.out.frozenAt (i * 3 + 2)
      obtain ⟨u0, hu0⟩ := row_cell HR.out (k := i * 3) (by omega)
      obtain ⟨u1, hu1⟩ := row_cell HR.out (k := i * 3 + 1) (by omega)
      obtain ⟨u2, hu2⟩ := row_cell HR.out (k := i * 3 + 2) (by omega)
      go_wp2
      go_roundw
      case rel =>
        have hs := stored3 HR.out (i * 3) (i * 3 + 1) (i * 3 + 2) (.int .i64 ((j0 + i * 3 : Nat) : Int)) (.int .i64 ((j0 + i * 3 + 1 : Nat) : Int)) (.bool (third ((j0 + i * 3 + 2 : Nat) : Int)))
        rw [partN_step _ hlt H.out.len] at hs
        exact ⟨i + 1, by omega, by go_num, by go_num, hs.1, HG.out.trans hs.2⟩
      case measure => simp [intOf]; omega
    · obtain rfl : i = n := by omega
      go_wp2
      go_ret
      have h1 := HR.out
      rw [partN_all _ _ _ H.out.len] at h1
      exact ⟨rfl, ⟨marksEntryS_len _ _, h1⟩, HG.out⟩

set_option maxRecDepth 100000 in
theorem heldEntryS_any (a : Option Addr) (n c j0 : Nat) (w : World) (h : Ens w a n (marksEntryS j0 n)) (h0 : j0 ≤ 1000000000000) (hn : n ≤ 1000000000000) :
    Calls Try.prog 44 #[.slice a n c, .int .i64 j0] w (Told (.int .i64 ((j0 + n * 3 : Nat) : Int)) w) := by
  have H := Lib.hid h
  clear h
  go_enter Try.func44, Try.ntmps44
  go_wp2
  go_loop [1, 5] (fun q i => ∃ j : Nat, j ≤ n ∧ i = .int .i64 j ∧ q = .int .i64 ((j0 + j * 3 : Nat) : Int)) (fun _ i => n - (intOf i).toNat)
  case atStart => exact ⟨0, Nat.zero_le _, rfl, rfl⟩
  case round =>
    obtain ⟨i, hi, rfl, rfl⟩ := hrel
    by_cases hlt : i < n
    · obtain ⟨b, o, x, rfl, hx, hc0, hc1, hc2⟩ := ens_at H.out hlt
      rw [marksEntryS_get hlt] at hx
      cases hx
      have e3 : third ((j0 + i * 3 + 2 : Nat) : Int) = (((j0 : Int) + (i : Int) * 3 + 1 + 1) % 3 == 0) := by
        unfold third
        rw [show ((j0 + i * 3 + 2 : Nat) : Int) = (j0 : Int) + (i : Int) * 3 + 1 + 1 by omega]
      rw [show ({ tag := ((j0 + i * 3 : Nat) : Int), vend := ((j0 + i * 3 + 1 : Nat) : Int), old := third ((j0 + i * 3 + 2 : Nat) : Int) } : En).old = third ((j0 + i * 3 + 2 : Nat) : Int) from rfl, e3] at hc2
      go_wp2
      go_round
      case rel => exact ⟨i + 1, by omega, by go_num, by go_num⟩
      case measure => simp [intOf]; omega
    · obtain rfl : i = n := by omega
      go_wp2
      go_ret
      exact ⟨rfl, Below.refl _ _⟩
end Go.Proofs.Ytjmabidahofbbaa
