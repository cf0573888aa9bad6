/- The helpers of the exact laws at lists of pairs: compared, marked, held. -/
import Derived.Test.YtckmgbobkffabaaRw
import Derived.Test.YtckmgbobkffabaaIntS
import Derived.Deep.QuietTactic
import Derived.BigQuiet
import Derived.RegionTactic
import Derived.StillTailTactics
import Derived.Handy
namespace Go.Proofs.Ytckmgbobkffabaa
open Go.ChangeShapes Go.WideShapes Go.ChangeAt Go.RowKit
set_option linter.unusedVariables false

set_option maxRecDepth 100000 in
theorem eqIntSS_yes {S S' B B' g g' n m c d : Nat} {l : List (Int × Int)} {w : World} (h : OwnR S w B g n c l) (h' : OwnR S' w B' g' m d l) :
    Calls Try.prog 30 #[.slice (some ⟨g, 0, none⟩) n c, .slice (some ⟨g', 0, none⟩) m d] w (Told (.bool true) w) := by
  obtain rfl : n = m := by rw [← h.count, ← h'.count]
  have hn := h.room
  have H := Lib.hid h
  have H' := Lib.hid h'
  clear h h'
  go_enter Try.func30, Try.ntmps30
  go_wp2_with fail
  go_loopw [5] (fun i wr => ∃ j : Nat, j ≤ n ∧ i = .int .i64 j ∧ Below w.heap.size w wr) (fun i _ => n - (intOf i).toNat)
  case atStart => exact ⟨0, Nat.zero_le _, rfl, Below.refl _ _⟩
  case round =>
    obtain ⟨j, hj, rfl, hb⟩ := hrel
    have HB := Lib.hid hb
    clear hb
    by_cases hlt : j < n
    · obtain ⟨r1, p1, hx, hc0, hr1, ho1⟩ := (H.out.same HB.out).at_ hlt
      obtain ⟨r2, p2, hy, hd0, hr2, ho2⟩ := (H'.out.same HB.out).at_ hlt
      rw [hx] at hy
      cases hy
      have HN1 := Lib.hid (two_own hr1 ho1.1).nums
      have HN2 := Lib.hid (two_own hr2 ho2.1).nums
      clear hx hr1 hr2 ho1 ho2
      go_wp2_with fail
      go_still_tail 8, (by kernel_rfl)
      have H2 : Hid (Below wr.heap.size wr wr.drew) := Lib.hid (Below.refl _ _).drew
      change wpList _ _ _ _ _ wr.drew
      generalize wr.drew = w2 at H2 ⊢
      go_wp2_with fail
      refine (eqIntS_yes _ _ 2 2 2 2 _ w2 (HN1.out.same H2.out) (HN2.out.same H2.out)).mono ?_
      rintro e w3 ⟨rfl, hb3⟩
      have HB3 := Lib.hid ((HB.out.trans (H2.out.mono HB.out.size)).trans (hb3.mono (Nat.le_trans HB.out.size H2.out.size)))
      clear hb3
      go_wp2
      go_roundw
      case rel => exact ⟨j + 1, by omega, by go_num, HB3.out⟩
      case measure => simp [intOf]; omega
    · go_wp2
      go_ret
      exact ⟨rfl, HB.out⟩
theorem marksIntS_two (k : Nat) : marksIntS k 2 = [((k : Nat) : Int), ((k + 1 : Nat) : Int)] := rfl
set_option maxRecDepth 100000 in
theorem markIntSS_any {S B g n c : Nat} (k : Nat) {l : List (Int × Int)} {w : World} (h : OwnR S w B g n c l) (hk : k ≤ 1000000000) (hn : n ≤ 1000000000) :
    Calls Try.prog 33 #[.slice (some ⟨g, 0, none⟩) n c, .int .i64 (k : Int)] w fun e w' => e = .returned (.int .i64 ((k + n * 2 : Nat) : Int)) ∧ OwnR S w' B g n c (marksR k n) ∧ Inside B S w w' := by
  obtain ⟨rs, h⟩ := h
  have hl := h.count
  have hroom := h.room
  have H := Lib.hid h
  clear h
  go_enter Try.func33, Try.ntmps33
  go_wp2_with fail
  go_loopw [1, 5] (fun q i wr => ∃ j : Nat, j ≤ n ∧ i = .int .i64 j ∧ q = .int .i64 ((k + j * 2 : Nat) : Int) ∧ OwnRs rs S wr B g n c (marksR k j ++ l.drop j) ∧ Inside B S w wr) (fun _ i _ => n - (intOf i).toNat)
  case atStart => exact ⟨0, Nat.zero_le _, rfl, rfl, by simpa [marksR] using H.out, Inside.refl _ _ _⟩
  case round =>
    obtain ⟨j, hj, rfl, rfl, ho, hg⟩ := hrel
    have HO := Lib.hid ho
    have HG := Lib.hid hg
    clear ho hg
    by_cases hlt : j < n
    · obtain ⟨r, p, hr, hp, hc0, hrp, o1, o2, o3⟩ := HO.out.at_ hlt
      have HR := Lib.hid hr
      have HP := Lib.hid (two_own hrp o1)
      clear hr hp hrp
      go_wp2_with fail
      refine (markIntS_any B _ 2 2 (k + j * 2) _ wr HP.out (by omega) (by omega)).mono ?_
      rintro e w2 ⟨rfl, ho2, hg2⟩
      rw [marksIntS_two] at ho2
      have hput := HO.out.put HR.out (p := (((k + j * 2 : Nat) : Int), ((k + j * 2 + 1 : Nat) : Int))) hg2 (own_two ho2)
      rw [marksR_step hlt hl] at hput
      have HPUT := Lib.hid hput
      have HG2 := Lib.hid (HG.out.trans (Inside.row hg2 (lo := B) (hi := S) (fun q e => by cases e; exact ⟨o1, o2⟩)))
      clear hput ho2 hg2
      go_wp2_with fail
      go_roundw
      case rel => exact ⟨j + 1, by omega, by go_num, by congr 2; omega, HPUT.out, HG2.out⟩
      case measure => simp [intOf]; omega
    · obtain rfl : j = n := by omega
      have h1 := HO.out
      rw [List.drop_eq_nil_of_le (by omega), List.append_nil] at h1
      have HO1 := Lib.hid h1
      clear h1
      go_wp2_with fail
      go_ret
      exact ⟨rfl, ⟨rs, HO1.out⟩, HG.out⟩
set_option maxRecDepth 100000 in
theorem heldIntSS_any {S B g n c : Nat} (k : Nat) {w : World} (h : OwnR S w B g n c (marksR k n)) (hk : k ≤ 1000000000) (hn : n ≤ 1000000000) :
    Calls Try.prog 34 #[.slice (some ⟨g, 0, none⟩) n c, .int .i64 (k : Int)] w (Told (.int .i64 ((k + n * 2 : Nat) : Int)) w) := by
  have hroom := h.room
  have H := Lib.hid h
  clear h
  go_enter Try.func34, Try.ntmps34
  go_wp2_with fail
  go_loopw [1, 5] (fun q i wr => ∃ j : Nat, j ≤ n ∧ i = .int .i64 j ∧ q = .int .i64 ((k + j * 2 : Nat) : Int) ∧ Below w.heap.size w wr) (fun _ i _ => n - (intOf i).toNat)
  case atStart => exact ⟨0, Nat.zero_le _, rfl, rfl, Below.refl _ _⟩
  case round =>
    obtain ⟨j, hj, rfl, rfl, hb⟩ := hrel
    have HB := Lib.hid hb
    clear hb
    by_cases hlt : j < n
    · obtain ⟨r, p, hp, hc0, hrp, o1, o2, o3⟩ := (H.out.same HB.out).at_ hlt
      rw [marksR_get hlt] at hp
      cases hp
      have HP : Hid (Nums .i64 wr (some ⟨r, 0, none⟩) 2 (marksIntS (k + j * 2) 2)) := Lib.hid (by rw [marksIntS_two]; exact (two_own hrp o1).nums)
      have hpos : ¬ (((k + j * 2 + 2 : Nat) : Int) < 0) := by omega
      clear hrp
      go_wp2_with fail
      refine (heldIntS_any _ 2 2 (k + j * 2) wr HP.out (by omega) (by omega)).mono ?_
      rintro e w2 ⟨rfl, hb2⟩
      have HB2 := Lib.hid (HB.out.trans (hb2.mono HB.out.size))
      clear hb2
      go_wp2_with fail
      go_roundw
      case rel => exact ⟨j + 1, by omega, by go_num, by congr 2; omega, HB2.out⟩
      case measure => simp [intOf]; omega
    · obtain rfl : j = n := by omega
      go_wp2_with fail
      go_ret
      exact ⟨rfl, HB.out⟩
end Go.Proofs.Ytckmgbobkffabaa
