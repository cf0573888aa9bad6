/- Lists of integers are compared: by the model. The pairs of states that are reached: by the model. -/
import Derived.Test.YtckmgbobkffabaaGreatG1
import Derived.Deep.QuietTactic
import Derived.BigQuiet
import Derived.RegionTactic
import Derived.Test.YtckmgbobkffabaaGreatG34
import Derived.Test.YtckmgbobkffabaaGreatG26
namespace Go.Proofs.YtckmgbobkffabaaGreat
open Go.ChangeShapes Go.WideShapes Go.ChangeAt Go.RowKit
set_option linter.unusedVariables false

set_option maxRecDepth 100000 in
theorem specEqualInts_yes {a b : Option Addr} {n m c d : Nat} {l : List Int} {w : World} (h : Nums .i64 w a n l) (h' : Nums .i64 w b m l) :
  Calls Tryz.prog 66 #[.slice a n c, .slice b m d] w (Told (.bool true) w) := by
 obtain rfl : n = m := by rw [← h.len, ← h'.len]
 have hn := h.fits
 have H := Lib.hid h
 have H' := Lib.hid h'
 clear h h'
 go_enter Tryz.func66, Tryz.ntmps66
 go_wp2
 go_loopw [5] (fun i wr => ∃ j : Nat, j ≤ n ∧ i = .int .i64 j ∧ Below w.heap.size w wr) (fun i _ => n - (intOf i).toNat)
 case atStart => exact ⟨0, Nat.zero_le _, rfl, Below.refl _ _⟩
 case round =>
  obtain ⟨j, hj, rfl, hb⟩ := hrel
  have HB := Lib.hid hb
  clear hb
  by_cases hlt : j < n
  ·obtain ⟨ad, x, rfl, hx, hc⟩ := (H.out.same HB.out).at_ hlt
   obtain ⟨be, y, rfl, hy, hc'⟩ := (H'.out.same HB.out).at_ hlt
   rw [hx] at hy
   cases hy
   clear hx
   go_wp2
   go_quiet (fail)
   go_wp2
   go_roundw
   case rel => exact ⟨j + 1, by omega, by go_num, HB.out.trans ((drewN_same _ _).mono HB.out.size)⟩
   case measure => simp [intOf]; omega
  ·go_wp2
   go_ret
   exact ⟨rfl, HB.out⟩
set_option maxRecDepth 100000 in
theorem specEqualInts_no {a b : Option Addr} {n m c d : Nat} {l l' : List Int} {w : World} (h : Nums .i64 w a n l) (h' : Nums .i64 w b m l') (hne : l ≠ l') :
  Calls Tryz.prog 66 #[.slice a n c, .slice b m d] w (Told (.bool false) w) := by
 have hn := h.fits
 have hm := h'.fits
 have H := Lib.hid h
 have H' := Lib.hid h'
 have HE := Lib.hid hne
 clear h h' hne
 by_cases hnm : n = m
 ·subst hnm
  go_enter Tryz.func66, Tryz.ntmps66
  go_wp2
  go_loopw [5] (fun i wr => ∃ j : Nat, j ≤ n ∧ i = .int .i64 j ∧ l.take j = l'.take j ∧ Below w.heap.size w wr) (fun i _ => n - (intOf i).toNat)
  case atStart => exact ⟨0, Nat.zero_le _, rfl, rfl, Below.refl _ _⟩
  case round =>
   obtain ⟨j, hj, rfl, ht, hb⟩ := hrel
   have HB := Lib.hid hb
   have HT := Lib.hid ht
   clear hb ht
   by_cases hlt : j < n
   ·obtain ⟨ad, x, rfl, hx, hc⟩ := (H.out.same HB.out).at_ hlt
    obtain ⟨be, y, rfl, hy, hc'⟩ := (H'.out.same HB.out).at_ hlt
    have HX := Lib.hid hx
    have HY := Lib.hid hy
    clear hx hy
    by_cases hxy : x = y
    ·subst hxy
     go_wp2
     go_quiet (fail)
     go_wp2
     go_roundw
     case rel => exact ⟨j + 1, by omega, by go_num, by rw [List.take_add_one, List.take_add_one, HX.out, HY.out, HT.out], HB.out.trans ((drewN_same _ _).mono HB.out.size)⟩
     case measure => simp [intOf]; omega
    ·have hq : (x != y) = true := by simp [hxy]
     clear hxy
     go_wp2
     go_quiet (fail)
     go_wp2
     go_ret
     exact ⟨rfl, HB.out.trans ((drewN_same _ _).mono HB.out.size)⟩
   ·exfalso
    have h1 := HT.out
    rw [List.take_of_length_le (by rw [H.out.len]; omega), List.take_of_length_le (by rw [H'.out.len]; omega)] at h1
    exact HE.out h1
 ·have hq : ((n : Int) != (m : Int)) = true := by simp; omega
  clear hnm
  go_enter Tryz.func66, Tryz.ntmps66
  go_wp2
  go_ret
  exact ⟨rfl, Below.refl _ _⟩
end Go.Proofs.YtckmgbobkffabaaGreat
namespace Go.Proofs.YtckmgbobkffabaaGreat
open Go.ChangeShapes Go.WideShapes Go.ChangeAt Go.RowKit
set_option linter.unusedVariables false
set_option linter.unusedSimpArgs false

set_option maxHeartbeats 1000000 in
set_option maxRecDepth 100000 in
theorem l14Has_any {rs : List Nat} {S B g n c r : Nat} {l : List (Int × Int)} {p : Int × Int} {w : World} (h : OwnRs rs S w B g n c l) (hr : w.heap[r]? = some (two p)) :
  Calls Tryz.prog 44 #[.slice (some ⟨g, 0, none⟩) n c, .slice (some ⟨r, 0, none⟩) 2 2] w (Told (.bool (decide (p ∈ l))) w) := by
 have hl := h.count
 have hroom := h.room
 have H := Lib.hid h
 have HP := Lib.hid (two_own (B := 0) hr (by omega)).nums
 clear h hr
 go_enter Tryz.func44, Tryz.ntmps44
 go_wp2_with fail
 go_loopw [5] (fun i wr => ∃ j : Nat, j ≤ n ∧ i = .int .i64 j ∧ (∀ y ∈ l.take j, y ≠ p) ∧ Below w.heap.size w wr) (fun i _ => n - (intOf i).toNat)
 case atStart => exact ⟨0, Nat.zero_le _, rfl, by simp, Below.refl _ _⟩
 case round =>
  obtain ⟨j, hj, rfl, hno, hb⟩ := hrel
  have HN := Lib.hid hno
  have HB := Lib.hid hb
  clear hno hb
  by_cases hlt : j < n
  ·obtain ⟨r7, p7, hr7, hp7, hc7, hrow7, v1, v2, v3⟩ := (H.out.same HB.out).at_ hlt
   have HN7 := Lib.hid (two_own hrow7 v1).nums
   have HP7 := Lib.hid hp7
   clear hr7 hp7 hrow7 v1 v2 v3
   by_cases he : p7 = p
   ·subst he
    have HE := Lib.hid (specEqualInts_yes (c := 2) (d := 2) HN7.out (HP.out.same HB.out))
    have HD : Hid (decide (p7 ∈ l) = true) := Lib.hid (decide_eq_true (List.mem_of_getElem? HP7.out))
    go_wp2_with fail
    refine HE.out.mono ?_
    rintro e w2 ⟨rfl, hb2⟩
    have HB2 := Lib.hid (HB.out.trans (hb2.mono HB.out.size))
    clear hb2
    go_wp2_with fail
    go_ret
    exact ⟨by rw [HD.out]; try rfl, HB2.out⟩
   ·have hne : [p7.1, p7.2] ≠ [p.1, p.2] := fun e => he (by
     injection e with e1 e2
     injection e2 with e2 _
     exact Prod.ext e1 e2)
    have HE := Lib.hid (specEqualInts_no (c := 2) (d := 2) HN7.out (HP.out.same HB.out) hne)
    have HNN : Hid (∀ y ∈ l.take (j + 1), y ≠ p) := Lib.hid (by
     intro y hy
     rw [List.take_add_one, HP7.out] at hy
     rcases List.mem_append.1 hy with h | h
     ·exact HN.out y h
     ·have : y = p7 := by simpa using h
      rw [this]
      exact he)
    clear hne he
    go_wp2_with fail
    refine HE.out.mono ?_
    rintro e w2 ⟨rfl, hb2⟩
    have HB2 := Lib.hid (HB.out.trans (hb2.mono HB.out.size))
    clear hb2
    go_wp2_with fail
    go_roundw
    case rel => exact ⟨j + 1, by omega, by go_num, HNN.out, HB2.out⟩
    case measure => simp [intOf]; omega
  ·obtain rfl : j = n := by omega
   have HD : Hid (decide (p ∈ l) = false) := Lib.hid (decide_eq_false fun hm => by
    have := HN.out p (by rw [List.take_of_length_le (by omega)]; exact hm)
    exact this rfl)
   go_wp2_with fail
   go_ret
   exact ⟨by rw [HD.out]; try rfl, HB.out⟩
end Go.Proofs.YtckmgbobkffabaaGreat
