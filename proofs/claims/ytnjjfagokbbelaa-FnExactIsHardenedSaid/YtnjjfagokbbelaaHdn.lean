/- Whether a list of tags, a list of extensions holds a reserved tag; the extensions whose tag is not reserved: by the program. -/
import Derived.Test.YtnjjfagokbbelaaGm
import Derived.Test.YtnjjfagokbbelaaTg
import Derived.Test.YtnjjfagokbbelaaWhS
namespace Go.Proofs.Ytnjjfagokbbelaa
open Go.ChangeShapes Go.WideShapes Go.ChangeAt Go.RowKit
set_option linter.unusedVariables false

set_option maxHeartbeats 1000000 in
set_option maxRecDepth 100000 in
theorem indexResv_any {a : Option Addr} {n c : Nat} {y : List Int} {w : World} (h : Nums .i64 w a n y) :
    Calls Try.prog 93 #[.slice a n c, .func (.func 27) #[] #[]] w fun e w' => ∃ r : Int, e = .returned (.int .i64 r) ∧ w = w' ∧ decide (0 ≤ r) = y.any resv := by
  have H := Lib.hid h
  have hl := h.len
  have hfit := h.fits
  clear h
  go_enter Try.func93, Try.ntmps93
  go_wp2_with fail
  go_loop [8] (fun i => ∃ j : Nat, j ≤ n ∧ i = .int .i64 j ∧ (y.take j).any resv = false) (fun i => n - (intOf i).toNat)
  case atStart => exact ⟨0, Nat.zero_le _, rfl, by simp⟩
  case round =>
    obtain ⟨j, hj, rfl, hno⟩ := hrel
    have HN := Lib.hid hno
    clear hno
    by_cases hlt : j < n
    · obtain ⟨ad, z, rfl, hz, hc⟩ := H.out.at_ hlt
      have HR := isReserved_any z
      cases hk : resv z with
      | true =>
        have HE : Hid (decide ((0 : Int) ≤ (j : Int)) = y.any resv) := Lib.hid (by
          rw [decide_eq_true (by omega)]
          exact (List.any_eq_true.2 ⟨z, List.mem_of_getElem? hz, hk⟩).symm)
        rw [hk] at HR
        clear hz hk
        go_wp2_with (go_at_call 27; refine (HR _).mono ?_; rintro e w' ⟨rfl, rfl⟩)
        go_ret
        exact ⟨j, rfl, rfl, HE.out⟩
      | false =>
        have HS : Hid ((y.take (j + 1)).any resv = false) := Lib.hid (by
          rw [List.take_add_one, hz, List.any_append, HN.out]
          simp [hk])
        rw [hk] at HR
        clear hz hk
        go_wp2_with (go_at_call 27; refine (HR _).mono ?_; rintro e w' ⟨rfl, rfl⟩)
        go_round
        case rel => exact ⟨j + 1, by omega, by go_num, HS.out⟩
        case measure => simp [intOf]; omega
    · obtain rfl : j = n := by omega
      have h1 := HN.out
      rw [List.take_of_length_le (by omega)] at h1
      have HE : Hid (decide ((0 : Int) ≤ (-1 : Int)) = y.any resv) := Lib.hid (by rw [h1]; rfl)
      clear h1
      go_wp2_with fail
      go_ret
      exact ⟨-1, rfl, rfl, HE.out⟩
set_option maxRecDepth 100000 in
theorem anyResv_any {a : Option Addr} {n c : Nat} {y : List Int} {w : World} (h : Nums .i64 w a n y) :
    Calls Try.prog 72 #[.slice a n c, .func (.func 27) #[] #[]] w fun e w' => e = .returned (.bool (y.any resv)) ∧ w = w' := by
  have HI := Lib.hid (indexResv_any (c := c) h)
  clear h
  go_enter Try.func72, Try.ntmps72
  go_wp2_with fail
  refine HI.out.mono ?_
  rintro e w1 ⟨r, rfl, rfl, hr⟩
  have HR := Lib.hid hr
  clear hr
  go_wp2_with fail
  go_ret
  exact ⟨by rw [← HR.out]; rfl, rfl⟩
set_option maxRecDepth 100000 in
theorem isHardened_any {a : Option Addr} {n c : Nat} {y : List Int} {w : World} (h : Nums .i64 w a n y) :
    Calls Try.prog 32 #[.slice a n c] w (Told (.bool (y.any resv)) w) := by
  have HI := Lib.hid (anyResv_any (c := c) h)
  clear h
  go_enter Try.func32, Try.ntmps32
  go_wp2_with fail
  refine HI.out.mono ?_
  rintro e w1 ⟨rfl, rfl⟩
  go_wp2_with fail
  go_ret
  exact ⟨rfl, Below.refl _ _⟩
set_option maxRecDepth 100000 in
theorem hasGrease_any {a : Option Addr} {n c : Nat} {l : List Vl} {w : World} (h : Vals w a n l) (hn : n ≤ 1048576000) :
    Calls Try.prog 31 #[.slice a n c] w (Told (.bool (hasG l)) w) := by
  have HT := Lib.hid (tagsOf_any (c := c) h hn)
  unfold Made at HT
  clear h
  go_enter Try.func31, Try.ntmps31
  go_wp2_with fail
  refine HT.out.mono ?_
  rintro e w1 ⟨q, m, d, rfl, ho, hb⟩
  have HB := Lib.hid hb
  have HI := Lib.hid (anyResv_any (c := d) ho.nums)
  clear ho hb HT
  go_wp2_with fail
  refine HI.out.mono ?_
  rintro e w2 ⟨rfl, rfl⟩
  go_wp2_with fail
  go_ret
  exact ⟨rfl, HB.out⟩
set_option maxRecDepth 100000 in
theorem stripAsk_told (k : Int) (W : World) : Calls Try.prog 71 #[.int .i64 k] W (Told (.bool (!resv k)) W) := by
  have HR := isReserved_any k
  generalize resv k = b at HR ⊢
  go_enter Try.func71, Try.ntmps71
  go_wp2_with (go_at_call 27; refine (HR _).mono ?_; rintro e w' ⟨rfl, rfl⟩)
  go_ret
  exact ⟨rfl, Below.refl _ _⟩
set_option maxRecDepth 100000 in
theorem stripGrease_any {a : Option Addr} {n c : Nat} {l : List Vl} {w : World} (h : Vals w a n l) (hz : ∀ z ∈ tagsX l, (Lit.int .i64 z).wf = true) (hn : n ≤ 1048576) (hit : itemsOf l ≤ 1048576) :
    Calls Try.prog 28 #[.slice a n c] w (MadeV 57 3 w.heap.size (strX l) w) := by
  have HW := Lib.hid (extsWhereS_any (c := c) (fun t => !resv t) h hz (fun k W _ _ => stripAsk_told k W) hn hit)
  clear h
  go_enter Try.func28, Try.ntmps28
  go_wp2_with fail
  refine HW.out.mono ?_
  rintro e w1 ⟨q, m, d, rfl, ho, hb⟩
  have HO := Lib.hid ho
  have HB := Lib.hid hb
  clear ho hb HW
  go_wp2_with fail
  go_ret
  exact ⟨_, _, _, rfl, HO.out, HB.out⟩
end Go.Proofs.Ytnjjfagokbbelaa
