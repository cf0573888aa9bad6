/- Whether a list of extensions is valid, where a tag stands, the tags: by the model. -/
import Derived.Test.YtnjjfagokbbelaaAre
import Derived.Test.YtnjjfagokbbelaaFitsS
namespace Go.Proofs.Ytnjjfagokbbelaa
open Go.ChangeShapes Go.WideShapes Go.ChangeAt Go.RowKit
set_option linter.unusedVariables false
set_option linter.unusedSimpArgs false

theorem first_at {zs : List Int} {j : Nat} {z : Int} (hz : zs[j]? = some z) (h : ¬ z ∈ zs.take j) : zs.idxOf z = j := by
  have h1 := idx_le hz
  rcases Nat.lt_or_ge (zs.idxOf z) j with q | q
  · exfalso
    have hj : j < zs.length := (List.getElem?_eq_some_iff.1 hz).1
    have hi : zs.idxOf z < zs.length := by omega
    have e1 := List.getElem_idxOf hi
    refine h (List.mem_of_getElem? (i := zs.idxOf z) ?_)
    rw [List.getElem?_take_of_lt q, List.getElem?_eq_getElem hi, e1]
  · omega
theorem tagsX_take (l : List Vl) (j : Nat) : tagsX (l.take j) = (tagsX l).take j := by simp [tagsX, List.map_take]
set_option maxRecDepth 100000 in
theorem l9Byte_any {p : Option Addr} {m c : Nat} {y : List Int} {w : World} (h : Nums .i64 w p m y) :
    Calls Try.prog 99 #[.slice p m c] w fun e w' => e = .returned (.bool (allIn y 255)) ∧ w = w' := by
  have H := Lib.hid h
  have hl := h.len
  have hfit := h.fits
  clear h
  go_enter Try.func99, Try.ntmps99
  go_wp2_with fail
  go_loop [3] (fun i => ∃ j : Nat, j ≤ m ∧ i = .int .i64 j ∧ allIn (y.take j) 255 = true) (fun i => m - (intOf i).toNat)
  case atStart => exact ⟨0, Nat.zero_le _, rfl, allIn_zero _ _⟩
  case round =>
    obtain ⟨j, hj, rfl, hall⟩ := hrel
    have HA := Lib.hid hall
    clear hall
    by_cases hlt : j < m
    · obtain ⟨ad, z, rfl, hz, hc⟩ := H.out.at_ hlt
      by_cases hi : 0 ≤ z ∧ z ≤ 255
      · have HS := Lib.hid (allIn_step HA.out hz hi)
        have K := Lib.hid (fun w0 => l1R_t (decide_eq_true hi) w0)
        clear hz hi
        go_wp2_with (go_at_call 98; refine (K.out _).mono ?_; rintro e w' ⟨rfl, rfl⟩)
        go_round
        case rel => exact ⟨j + 1, by omega, by go_num, HS.out⟩
        case measure => simp [intOf]; omega
      · have HE := Lib.hid (allIn_no hz hi)
        have K := Lib.hid (fun w0 => l1R_t (decide_eq_false hi) w0)
        clear hz hi
        go_wp2_with (go_at_call 98; refine (K.out _).mono ?_; rintro e w' ⟨rfl, rfl⟩)
        go_ret
        exact ⟨by rw [HE.out]; rfl, rfl⟩
    · obtain rfl : j = m := by omega
      have h2 := HA.out
      rw [List.take_of_length_le (by omega)] at h2
      have HE := Lib.hid h2
      clear h2
      go_wp2_with fail
      go_ret
      exact ⟨by rw [HE.out]; rfl, rfl⟩
set_option maxRecDepth 100000 in
theorem specExtOf_any {a : Option Addr} {n c : Nat} {l : List Vl} (t : Int) {w : World} (h : Vals w a n l) :
    Calls Try.prog 81 #[.slice a n c, .int .i64 t] w fun e w' => e = .returned (.int .i64 (extOf l t)) ∧ w = w' := by
  have H := Lib.hid h
  have hln := Lib.hid h.len
  have hfit := h.fits
  clear h
  go_enter Try.func81, Try.ntmps81
  go_wp2_with fail
  go_loop [5] (fun i => ∃ j : Nat, j ≤ n ∧ i = .int .i64 j ∧ ¬ t ∈ tagsX (l.take j)) (fun i => n - (intOf i).toNat)
  case atStart => exact ⟨0, Nat.zero_le _, rfl, by simp [tagsX]⟩
  case round =>
    obtain ⟨j, hj, rfl, hno⟩ := hrel
    have HN := Lib.hid hno
    clear hno
    by_cases hlt : j < n
    · obtain ⟨b, o, p, m, e, k, y, rfl, hx, hc0, hc1, hN, hr⟩ := H.out.at_ hlt
      by_cases hk : k = t
      · have HE : Hid (extOf l k = j) := Lib.hid (by
          rw [extOf_yes (tags_mem hx)]
          have := first_at (tags_at hx) (by rw [← tagsX_take]; rw [hk]; exact HN.out)
          rw [this])
        subst hk
        clear hx hN
        go_wp2_with fail
        go_ret
        exact ⟨by rw [HE.out]; rfl, rfl⟩
      · have hb : (k == t) = false := by simpa using hk
        have HS : Hid (¬ t ∈ tagsX (l.take (j + 1))) := Lib.hid (by
          rw [tags_take hx]
          intro hm
          rcases List.mem_append.1 hm with q | q
          · exact HN.out q
          · have : t = k := by simpa using q
            exact hk this.symm)
        clear hx hN hk
        go_wp2_with fail
        go_round
        case rel => exact ⟨j + 1, by omega, by go_num, HS.out⟩
        case measure => simp [intOf]; omega
    · obtain rfl : j = n := by omega
      have h1 := HN.out
      rw [List.take_of_length_le (by rw [hln.out]; omega)] at h1
      have HE := Lib.hid (extOf_no h1)
      clear h1
      go_wp2_with fail
      go_ret
      exact ⟨by rw [HE.out]; rfl, rfl⟩
set_option maxRecDepth 100000 in
theorem l9Has_any {p : Option Addr} {m c : Nat} {y : List Int} (t : Int) {w : World} (h : Nums .i64 w p m y) :
    Calls Try.prog 74 #[.slice p m c, .int .i64 t] w fun e w' => e = .returned (.bool (decide (t ∈ y))) ∧ w = w' := by
  have H := Lib.hid h
  have hl := h.len
  have hfit := h.fits
  clear h
  go_enter Try.func74, Try.ntmps74
  go_wp2_with fail
  go_loop [5] (fun i => ∃ j : Nat, j ≤ m ∧ i = .int .i64 j ∧ ¬ t ∈ y.take j) (fun i => m - (intOf i).toNat)
  case atStart => exact ⟨0, Nat.zero_le _, rfl, by simp⟩
  case round =>
    obtain ⟨j, hj, rfl, hno⟩ := hrel
    have HN := Lib.hid hno
    clear hno
    by_cases hlt : j < m
    · obtain ⟨ad, z, rfl, hz, hc⟩ := H.out.at_ hlt
      by_cases hk : z = t
      · have HE : Hid (decide (t ∈ y) = true) := Lib.hid (decide_eq_true (by rw [← hk]; exact List.mem_of_getElem? hz))
        have hb : (z == t) = true := by simpa using hk
        clear hz hk
        go_wp2_with fail
        go_ret
        exact ⟨by rw [HE.out]; rfl, rfl⟩
      · have hb : (z == t) = false := by simpa using hk
        have HS : Hid (¬ t ∈ y.take (j + 1)) := Lib.hid (by
          rw [List.take_add_one, hz]
          intro hm
          rcases List.mem_append.1 hm with q | q
          · exact HN.out q
          · have : t = z := by simpa using q
            exact hk this.symm)
        clear hz hk
        go_wp2_with fail
        go_round
        case rel => exact ⟨j + 1, by omega, by go_num, HS.out⟩
        case measure => simp [intOf]; omega
    · obtain rfl : j = m := by omega
      have h1 := HN.out
      rw [List.take_of_length_le (by omega)] at h1
      have HE := Lib.hid (decide_eq_false h1)
      clear h1
      go_wp2_with fail
      go_ret
      exact ⟨by rw [HE.out]; rfl, rfl⟩
end Go.Proofs.Ytnjjfagokbbelaa
