/- The cipher of the program, back: each byte is shifted back by the key stream. -/
import Derived.Test.YthdfdniidldkdaaCipher1
namespace Go.Proofs.Ythdfdniidldkdaa
open Go.ChangeShapes Go.WideShapes Go.ChangeAt Go.RowKit
set_option linter.unusedVariables false

set_option maxRecDepth 100000 in
theorem decrypt_any (k : Int) (a : Option Addr) (n c : Nat) (l : List Int) (w : World) (hk : Fit64 k) (h : Nums .u8 w a n l) (hn : n ≤ 1000000000) (hB : Bs l) :
    Calls Try.prog 26 #[.int .i64 k, .slice a n c] w (Made .u8 5 w.heap.size (decr k l) w) := by
  have HK := Lib.hid hk
  have H := Lib.hid h
  have HBs := Lib.hid hB
  have HL := Lib.hid h.len
  clear hk h hB
  go_enter Try.func26, Try.ntmps26
  go_wp2_with fail
  refine (keyStream_any k _).mono ?_
  rintro e w1 ⟨gm, gk, bm, rfl, hs1, hgm, hgk, hbm, hb1⟩
  have S1 := Lib.hid hs1
  have HB1 := Lib.hid hb1
  have hlt1 := hs1.lt
  obtain ⟨hl1, hl2, hl3⟩ := hlt1
  clear hs1 hb1
  go_wp2_with fail
  refine (copyBytes_any a n c l _ (H.out.same HB1.out) (by omega)).mono ?_
  rintro e w2 ⟨a2, n2, c2, rfl, ho2, hb2⟩
  obtain rfl : n = n2 := by rw [← HL.out]; exact ho2.len
  have S2 := Lib.hid (S1.out.below hb2)
  have HO2 := Lib.hid ho2
  have HB2 := Lib.hid (HB1.out.trans (hb2.mono HB1.out.size))
  have hfit := ho2.room
  clear ho2 hb2
  go_wp2
  go_loopw [14] (fun i wr => ∃ j : Nat, i = .int .i64 j ∧ j ≤ n ∧ Own .u8 5 wr w1.heap.size a2 n c2 (midTo (decAt k) l j) ∧ Stream wr gm gk bm j k ∧ Below w.heap.size w wr) (fun i _ => n - (intOf i).toNat)
  case atStart => exact ⟨0, rfl, Nat.zero_le _, by rw [midTo_zero]; exact HO2.out, S2.out, HB2.out⟩
  case round =>
    obtain ⟨j, rfl, hj, ho, hs, hb⟩ := hrel
    by_cases hlt : j < n
    · obtain ⟨x, hx⟩ : ∃ x, l[j]? = some x := ⟨_, List.getElem?_eq_getElem (by rw [HL.out]; exact hlt)⟩
      obtain ⟨hx0, hx1⟩ := HBs.out x (List.mem_of_getElem? hx)
      obtain ⟨g, rfl, hg1, hg2⟩ := ho.head (by omega)
      obtain ⟨hc, hf⟩ := ho.cellOf (midTo_get (decAt k) hx)
      have hsb := shiftAt_bd k j
      obtain ⟨hs0, hs1⟩ := hsb
      have HO := Lib.hid ho
      have HS := Lib.hid hs
      have HB := Lib.hid hb
      have HX := Lib.hid hx
      clear ho hs hb hx
      go_wp2_with fail
      go_region_with ((go_at_call 56; refine (shift_any j gm gk bm j k wr.drew (HS.out.of_heap rfl rfl rfl) HK.out (by omega) (by omega)).mono ?_; rintro e w3 ⟨rfl, hs3, hg3⟩; have HG3 : Hid (wr.grownBy w3 (some bm)) := Lib.hid ⟨hg3.os, hg3.tape, hg3.output, hg3.size, hg3.block⟩; have HS3 := Lib.hid hs3; have HO3 := Lib.hid (HO.out.far HG3.out (by omega)); obtain ⟨hc3, hf3⟩ := HO3.out.cellOf (midTo_get (decAt k) HX.out); clear hs3 hg3))
      all_goals
        go_wp2
        go_roundw
        case rel =>
          have hst := HO3.out.2.stored j (.int .u8 (decAt k j x))
          have hl3 := HS3.out.lt
          have hg0 : gm < w1.heap.size := by omega
          have hgk0 : gk < w1.heap.size := by omega
          refine ⟨j + 1, by go_num, by omega, ⟨?_, ?_⟩, ?_, ?_⟩
          · rw [midTo_len _ _ (by have := HL.out; omega)]; exact HL.out
          · rw [← midTo_step (decAt k) HX.out]
            have h1 := hst.1
            rw [← List.map_set] at h1
            exact h1
          · exact HS3.out.of_heap (heap_setCell_other _ _ _ _ (by simp; omega)) (heap_setCell_other _ _ _ _ (by simp; omega)) (heap_setCell_other _ _ _ _ (by simp; omega))
          · exact ((HB.out.grown HG3.out (HB.out.size) (fun _ e => by cases e; omega)).setCell (by simp; omega) _)
        case measure => simp [intOf]; omega
    · obtain rfl : j = n := by omega
      have HO := Lib.hid ho
      have HB := Lib.hid hb
      clear ho hs hb
      go_wp2
      go_ret
      refine ⟨_, _, _, rfl, ?_, HB.out⟩
      have h1 := HO.out
      rw [← HL.out, midTo_all, HL.out] at h1
      unfold decr
      rw [HL.out]
      exact h1.lower HB1.out.size
end Go.Proofs.Ythdfdniidldkdaa
