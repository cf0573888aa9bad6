/- The cipher of the program: each byte is shifted by the key stream, forth and back. -/
import Derived.Test.YthdfdniidldkdaaCipher0
namespace Go.Proofs.Ythdfdniidldkdaa
open Go.ChangeShapes Go.WideShapes Go.ChangeAt Go.RowKit
set_option linter.unusedVariables false

/-- A list, place by place. -/
def mapTo (f : Nat → Int → Int) (l : List Int) (j : Nat) : List Int := (List.range j).map fun r => f r (l.getD r 0)
theorem mapTo_len (f : Nat → Int → Int) (l : List Int) (j : Nat) : (mapTo f l j).length = j := by simp [mapTo]
theorem mapTo_step (f : Nat → Int → Int) {l : List Int} {j : Nat} {x : Int} (h : l[j]? = some x) : mapTo f l j ++ [f j x] = mapTo f l (j + 1) := by
  unfold mapTo
  rw [List.range_succ, List.map_append]
  simp [List.getD, h]
/-- The first j places are done, the others are as they were. -/
def midTo (f : Nat → Int → Int) (l : List Int) (j : Nat) : List Int := mapTo f l j ++ l.drop j
theorem midTo_zero (f : Nat → Int → Int) (l : List Int) : midTo f l 0 = l := by simp [midTo, mapTo]
theorem midTo_all (f : Nat → Int → Int) (l : List Int) : midTo f l l.length = mapTo f l l.length := by simp [midTo]
theorem midTo_len (f : Nat → Int → Int) (l : List Int) {j : Nat} (h : j ≤ l.length) : (midTo f l j).length = l.length := by
  unfold midTo
  rw [List.length_append, mapTo_len, List.length_drop]
  omega
theorem midTo_get (f : Nat → Int → Int) {l : List Int} {j : Nat} {x : Int} (h : l[j]? = some x) : (midTo f l j)[j]? = some x := by
  unfold midTo
  rw [List.getElem?_append_right (by rw [mapTo_len]; exact Nat.le_refl _), mapTo_len, Nat.sub_self, List.getElem?_drop, Nat.add_zero, h]
theorem midTo_step (f : Nat → Int → Int) {l : List Int} {j : Nat} {x : Int} (h : l[j]? = some x) : (midTo f l j).set j (f j x) = midTo f l (j + 1) := by
  have hj : j < l.length := by
    rcases Nat.lt_or_ge j l.length with h1 | h1
    · exact h1
    · rw [List.getElem?_eq_none h1] at h; cases h
  unfold midTo
  rw [List.set_append_right _ _ (by rw [mapTo_len]; exact Nat.le_refl _), mapTo_len, Nat.sub_self, List.drop_eq_getElem_cons hj, List.set_cons_zero, ← mapTo_step f h]
  simp
def encAt (k : Int) (i : Nat) (x : Int) : Int := (x + shiftAt k i) % 256
def decAt (k : Int) (i : Nat) (x : Int) : Int := (x - shiftAt k i) % 256
def encr (k : Int) (l : List Int) : List Int := mapTo (encAt k) l l.length
def decr (k : Int) (l : List Int) : List Int := mapTo (decAt k) l l.length
theorem encr_len (k : Int) (l : List Int) : (encr k l).length = l.length := mapTo_len _ _ _
theorem decr_len (k : Int) (l : List Int) : (decr k l).length = l.length := mapTo_len _ _ _

/-- A write to the block of a map leaves a slice of the call's own that lies elsewhere. -/
theorem Own.far {k : IntKind} {t : TypeId} {w w' : World} {B n c b : Nat} {a : Option Addr} {l : List Int} (h : Own k t w B a n c l) (hg : w.grownBy w' (some b)) (hb : b < B) : Own k t w' B a n c l := by
  cases a with
  | none => exact ⟨h.1, h.2.kept hg (Or.inl rfl)⟩
  | some ad =>
    refine ⟨h.1, h.2.kept hg (Or.inr ?_)⟩
    have := h.span ad rfl
    simp only [Value.ownBlock, ne_eq, Option.some.injEq]
    omega
theorem Own.cellOf {k : IntKind} {t : TypeId} {w : World} {B n c g : Nat} {l : List Int} (h : Own k t w B (some ⟨g, 0, none⟩) n c l) {j : Nat} {x : Int} (hx : l[j]? = some x) : w.cell? ⟨g, j, none⟩ = some (.int k x) ∧ w.frozen? ⟨g, j, none⟩ = false := by
  have hj : j < l.length := by
    rcases Nat.lt_or_ge j l.length with h1 | h1
    · exact h1
    · rw [List.getElem?_eq_none h1] at hx; cases hx
  refine ⟨?_, h.2.frozenAt j⟩
  rw [h.2.cellAt j (by have := h.1; omega), List.getElem?_map, hx]
  rfl

set_option maxRecDepth 100000 in
theorem encrypt_any (k : Int) (a : Option Addr) (n c : Nat) (l : List Int) (w : World) (hk : Fit64 k) (h : Nums .u8 w a n l) (hn : n ≤ 1000000000) (hB : Bs l) :
    Calls Try.prog 27 #[.int .i64 k, .slice a n c] w (Made .u8 5 w.heap.size (encr k l) w) := by
  have HK := Lib.hid hk
  have H := Lib.hid h
  have HBs := Lib.hid hB
  have HL := Lib.hid h.len
  clear hk h hB
  go_enter Try.func27, Try.ntmps27
  go_wp2_with fail
  refine (keyStream_any k _).mono ?_
  rintro e w1 ⟨gm, gk, bm, rfl, hs1, hgm, hgk, hbm, hb1⟩
  have S1 := Lib.hid hs1
  have HB1 := Lib.hid hb1
  have hlt1 := hs1.lt
  obtain ⟨hl1, hl2, hl3⟩ := hlt1
  clear hs1 hb1
  go_wp2_with fail
  refine (copyBytes_any a n c l _ (H.out.same HB1.out) (by omega)).mono ?_
  rintro e w2 ⟨a2, n2, c2, rfl, ho2, hb2⟩
  obtain rfl : n = n2 := by rw [← HL.out]; exact ho2.len
  have S2 := Lib.hid (S1.out.below hb2)
  have HO2 := Lib.hid ho2
  have HB2 := Lib.hid (HB1.out.trans (hb2.mono HB1.out.size))
  have hfit := ho2.room
  clear ho2 hb2
  go_wp2
  go_loopw [14] (fun i wr => ∃ j : Nat, i = .int .i64 j ∧ j ≤ n ∧ Own .u8 5 wr w1.heap.size a2 n c2 (midTo (encAt k) l j) ∧ Stream wr gm gk bm j k ∧ Below w.heap.size w wr) (fun i _ => n - (intOf i).toNat)
  case atStart => exact ⟨0, rfl, Nat.zero_le _, by rw [midTo_zero]; exact HO2.out, S2.out, HB2.out⟩
  case round =>
    obtain ⟨j, rfl, hj, ho, hs, hb⟩ := hrel
    by_cases hlt : j < n
    · obtain ⟨x, hx⟩ : ∃ x, l[j]? = some x := ⟨_, List.getElem?_eq_getElem (by rw [HL.out]; exact hlt)⟩
      obtain ⟨hx0, hx1⟩ := HBs.out x (List.mem_of_getElem? hx)
      obtain ⟨g, rfl, hg1, hg2⟩ := ho.head (by omega)
      obtain ⟨hc, hf⟩ := ho.cellOf (midTo_get (encAt k) hx)
      have hsb := shiftAt_bd k j
      obtain ⟨hs0, hs1⟩ := hsb
      have HO := Lib.hid ho
      have HS := Lib.hid hs
      have HB := Lib.hid hb
      have HX := Lib.hid hx
      clear ho hs hb hx
      go_wp2_with fail
      go_region_with ((go_at_call 56; refine (shift_any j gm gk bm j k wr.drew (HS.out.of_heap rfl rfl rfl) HK.out (by omega) (by omega)).mono ?_; rintro e w3 ⟨rfl, hs3, hg3⟩; have HG3 : Hid (wr.grownBy w3 (some bm)) := Lib.hid ⟨hg3.os, hg3.tape, hg3.output, hg3.size, hg3.block⟩; have HS3 := Lib.hid hs3; have HO3 := Lib.hid (HO.out.far HG3.out (by omega)); obtain ⟨hc3, hf3⟩ := HO3.out.cellOf (midTo_get (encAt k) HX.out); clear hs3 hg3))
      all_goals
        go_wp2
        go_roundw
        case rel =>
          have hst := HO3.out.2.stored j (.int .u8 (encAt k j x))
          have hl3 := HS3.out.lt
          have hg0 : gm < w1.heap.size := by omega
          have hgk0 : gk < w1.heap.size := by omega
          refine ⟨j + 1, by go_num, by omega, ⟨?_, ?_⟩, ?_, ?_⟩
          · rw [midTo_len _ _ (by have := HL.out; omega)]; exact HL.out
          · rw [← midTo_step (encAt k) HX.out]
            have h1 := hst.1
            rw [← List.map_set] at h1
            exact h1
          · exact HS3.out.of_heap (heap_setCell_other _ _ _ _ (by simp; omega)) (heap_setCell_other _ _ _ _ (by simp; omega)) (heap_setCell_other _ _ _ _ (by simp; omega))
          · exact ((HB.out.grown HG3.out (HB.out.size) (fun _ e => by cases e; omega)).setCell (by simp; omega) _)
        case measure => simp [intOf]; omega
    · obtain rfl : j = n := by omega
      have HO := Lib.hid ho
      have HB := Lib.hid hb
      clear ho hs hb
      go_wp2
      go_ret
      refine ⟨_, _, _, rfl, ?_, HB.out⟩
      have h1 := HO.out
      rw [← HL.out, midTo_all, HL.out] at h1
      unfold encr
      rw [HL.out]
      exact h1.lower HB1.out.size
end Go.Proofs.Ythdfdniidldkdaa
