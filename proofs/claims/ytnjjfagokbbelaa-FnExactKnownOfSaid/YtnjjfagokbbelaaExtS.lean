/- The helpers of the exact laws at lists of extensions: measured, copied, compared. -/
import Derived.Test.YtnjjfagokbbelaaValS
import Derived.Deep.QuietTactic
import Derived.BigQuiet
import Derived.RegionTactic
import Derived.StillTailTactics
import Derived.Handy
namespace Go.Proofs.Ytnjjfagokbbelaa
open Go.ChangeShapes Go.WideShapes Go.ChangeAt Go.RowKit
set_option linter.unusedVariables false

theorem infoExtS : (Try.prog.info? 57).map (fun i => (i.zero, i.size, i.bytes)) = some (some (.agg #[.int .i64 0, .slice none 0 0]), 2, 32) := by kernel_rfl
set_option maxRecDepth 100000 in
theorem szExt_any (k : Int) (a : Option Addr) (n c : Nat) (left : Int) (w : World) (hn : (n : Int) ≤ 9223372036854775807) (h0 : 0 ≤ left) (hl : left ≤ 1048576) :
    Calls Try.prog 73 #[.agg #[.int .i64 k, .slice a n c], .int .i64 left] w (Told (.int .i64 (leftOf left n)) w) := by
  by_cases h : (n : Int) ≤ left
  · have e : leftOf left n = left - n := if_pos h
    have K := Lib.hid (fun w' => szIntS_any a n c left w' hn h0 hl)
    rw [e] at K ⊢
    clear e
    go_enter Try.func73, Try.ntmps73
    go_wp2_with fail
    refine (K.out _).mono ?_
    rintro e w1 ⟨rfl, rfl⟩
    go_wp2_with fail
    go_ret
    exact ⟨rfl, (Below.refl _ w).alloc (Nat.le_refl _) _⟩
  · have e : leftOf left n = -1 := if_neg h
    have K := Lib.hid (fun w' => szIntS_any a n c left w' hn h0 hl)
    rw [e] at K ⊢
    clear e
    go_enter Try.func73, Try.ntmps73
    go_wp2_with fail
    refine (K.out _).mono ?_
    rintro e w1 ⟨rfl, rfl⟩
    go_wp2_with fail
    go_ret
    exact ⟨rfl, (Below.refl _ w).alloc (Nat.le_refl _) _⟩
set_option maxRecDepth 100000 in
theorem szExtS_yes (a : Option Addr) (n c : Nat) (l : List Vl) (left : Int) (w : World) (h : Vals w a n l) (hl : left ≤ 1048576) (hs : (n : Int) + itemsOf l ≤ left) :
    Calls Try.prog 33 #[.slice a n c, .int .i64 left] w (Told (.int .i64 (left - n - itemsOf l)) w) := by
  have H := Lib.hid h
  have hln := Lib.hid h.len
  clear h
  go_enter Try.func33, Try.ntmps33
  go_wp2_with fail
  go_loopw [1, 5] (fun q i wr => ∃ j : Nat, j ≤ n ∧ i = .int .i64 j ∧ q = .int .i64 (left - n - itemsOf (l.take j)) ∧ Below w.heap.size w wr) (fun _ i _ => n - (intOf i).toNat)
  case atStart => exact ⟨0, Nat.zero_le _, rfl, by simp [itemsOf], Below.refl _ _⟩
  case round =>
    obtain ⟨j, hj, rfl, rfl, hb⟩ := hrel
    have HB := Lib.hid hb
    clear hb
    by_cases hlt : j < n
    · obtain ⟨b, o, p, m, d, k, y, rfl, hx, hc0, hc1, hN, hr⟩ := (H.out.same HB.out).at_ hlt
      have hst := itemsOf_at hx
      have hle := itemsOf_le l (j + 1)
      have hym := hN.len
      dsimp only at hst
      have hlo : leftOf (left - n - itemsOf (l.take j)) m = left - n - itemsOf (l.take (j + 1)) := by
        unfold leftOf
        rw [if_pos (by omega)]
        omega
      have HL := Lib.hid hlo
      clear hx hN hlo
      go_wp2_with fail
      refine (szExt_any k p m d _ _ (by omega) (by omega) (by omega)).mono ?_
      rw [HL.out]
      rintro e w2 ⟨rfl, hb2⟩
      have HB2 := Lib.hid (HB.out.trans (hb2.mono HB.out.size))
      clear hb2 hc0 hc1
      go_wp2_with fail
      go_roundw
      case rel => exact ⟨j + 1, by omega, by go_num, by congr 1; omega, HB2.out⟩
      case measure => simp [intOf]; omega
    · obtain rfl : j = n := by omega
      go_wp2_with fail
      go_ret
      rw [List.take_of_length_le (by rw [hln.out]; omega)]
      exact ⟨rfl, HB.out⟩
set_option maxRecDepth 100000 in
theorem szExtS_no (a : Option Addr) (n c : Nat) (l : List Vl) (left : Int) (w : World) (h : Vals w a n l) (h0 : 0 ≤ left) (hl : left ≤ 1048576) (hs : left < (n : Int) + itemsOf l) :
    Calls Try.prog 33 #[.slice a n c, .int .i64 left] w (Told (.int .i64 (-1)) w) := by
  have H := Lib.hid h
  have hln := Lib.hid h.len
  have hfit := h.fits
  clear h
  by_cases hn : (n : Int) ≤ left
  · go_enter Try.func33, Try.ntmps33
    go_wp2_with fail
    go_loopw [1, 5] (fun q i wr => ∃ j : Nat, j ≤ n ∧ i = .int .i64 j ∧ q = .int .i64 (left - n - itemsOf (l.take j)) ∧ (n : Int) + itemsOf (l.take j) ≤ left ∧ Below w.heap.size w wr) (fun _ i _ => n - (intOf i).toNat)
    case atStart => exact ⟨0, Nat.zero_le _, rfl, by simp [itemsOf], by simp [itemsOf]; omega, Below.refl _ _⟩
    case round =>
      obtain ⟨j, hj, rfl, rfl, hin, hb⟩ := hrel
      have HB := Lib.hid hb
      clear hb
      by_cases hlt : j < n
      · obtain ⟨b, o, p, m, d, k, y, rfl, hx, hc0, hc1, hN, hr⟩ := (H.out.same HB.out).at_ hlt
        have hst := itemsOf_at hx
        have hym := hN.len
        dsimp only at hst
        clear hx hN
        by_cases hm : (m : Int) ≤ left - n - itemsOf (l.take j)
        · have hlo : leftOf (left - n - itemsOf (l.take j)) m = left - n - itemsOf (l.take (j + 1)) := by
            unfold leftOf
            rw [if_pos (by omega)]
            omega
          have HL := Lib.hid hlo
          clear hlo
          go_wp2_with fail
          refine (szExt_any k p m d _ _ (by omega) (by omega) (by omega)).mono ?_
          rw [HL.out]
          rintro e w2 ⟨rfl, hb2⟩
          have HB2 := Lib.hid (HB.out.trans (hb2.mono HB.out.size))
          clear hb2 hc0 hc1
          go_wp2_with fail
          go_roundw
          case rel => exact ⟨j + 1, by omega, by go_num, by congr 1; omega, by omega, HB2.out⟩
          case measure => simp [intOf]; omega
        · have hlo : leftOf (left - n - itemsOf (l.take j)) m = -1 := if_neg hm
          have HL := Lib.hid hlo
          clear hlo
          go_wp2_with fail
          refine (szExt_any k p m d _ _ (by omega) (by omega) (by omega)).mono ?_
          rw [HL.out]
          rintro e w2 ⟨rfl, hb2⟩
          have HB2 := Lib.hid (HB.out.trans (hb2.mono HB.out.size))
          clear hb2 hc0 hc1
          go_wp2_with fail
          go_ret
          exact ⟨rfl, HB2.out⟩
      · exfalso
        obtain rfl : j = n := by omega
        rw [List.take_of_length_le (by rw [hln.out]; omega)] at hin
        omega
  · go_enter Try.func33, Try.ntmps33
    go_wp2_with fail
    go_ret
    exact ⟨rfl, Below.refl _ _⟩
set_option maxRecDepth 100000 in
theorem toExt_any (k : Int) (a : Option Addr) (n c : Nat) (y : List Int) (w : World) (h : Nums .i64 w a n y) (hn : n ≤ 1048576000) :
    Calls Try.prog 75 #[.agg #[.int .i64 k, .slice a n c]] w fun e w' => ∃ q m d, e = .returned (.agg #[.int .i64 k, .slice q m d]) ∧ Own .i64 3 w' w.heap.size q m d y ∧ Below w.heap.size w w' := by
  have H := Lib.hid h
  clear h
  go_enter Try.func75, Try.ntmps75
  go_wp2_with fail
  have HW0 : Hid (Below w.heap.size w (((w.alloc (.cells #[.int .i64 k, .slice a n c] 88)).alloc (.cells #[.int .i64 0, .slice none 0 0] 57)).alloc (.cells #[.int .i64 k, .slice none 0 0] 57))) := Lib.hid ((((Below.refl _ w).alloc (Nat.le_refl _) _).alloc (by simp) _).alloc (by simp; omega) _)
  have hL : (((w.alloc (.cells #[.int .i64 k, .slice a n c] 88)).alloc (.cells #[.int .i64 0, .slice none 0 0] 57)).alloc (.cells #[.int .i64 k, .slice none 0 0] 57)).heap[w.heap.size + 1 + 1]? = some (.cells #[.int .i64 k, .slice none 0 0] 57 (0, 0)) := by
    have := heap_alloc_new ((w.alloc (.cells #[.int .i64 k, .slice a n c] 88)).alloc (.cells #[.int .i64 0, .slice none 0 0] 57)) (.cells #[.int .i64 k, .slice none 0 0] 57 (0, 0))
    simpa using this
  have hM : (((w.alloc (.cells #[.int .i64 k, .slice a n c] 88)).alloc (.cells #[.int .i64 0, .slice none 0 0] 57)).alloc (.cells #[.int .i64 k, .slice none 0 0] 57)).heap[w.heap.size + 1]? = some (.cells #[.int .i64 0, .slice none 0 0] 57 (0, 0)) := by
    rw [Below.heap_alloc _ _ _ (by simp)]
    have := heap_alloc_new (w.alloc (.cells #[.int .i64 k, .slice a n c] 88)) (.cells #[.int .i64 0, .slice none 0 0] 57 (0, 0))
    simpa using this
  have hsz : w.heap.size + 3 = (((w.alloc (.cells #[.int .i64 k, .slice a n c] 88)).alloc (.cells #[.int .i64 0, .slice none 0 0] 57)).alloc (.cells #[.int .i64 k, .slice none 0 0] 57)).heap.size := by simp
  generalize (((w.alloc (.cells #[.int .i64 k, .slice a n c] 88)).alloc (.cells #[.int .i64 0, .slice none 0 0] 57)).alloc (.cells #[.int .i64 k, .slice none 0 0] 57)) = W0 at *
  refine (toIntS_any a n c y _ (H.out.same HW0.out) hn).mono ?_
  rintro e w1 ⟨q, m, d, rfl, ho, hb⟩
  have hL1 : w1.heap[w.heap.size + 1 + 1]? = some (.cells #[.int .i64 k, .slice none 0 0] 57 (0, 0)) := by rw [hb.block _ (by omega)]; exact hL
  have hM1 : w1.heap[w.heap.size + 1]? = some (.cells #[.int .i64 0, .slice none 0 0] 57 (0, 0)) := by rw [hb.block _ (by omega)]; exact hM
  have hL2 := heap_setCell_same w1 (w.heap.size + 1 + 1) 1 _ _ (.slice q m d) hL1
  have c0 := (block_cell hL1 0).trans rfl
  have c1 := (block_cell hL1 1).trans rfl
  have f1 := block_frozen hL1 1
  have d0 := (block_cell hL2 0).trans rfl
  have d1 := (block_cell hL2 1).trans rfl
  have g0 := block_frozen hM1 0
  have g1 := block_frozen hM1 1
  have m0 := (block_cell hM1 0).trans rfl
  have m1 := (block_cell hM1 1).trans rfl
  have HB1 := Lib.hid (HW0.out.trans (hb.mono HW0.out.size))
  have HO := Lib.hid (ho.lower HW0.out.size)
  have HSP := Lib.hid ho.span
  have hM2 : (w1.setCell ⟨w.heap.size + 1 + 1, 1, none⟩ (.slice q m d)).heap[w.heap.size + 1]? = some (.cells #[.int .i64 0, .slice none 0 0] 57 (0, 0)) := by rw [Below.heap_setCell _ _ _ _ (by dsimp only; omega)]; exact hM1
  have hM3 := heap_setCell_same _ (w.heap.size + 1) 0 _ _ (.int .i64 k) hM2
  have hM4 := heap_setCell_same _ (w.heap.size + 1) 1 _ _ (.slice q m d) hM3
  have z0 : ((w1.setCell ⟨w.heap.size + 1 + 1, 1, none⟩ (.slice q m d)).setCell ⟨w.heap.size + 1, 0, none⟩ (.int .i64 k)).cell? ⟨w.heap.size + 1, 0, none⟩ = some (.int .i64 k) := (block_cell hM3 0).trans rfl
  have z1 : (((w1.setCell ⟨w.heap.size + 1 + 1, 1, none⟩ (.slice q m d)).setCell ⟨w.heap.size + 1, 0, none⟩ (.int .i64 k)).setCell ⟨w.heap.size + 1, 1, none⟩ (.slice q m d)).cell? ⟨w.heap.size + 1, 1, none⟩ = some (.slice q m d) := (block_cell hM4 1).trans rfl
  clear ho hb hL hM hL1 hM1 hL2 hM2 hM3 hM4
  go_wp2_with fail
  (try simp only [Exit.inBlock, Exit.then])
  refine bodyPost_ret (by simp [results, Try.results75, go_sem, z0, z1]; try rfl) rfl ?_
  have hd : ∀ x, x < w.heap.size + 3 → ∀ ad, q = some ad → ad.block ≠ x := fun x hx ad e => by
    have := (HSP.out ad e).1
    omega
  refine ⟨_, _, _, rfl, ((HO.out.set (hd _ (by omega)) _ _).set (hd _ (by omega)) _ _).set (hd _ (by omega)) _ _, ((HB1.out.setCell (by dsimp only; omega) _).setCell (by dsimp only; omega) _).setCell (by dsimp only; omega) _⟩
set_option maxRecDepth 100000 in
theorem eqExt_yes (k : Int) (a b : Option Addr) (n m c d : Nat) (y : List Int) (w : World) (h : Nums .i64 w a n y) (h' : Nums .i64 w b m y) :
    Calls Try.prog 76 #[.agg #[.int .i64 k, .slice a n c], .agg #[.int .i64 k, .slice b m d]] w (Told (.bool true) w) := by
  have H := Lib.hid h
  have H' := Lib.hid h'
  clear h h'
  go_enter Try.func76, Try.ntmps76
  go_wp2_with fail
  have HB : Hid (Below w.heap.size w ((w.alloc (.cells #[.int .i64 k, .slice a n c] 57)).alloc (.cells #[.int .i64 k, .slice b m d] 57))) := Lib.hid (((Below.refl _ w).alloc (Nat.le_refl _) _).alloc (by simp) _)
  refine (eqIntS_yes a b n m c d y _ (H.out.same HB.out) (H'.out.same HB.out)).mono ?_
  rintro e w1 ⟨rfl, hb⟩
  have HB1 := Lib.hid (HB.out.trans (hb.mono HB.out.size))
  clear hb
  go_wp2_with fail
  go_ret
  exact ⟨rfl, HB1.out⟩
set_option maxRecDepth 100000 in
theorem eqExtS_yes (a b : Option Addr) (n m c d : Nat) (l : List Vl) (w : World) (h : Vals w a n l) (h' : Vals w b m l) :
    Calls Try.prog 37 #[.slice a n c, .slice b m d] w (Told (.bool true) w) := by
  obtain rfl : n = m := by rw [← h.len, ← h'.len]
  have hn := h.fits
  have H := Lib.hid h
  have H' := Lib.hid h'
  clear h h'
  go_enter Try.func37, Try.ntmps37
  go_wp2_with fail
  go_loopw [5] (fun i wr => ∃ j : Nat, j ≤ n ∧ i = .int .i64 j ∧ Below w.heap.size w wr) (fun i _ => n - (intOf i).toNat)
  case atStart => exact ⟨0, Nat.zero_le _, rfl, Below.refl _ _⟩
  case round =>
    obtain ⟨j, hj, rfl, hb⟩ := hrel
    have HB := Lib.hid hb
    clear hb
    by_cases hlt : j < n
    · obtain ⟨b1, o1, p1, m1, d1, k1, y1, rfl, hx, hc0, hc1, hN1, hr1⟩ := (H.out.same HB.out).at_ hlt
      obtain ⟨b2, o2, p2, m2, d2, k2, y2, rfl, hy, hd0, hd1, hN2, hr2⟩ := (H'.out.same HB.out).at_ hlt
      rw [hx] at hy
      cases hy
      have HN1 := Lib.hid hN1
      have HN2 := Lib.hid hN2
      clear hx hN1 hN2
      go_wp2_with fail
      go_still_tail 8, (by kernel_rfl)
      have H2 : Hid (Below wr.heap.size wr wr.drew) := Lib.hid (Below.refl _ _).drew
      change wpList _ _ _ _ _ wr.drew
      generalize wr.drew = w2 at H2 ⊢
      go_wp2_with fail
      refine (eqExt_yes k1 p1 p2 m1 m2 d1 d2 y1 w2 (HN1.out.same H2.out) (HN2.out.same H2.out)).mono ?_
      rintro e w3 ⟨rfl, hb3⟩
      have HB3 := Lib.hid ((HB.out.trans (H2.out.mono HB.out.size)).trans (hb3.mono (Nat.le_trans HB.out.size H2.out.size)))
      clear hb3
      go_wp2
      go_roundw
      case rel => exact ⟨j + 1, by omega, by go_num, HB3.out⟩
      case measure => simp [intOf]; omega
    · go_wp2
      go_ret
      exact ⟨rfl, HB.out⟩
set_option maxRecDepth 100000 in
theorem toExtS_any (a : Option Addr) (n c : Nat) (l : List Vl) (w : World) (h : Vals w a n l) (hn : n + itemsOf l ≤ 1048576000) :
    Calls Try.prog 35 #[.slice a n c] w (MadeV 57 3 w.heap.size l w) := by
  have H := Lib.hid h
  have hl := Lib.hid h.len
  clear h
  obtain ⟨i0, hi, hz0, hz1, hz2⟩ := info_parts infoExtS
  go_enter Try.func35, Try.ntmps35
  go_wp2_with (with_reducible refine wpList_make_full _ rfl (.tmp 6) (.tmp 6) 24 rfl w.heap.size 57 i0 (.agg #[.int .i64 0, .slice none 0 0]) 2 Try.underlying24 hi hz0 hz1 .i64 .i64 _ _ n rfl rfl (by omega) (by omega) ?c1 ?c2 ?c3 ?_)
  case c1 => rw [hz2]; omega
  case c2 => unfold maxLen; omega
  case c3 => omega
  intro w1 hown hgrow
  have hb1 : Below w.heap.size w w1 := (Below.refl _ w).grown hgrow (Nat.le_refl _) (fun _ e => by cases e)
  have HO : Hid (OwnV 57 3 w1 w.heap.size (some ⟨w.heap.size, 0, none⟩) n n (l.take 0 ++ List.replicate (n - 0) ⟨0, []⟩)) := by
    have hm : (madeCells #[.int .i64 0, .slice none 0 0] (n * 2)).toList = flatOf Vh.enc (List.replicate n ⟨0, none, 0, 0⟩) := made2 n
    rw [hm] at hown
    exact Lib.hid (by simpa using OwnV.zeros hown)
  have HB := Lib.hid hb1
  clear hown hgrow hb1 hi hz0 hz1 hz2
  go_wp2_with fail
  go_loopw [4] (fun i wr => ∃ j : Nat, j ≤ n ∧ i = .int .i64 j ∧ OwnV 57 3 wr w.heap.size (some ⟨w.heap.size, 0, none⟩) n n (l.take j ++ List.replicate (n - j) ⟨0, []⟩) ∧ Below w.heap.size w wr) (fun i _ => n - (intOf i).toNat)
  case atStart => exact ⟨0, Nat.zero_le _, rfl, HO.out, HB.out⟩
  case round =>
    obtain ⟨j, hj, rfl, hown, hb⟩ := hrel
    have HO2 := Lib.hid hown
    have HB2 := Lib.hid hb
    clear hown hb
    by_cases hlt : j < n
    · obtain ⟨b, o, p, m, d, k, y, rfl, hx, hc0, hc1, hN, hr⟩ := (H.out.same HB2.out).at_ hlt
      have HX := Lib.hid hx
      have HN := Lib.hid hN
      have hm1 := hN.len
      have hm2 := itemsOf_mem hx
      dsimp only at hm2
      clear hx hN
      go_wp2_with fail
      refine (toExt_any k p m d y wr HN.out (by omega)).mono ?_
      rintro e w2 ⟨q, m2, d2, rfl, ho, hb2⟩
      obtain ⟨hs, hI, hRV⟩ := HO2.out
      have hrow := (hI.same hb2).2
      have hf0 := hrow.frozenAt (j * 2)
      have hf1 := hrow.frozenAt (j * 2 + 1)
      obtain ⟨u0, hu0⟩ := row_cell hrow (k := j * 2) (by omega)
      obtain ⟨u1, hu1⟩ := row_cell hrow (k := j * 2 + 1) (by omega)
      have hput := OwnV.put HO2.out hb2 hlt k q m2 d2 y (ho.lower HB2.out.size) (fun ad e => (ho.span ad e).1)
      rw [put_step HX.out hl.out] at hput
      have HP := Lib.hid hput
      have HB3 := Lib.hid (HB2.out.trans (hb2.mono HB2.out.size))
      clear hrow hb2 hc0 hc1 hI hRV ho hput
      go_wp2_with fail
      go_roundw
      case rel =>
        exact ⟨j + 1, by omega, by go_num, HP.out.1, grown_to (b := some ⟨w.heap.size, 0, none⟩) (m := n) (d := n) HP.out.2 HB3.out (lo := w.heap.size) (hi := w.heap.size + 1) (fun ad e => by cases e; exact ⟨Nat.le_refl _, Nat.lt_succ_self _⟩) (Nat.le_refl _) HB3.out.size⟩
      case measure => simp [intOf]; omega
    · obtain rfl : j = n := by omega
      go_wp2
      go_ret
      have h1 := HO2.out
      rw [List.take_of_length_le (by rw [hl.out]; omega), Nat.sub_self, List.replicate_zero, List.append_nil] at h1
      exact ⟨_, _, _, rfl, h1, HB2.out⟩
end Go.Proofs.Ytnjjfagokbbelaa
