/- Lists of values are compared: by the program. Lists of extensions are compared: by the program. Lists of integers are compared: by the program. A list of extensions copied, by the program. An extension between others: the cells of a list with one inserted, what each owns; whole elements copied into a block that is known. -/
import Derived.Test.YtgkacnngodamgaaG5
import Derived.Test.YtgkacnngodamgaaG4
import Derived.Test.YtgkacnngodamgaaG12
import Derived.Laws.CopyOwn
namespace Go.Proofs.Ytgkacnngodamgaa
open Go.ChangeShapes Go.WideShapes Go.ChangeAt Go.RowKit
set_option linter.unusedVariables false

theorem vl_ne {x y : Vl} (h : x ≠ y) : ¬ (x.num = y.num ∧ x.items = y.items) := fun e => h (by
  obtain ⟨a, b⟩ := x
  obtain ⟨c, d⟩ := y
  simp only at e
  rw [e.1, e.2])
end Go.Proofs.Ytgkacnngodamgaa

namespace Go.Proofs.Ytgkacnngodamgaa
open Go.ChangeShapes Go.WideShapes Go.ChangeAt Go.RowKit
set_option linter.unusedVariables false

set_option maxRecDepth 100000 in
theorem equalExt_yes {k : Int} {a b : Option Addr} {n m c d : Nat} {y : List Int} {w : World} (h : Nums .i64 w a n y) (h' : Nums .i64 w b m y) :
    Calls Try.prog 47 #[.agg #[.int .i64 k, .slice a n c], .agg #[.int .i64 k, .slice b m d]] w (Told (.bool true) w) := by
  have HB : Hid (Below w.heap.size w ((w.alloc (.cells #[.int .i64 k, .slice a n c] 57)).alloc (.cells #[.int .i64 k, .slice b m d] 57))) := Lib.hid (((Below.refl _ w).alloc (Nat.le_refl _) _).alloc (by simp) _)
  have K := Lib.hid (fun (w0 : World) (hb : Below w.heap.size w w0) => slicesEqual_yes (c := c) (d := d) (h.same hb) (h'.same hb))
  clear h h'
  go_enter Try.func47, Try.ntmps47
  go_wp2_with fail
  refine (K.out _ HB.out).mono ?_
  rintro e w1 ⟨rfl, hb⟩
  have HB1 := Lib.hid (HB.out.trans (hb.mono HB.out.size))
  clear hb
  go_wp2_with fail
  go_ret
  exact ⟨rfl, HB1.out⟩
set_option maxRecDepth 100000 in
theorem equalExt_no {k q : Int} {a b : Option Addr} {n m c d : Nat} {y z : List Int} {w : World} (h : Nums .i64 w a n y) (h' : Nums .i64 w b m z) (hne : ¬ (k = q ∧ y = z)) :
    Calls Try.prog 47 #[.agg #[.int .i64 k, .slice a n c], .agg #[.int .i64 q, .slice b m d]] w (Told (.bool false) w) := by
  have HB : Hid (Below w.heap.size w ((w.alloc (.cells #[.int .i64 k, .slice a n c] 57)).alloc (.cells #[.int .i64 q, .slice b m d] 57))) := Lib.hid (((Below.refl _ w).alloc (Nat.le_refl _) _).alloc (by simp) _)
  by_cases hk : k = q
  · subst hk
    have hyz : y ≠ z := fun e => hne ⟨rfl, e⟩
    have K := Lib.hid (fun (w0 : World) (hb : Below w.heap.size w w0) => slicesEqual_no (c := c) (d := d) (h.same hb) (h'.same hb) hyz)
    clear h h' hyz hne
    go_enter Try.func47, Try.ntmps47
    go_wp2_with fail
    refine (K.out _ HB.out).mono ?_
    rintro e w1 ⟨rfl, hb⟩
    have HB1 := Lib.hid (HB.out.trans (hb.mono HB.out.size))
    clear hb
    go_wp2_with fail
    go_ret
    exact ⟨rfl, HB1.out⟩
  · have bk : (k == q) = false := by simpa using hk
    clear h h' hne hk
    go_enter Try.func47, Try.ntmps47
    go_wp2_with fail
    go_ret
    exact ⟨rfl, HB.out⟩
set_option maxHeartbeats 1000000 in
set_option maxRecDepth 100000 in
theorem equalFuncX_yes {a b : Option Addr} {n m c d : Nat} {l : List Vl} {w : World} (h : Vals w a n l) (h' : Vals w b m l) :
    Calls Try.prog 46 #[.slice a n c, .slice b m d, .func (.func 47) #[] #[]] w (Told (.bool true) w) := by
  obtain rfl : n = m := by rw [← h.len, ← h'.len]
  have hn := h.fits
  have H := Lib.hid h
  have H' := Lib.hid h'
  clear h h'
  go_enter Try.func46, Try.ntmps46
  go_wp2_with fail
  go_loopw [17] (fun i wr => ∃ j : Nat, j ≤ n ∧ i = .int .i64 j ∧ Below w.heap.size w wr) (fun i _ => n - (intOf i).toNat)
  case atStart => exact ⟨0, Nat.zero_le _, rfl, Below.refl _ _⟩
  case round =>
    obtain ⟨j, hj, rfl, hb⟩ := hrel
    have HB := Lib.hid hb
    clear hb
    by_cases hlt : j < n
    · obtain ⟨b1, o1, p1, m1, d1, k1, y1, rfl, hx, hc0, hc1, hN1, hr1⟩ := (H.out.same HB.out).at_ hlt
      obtain ⟨b2, o2, p2, m2, d2, k2, y2, rfl, hy, hd0, hd1, hN2, hr2⟩ := (H'.out.same HB.out).at_ hlt
      rw [hx] at hy
      cases hy
      have HW : Hid (Below wr.heap.size wr ((wr.alloc (.cells #[.int .i64 k1, .slice p1 m1 d1] 57)).alloc (.cells #[.int .i64 k1, .slice p2 m2 d2] 57))) := Lib.hid (((Below.refl _ wr).alloc (Nat.le_refl _) _).alloc (by simp) _)
      have hq0 : (wr.alloc (.cells #[.int .i64 k1, .slice p1 m1 d1] 57)).cell? ⟨b2, o2 + j * 2, none⟩ = some (.int .i64 k1) := by rw [(alloc_same wr _).cell (cell_in hd0)]; exact hd0
      have hq1 : (wr.alloc (.cells #[.int .i64 k1, .slice p1 m1 d1] 57)).cell? ⟨b2, o2 + j * 2 + 1, none⟩ = some (.slice p2 m2 d2) := by rw [(alloc_same wr _).cell (cell_in hd1)]; exact hd1
      have K := Lib.hid (equalExt_yes (k := k1) (c := d1) (d := d2) (hN1.same HW.out) (hN2.same HW.out))
      clear hx hN1 hN2
      go_wp2_with fail
      refine K.out.mono ?_
      rintro e w3 ⟨rfl, hb3⟩
      have HB3 := Lib.hid ((HB.out.trans (HW.out.mono HB.out.size)).trans (hb3.mono (Nat.le_trans HB.out.size HW.out.size)))
      clear hb3 hc0 hc1 hd0 hd1 hq0 hq1
      go_wp2_with fail
      go_roundw
      case rel => exact ⟨j + 1, by omega, by go_num, HB3.out⟩
      case measure => simp [intOf]; omega
    · go_wp2_with fail
      go_ret
      exact ⟨rfl, HB.out⟩
set_option maxHeartbeats 1000000 in
set_option maxRecDepth 100000 in
theorem equalFuncX_no {a b : Option Addr} {n m c d : Nat} {l l' : List Vl} {w : World} (h : Vals w a n l) (h' : Vals w b m l') (hne : l ≠ l') :
    Calls Try.prog 46 #[.slice a n c, .slice b m d, .func (.func 47) #[] #[]] w (Told (.bool false) w) := by
  have hn := h.fits
  have hm := h'.fits
  have H := Lib.hid h
  have H' := Lib.hid h'
  have HE := Lib.hid hne
  clear h h' hne
  by_cases hnm : n = m
  · subst hnm
    go_enter Try.func46, Try.ntmps46
    go_wp2_with fail
    go_loopw [17] (fun i wr => ∃ j : Nat, j ≤ n ∧ i = .int .i64 j ∧ l.take j = l'.take j ∧ Below w.heap.size w wr) (fun i _ => n - (intOf i).toNat)
    case atStart => exact ⟨0, Nat.zero_le _, rfl, rfl, Below.refl _ _⟩
    case round =>
      obtain ⟨j, hj, rfl, ht, hb⟩ := hrel
      have HB := Lib.hid hb
      have HT := Lib.hid ht
      clear hb ht
      by_cases hlt : j < n
      · obtain ⟨b1, o1, p1, m1, d1, k1, y1, rfl, hx, hc0, hc1, hN1, hr1⟩ := (H.out.same HB.out).at_ hlt
        obtain ⟨b2, o2, p2, m2, d2, k2, y2, rfl, hy, hd0, hd1, hN2, hr2⟩ := (H'.out.same HB.out).at_ hlt
        have HW : Hid (Below wr.heap.size wr ((wr.alloc (.cells #[.int .i64 k1, .slice p1 m1 d1] 57)).alloc (.cells #[.int .i64 k2, .slice p2 m2 d2] 57))) := Lib.hid (((Below.refl _ wr).alloc (Nat.le_refl _) _).alloc (by simp) _)
        have hq0 : (wr.alloc (.cells #[.int .i64 k1, .slice p1 m1 d1] 57)).cell? ⟨b2, o2 + j * 2, none⟩ = some (.int .i64 k2) := by rw [(alloc_same wr _).cell (cell_in hd0)]; exact hd0
        have hq1 : (wr.alloc (.cells #[.int .i64 k1, .slice p1 m1 d1] 57)).cell? ⟨b2, o2 + j * 2 + 1, none⟩ = some (.slice p2 m2 d2) := by rw [(alloc_same wr _).cell (cell_in hd1)]; exact hd1
        by_cases hxy : k1 = k2 ∧ y1 = y2
        · obtain ⟨rfl, rfl⟩ := hxy
          have HX := Lib.hid hx
          have HY := Lib.hid hy
          have K := Lib.hid (equalExt_yes (k := k1) (c := d1) (d := d2) (hN1.same HW.out) (hN2.same HW.out))
          clear hx hy hN1 hN2
          go_wp2_with fail
          refine K.out.mono ?_
          rintro e w3 ⟨rfl, hb3⟩
          have HB3 := Lib.hid ((HB.out.trans (HW.out.mono HB.out.size)).trans (hb3.mono (Nat.le_trans HB.out.size HW.out.size)))
          clear hb3 hc0 hc1 hd0 hd1 hq0 hq1
          go_wp2_with fail
          go_roundw
          case rel => exact ⟨j + 1, by omega, by go_num, by rw [List.take_add_one, List.take_add_one, HX.out, HY.out, HT.out], HB3.out⟩
          case measure => simp [intOf]; omega
        · have K := Lib.hid (equalExt_no (c := d1) (d := d2) (hN1.same HW.out) (hN2.same HW.out) hxy)
          clear hx hy hN1 hN2 hxy
          go_wp2_with fail
          refine K.out.mono ?_
          rintro e w3 ⟨rfl, hb3⟩
          have HB3 := Lib.hid ((HB.out.trans (HW.out.mono HB.out.size)).trans (hb3.mono (Nat.le_trans HB.out.size HW.out.size)))
          clear hb3 hc0 hc1 hd0 hd1 hq0 hq1
          go_wp2_with fail
          go_ret
          exact ⟨rfl, HB3.out⟩
      · exfalso
        have h1 := HT.out
        rw [List.take_of_length_le (by rw [H.out.len]; omega), List.take_of_length_le (by rw [H'.out.len]; omega)] at h1
        exact HE.out h1
  · have hq : ((n : Int) != (m : Int)) = true := by simp; omega
    clear hnm
    go_enter Try.func46, Try.ntmps46
    go_wp2_with fail
    go_ret
    exact ⟨rfl, Below.refl _ _⟩
set_option maxRecDepth 100000 in
theorem equalExts_yes {a b : Option Addr} {n m c d : Nat} {l : List Vl} {w : World} (h : Vals w a n l) (h' : Vals w b m l) :
    Calls Try.prog 13 #[.slice a n c, .slice b m d] w (Told (.bool true) w) := by
  have K := Lib.hid (equalFuncX_yes (c := c) (d := d) h h')
  clear h h'
  go_enter Try.func13, Try.ntmps13
  go_wp2_with fail
  refine K.out.mono ?_
  rintro e w1 ⟨rfl, hb1⟩
  have HB1 := Lib.hid hb1
  clear hb1
  go_wp2
  go_ret
  exact ⟨rfl, HB1.out⟩
set_option maxRecDepth 100000 in
theorem equalExts_no {a b : Option Addr} {n m c d : Nat} {l l' : List Vl} {w : World} (h : Vals w a n l) (h' : Vals w b m l') (hne : l ≠ l') :
    Calls Try.prog 13 #[.slice a n c, .slice b m d] w (Told (.bool false) w) := by
  have K := Lib.hid (equalFuncX_no (c := c) (d := d) h h' hne)
  clear h h' hne
  go_enter Try.func13, Try.ntmps13
  go_wp2_with fail
  refine K.out.mono ?_
  rintro e w1 ⟨rfl, hb1⟩
  have HB1 := Lib.hid hb1
  clear hb1
  go_wp2
  go_ret
  exact ⟨rfl, HB1.out⟩
end Go.Proofs.Ytgkacnngodamgaa
namespace Go.Proofs.Ytgkacnngodamgaa
open Go.ChangeShapes Go.WideShapes Go.ChangeAt Go.RowKit
set_option linter.unusedVariables false

set_option maxRecDepth 100000 in
theorem equalInts_yes {a b : Option Addr} {n m c d : Nat} {l : List Int} {w : World} (h : Nums .i64 w a n l) (h' : Nums .i64 w b m l) :
    Calls Try.prog 15 #[.slice a n c, .slice b m d] w (Told (.bool true) w) := by
  have H := Lib.hid h
  have H' := Lib.hid h'
  clear h h'
  go_enter Try.func15, Try.ntmps15
  go_wp2_with fail
  refine (slicesEqual_yes H.out H'.out).mono ?_
  rintro e w1 ⟨rfl, hb1⟩
  have HB1 := Lib.hid hb1
  clear hb1
  go_wp2
  go_ret
  exact ⟨rfl, HB1.out⟩
set_option maxRecDepth 100000 in
theorem equalInts_no {a b : Option Addr} {n m c d : Nat} {l l' : List Int} {w : World} (h : Nums .i64 w a n l) (h' : Nums .i64 w b m l') (hne : l ≠ l') :
    Calls Try.prog 15 #[.slice a n c, .slice b m d] w (Told (.bool false) w) := by
  have H := Lib.hid h
  have H' := Lib.hid h'
  have HE := Lib.hid hne
  clear h h' hne
  go_enter Try.func15, Try.ntmps15
  go_wp2_with fail
  refine (slicesEqual_no H.out H'.out HE.out).mono ?_
  rintro e w1 ⟨rfl, hb1⟩
  have HB1 := Lib.hid hb1
  clear hb1
  go_wp2
  go_ret
  exact ⟨rfl, HB1.out⟩
end Go.Proofs.Ytgkacnngodamgaa
namespace Go.Proofs.Ytgkacnngodamgaa
open Go.ChangeShapes Go.WideShapes Go.ChangeAt Go.RowKit
set_option linter.unusedVariables false
set_option linter.unusedSimpArgs false

theorem OwnV.head {tO tI : TypeId} {w : World} {B n c : Nat} {a : Option Addr} {l : List Vl} (h : OwnV tO tI w B a n c l) (hn : 0 < n) : ∃ g, a = some ⟨g, 0, none⟩ ∧ B ≤ g ∧ g < w.heap.size := by
  obtain ⟨hs, h1, h2⟩ := h
  exact h1.head hn
set_option maxHeartbeats 4000000 in
set_option maxRecDepth 100000 in
theorem copyExts_any {a : Option Addr} {n c : Nat} {l : List Vl} {w : World} (h : Vals w a n l) (hn : n ≤ 1048576) (hit : itemsOf l ≤ 1048576) :
    Calls Try.prog 59 #[.slice a n c] w (fun e w' => ∃ g d, e = .returned (.slice (some ⟨g, 0, none⟩) n d) ∧ OwnV 57 3 w' w.heap.size (some ⟨g, 0, none⟩) n d l ∧ Below w.heap.size w w') := by
  have H := Lib.hid h
  have hln := Lib.hid h.len
  obtain ⟨i0, hi, hz0, hz1, hz2⟩ := info_parts infoExtS
  have HI := Lib.hid (And.intro hi (And.intro hz0 (And.intro hz1 hz2)))
  clear h hi hz0 hz1 hz2
  go_enter Try.func59, Try.ntmps59
  go_wp2_with (with_reducible refine wpList_make_own _ rfl (.const (.int .i64 0)) (.tmp 7) 24 rfl w.heap.size 57 i0 (.agg #[.int .i64 0, .slice none 0 0]) 2 Try.underlying24 HI.out.1 HI.out.2.1 HI.out.2.2.1 .i64 .i64 _ n rfl rfl rfl ?c1 ?c2 ?c3 ?_)
  case c1 => rw [HI.out.2.2.2]; omega
  case c2 => unfold maxLen; omega
  case c3 => exact Nat.le_refl _
  intro w1 hown hgrow
  have hb1 : Below w.heap.size w w1 := (Below.refl _ w).grown hgrow (Nat.le_refl _) (fun _ e => by cases e)
  have HO : Hid (OwnV 57 3 w1 w.heap.size (some ⟨w.heap.size, 0, none⟩) 0 n (l.take 0)) := Lib.hid ⟨[], ⟨rfl, hown⟩, by simp, fun j g x h => by simp at h, fun i j h k _ h' => by simp at h'⟩
  have HB := Lib.hid hb1
  clear hown hgrow hb1
  go_wp2_with fail
  go_loopw [3, 11] (fun v i wr => ∃ (j g d : Nat), j ≤ n ∧ i = .int .i64 j ∧ v = .slice (some ⟨g, 0, none⟩) j d ∧ OwnV 57 3 wr w.heap.size (some ⟨g, 0, none⟩) j d (l.take j) ∧ Below w.heap.size w wr) (fun _ i _ => n - (intOf i).toNat)
  case atStart => exact ⟨0, _, _, Nat.zero_le _, rfl, rfl, HO.out, HB.out⟩
  case round =>
    obtain ⟨j, g, d, hj, rfl, rfl, hown, hb⟩ := hrel
    have HO2 := Lib.hid hown
    have HB2 := Lib.hid hb
    clear hown hb
    by_cases hlt : j < n
    · obtain ⟨bb, o, p, pm, pd, k, y, rfl, hx, hc0, hc1, hN, hr⟩ := (H.out.same HB2.out).at_ hlt
      have hsz := HB2.out.size
      have hym := hN.len
      have hyi := itemsOf_mem hx
      dsimp only at hyi
      have HF : Hid (l.take (j + 1) = l.take j ++ [⟨k, y⟩]) := Lib.hid (by rw [List.take_add_one, hx]; rfl)
      have HW : Hid (Below wr.heap.size wr (wr.alloc (.cells #[.int .i64 k, .slice p pm pd] 57))) := Lib.hid (alloc_same _ _)
      have hs2 : wr.heap.size ≤ (wr.alloc (.cells #[.int .i64 k, .slice p pm pd] 57)).heap.size := HW.out.size
      have HC := Lib.hid (copyExt_any k p pm pd y _ (hN.same HW.out) (by omega))
      unfold MadeX at HC
      clear hx hN
      go_wp2_with fail
      refine HC.out.mono ?_
      rintro e3 w3 ⟨q3, m3, d3, rfl, ho3, hb3⟩
      have HO3 := Lib.hid ho3
      have HB4 := Lib.hid (HW.out.trans (hb3.mono hs2))
      have hs4 := HB4.out.size
      have HNN : Hid (Items Vh.enc 2 (w3.alloc (.cells #[.int .i64 k, .slice q3 m3 d3] 57)) (some ⟨w3.heap.size, 0, none⟩) 1 [⟨k, q3, m3, d3⟩]) := Lib.hid (items_new Vh.enc_len w3 ⟨k, q3, m3, d3⟩ 57)
      clear hb3 hc0 hc1 ho3
      go_wp2_with (at_builtin; refine wpl_appV (S := wr.heap.size) (B := w.heap.size) _ rfl (.tmp 15) (.tmp 18) 24 rfl 57 3 i0 (.agg #[.int .i64 0, .slice none 0 0]) 32 Try.underlying24 HI.out.1 HI.out.2.1 HI.out.2.2.1 HI.out.2.2.2 rfl rfl ((HO2.out.lim.same HB4.out).same (alloc_same _ _)) rfl HNN.out ((HO3.out.lower (by omega)).alloc _) (fun ad e => by have := (HO3.out.span ad e).1; omega) (by omega) ?c4 ?c5 ?_)
      case c4 => omega
      case c5 => simp; omega
      intro a4 c4 w4 ho4 hb4
      obtain ⟨g4, rfl, _, _⟩ := ho4.head (by omega)
      have HO4 : Hid (OwnV 57 3 w4 w.heap.size (some ⟨g4, 0, none⟩) (j + 1) c4 (l.take (j + 1))) := Lib.hid (by rw [HF.out]; exact ho4)
      have HB5 : Hid (Below w.heap.size w w4) := Lib.hid ((HB2.out.trans (HB4.out.mono hsz)).trans ((((alloc_same _ _).mono (Nat.le_trans hsz hs4))).trans hb4))
      clear ho4 hb4
      go_wp2_with fail
      go_roundw
      case rel => exact ⟨j + 1, g4, c4, by omega, by go_num, rfl, HO4.out, HB5.out⟩
      case measure => simp [intOf]; omega
    · obtain rfl : j = n := by omega
      go_wp2
      go_ret
      have h1 := HO2.out
      rw [List.take_of_length_le (by rw [hln.out]; omega)] at h1
      exact ⟨_, _, rfl, h1, HB2.out⟩
end Go.Proofs.Ytgkacnngodamgaa
namespace Go.Proofs.Ytgkacnngodamgaa
open Go.ChangeShapes Go.WideShapes Go.ChangeAt Go.RowKit
set_option linter.unusedVariables false

theorem at_insert {α : Type} (l : List α) (k : Nat) (x : α) (hk : k ≤ l.length) (i : Nat) : (l.take k ++ x :: l.drop k)[i]? = if i < k then l[i]? else if i = k then some x else l[i - 1]? := by
  have hl : (l.take k).length = k := by rw [List.length_take]; omega
  split
  · rename_i h
    rw [List.getElem?_append_left (by omega), List.getElem?_take_of_lt h]
  · rename_i h
    rw [List.getElem?_append_right (by omega), hl]
    split
    · rename_i e
      subst e
      simp
    · rename_i e
      obtain ⟨j, hj⟩ : ∃ j, i - k = j + 1 := ⟨i - k - 1, by omega⟩
      rw [hj, List.getElem?_cons_succ, List.getElem?_drop]
      congr 1
      omega
theorem RowsV.insert {tI : TypeId} {w : World} {B q k : Nat} {a : Option Addr} {hs : List Vh} {l : List Vl} {x : Vh} {y : Vl} (hr : RowsV tI w B a hs l) (hk : k ≤ l.length)
    (hx : y.num = x.num ∧ Own .i64 tI w B x.p x.m x.c y.items) (hnew : ∀ (j : Nat) (h : Vh) ad bd, hs[j]? = some h → h.p = some ad → x.p = some bd → ad.block ≠ bd.block)
    (hq : ∀ (j : Nat) (h : Vh) ad, hs[j]? = some h → h.p = some ad → ad.block ≠ q) (hxq : ∀ ad, x.p = some ad → ad.block ≠ q) :
    RowsV tI w B (some ⟨q, 0, none⟩) (hs.take k ++ x :: hs.drop k) (l.take k ++ y :: l.drop k) := by
  have hk2 : k ≤ hs.length := by rw [hr.1]; exact hk
  refine ⟨by have := hr.1; simp; omega, ?_, ?_⟩
  · intro j h z e1 e2
    rw [at_insert _ _ _ hk2] at e1
    rw [at_insert _ _ _ hk] at e2
    by_cases h1 : j < k
    · rw [if_pos h1] at e1 e2
      obtain ⟨q1, q2, _⟩ := hr.2.1 j h z e1 e2
      exact ⟨q1, q2, fun ad bd e3 e4 => by cases e4; exact hq j h ad e1 e3⟩
    · rw [if_neg h1] at e1 e2
      by_cases h2 : j = k
      · rw [if_pos h2] at e1 e2
        cases e1
        cases e2
        exact ⟨hx.1, hx.2, fun ad bd e3 e4 => by cases e4; exact hxq ad e3⟩
      · rw [if_neg h2] at e1 e2
        obtain ⟨q1, q2, _⟩ := hr.2.1 (j - 1) h z e1 e2
        exact ⟨q1, q2, fun ad bd e3 e4 => by cases e4; exact hq (j - 1) h ad e1 e3⟩
  · intro i j h g hij e1 e2 ad bd e3 e4
    rw [at_insert _ _ _ hk2] at e1 e2
    by_cases h1 : i < k
    · rw [if_pos h1] at e1
      by_cases h2 : j < k
      · rw [if_pos h2] at e2
        exact hr.2.2 i j h g hij e1 e2 ad bd e3 e4
      · rw [if_neg h2] at e2
        by_cases h3 : j = k
        · rw [if_pos h3] at e2
          cases e2
          exact hnew i h ad bd e1 e3 e4
        · rw [if_neg h3] at e2
          exact hr.2.2 i (j - 1) h g (by omega) e1 e2 ad bd e3 e4
    · rw [if_neg h1] at e1
      rw [if_neg (by omega), if_neg (by omega)] at e2
      by_cases h3 : i = k
      · rw [if_pos h3] at e1
        cases e1
        exact fun e => hnew (j - 1) g bd ad e2 e4 e3 e.symm
      · rw [if_neg h3] at e1
        exact hr.2.2 (i - 1) (j - 1) h g (by omega) e1 e2 ad bd e3 e4
section
variable {P : Program} (w : World)
/-- Whole elements of s cells copied into a block that is known. -/
theorem run_copyAt (dT sT ty e : TypeId) (i : TypeInfo) {s : Nat} (hu : P.underlying dT = some (.slice e)) (hi : P.info? e = some i) (hsize : i.size = s) {g o nd dc ns sc : Nat} {ad : Addr} {cur : Array Value} {F : List Value}
    (hg : w.heap[g]? = some (.cells cur e (0, 0))) (m : Nat) (hm : Nat.min ns nd = m) (hF : F.length = m * s) (hr : ∀ j v, F[j]? = some v → w.cell? (ad.add j) = some v) (hfit : o + F.length ≤ cur.size) (h1 : ∀ v ∈ F, v.oneCell' = true) :
    (Builtin.copy_ #[dT, sT] ty #[.slice (some ⟨g, o, none⟩) nd dc, .slice (some ad) ns sc]).run P w = .ok (goInt (m : Nat)) (w.setRow g (cur.toList.take o ++ F ++ cur.toList.drop (o + F.length)).toArray) := by
  have hld : (loadCells ad (Nat.min ns nd * s)).run P w = .ok F.toArray w := by
    rw [hm, ← hF]
    exact run_loadCells_list (P := P) w ad F hr
  have hst := run_storeCells_at P g o e F 0 cur w hg (by omega) h1
  rw [Nat.add_zero] at hst
  have hm2 : min ns nd = m := hm
  have hld2 : (loadCells ad (m * s)).run P w = .ok F.toArray w := by rw [← hm]; exact hld
  simp [Builtin.copy_, run_underlying hu, Builtin.lenOf, Builtin.firstCells, sizeOf, typeInfo, hi, hsize, hm2, hld2, hst]
end
/-- What a copy leaves of a block's cells. -/
def putAt (o : Nat) (F cur : List Value) : List Value := cur.take o ++ F ++ cur.drop (o + F.length)
theorem putAt_len {o : Nat} {F cur : List Value} (h : o + F.length ≤ cur.length) : (putAt o F cur).length = cur.length := by
  unfold putAt
  simp
  omega
theorem ownV_block {t : TypeId} {w : World} {B g n c : Nat} {hs : List Vh} (h : OwnI Vh.enc 2 t w B (some ⟨g, 0, none⟩) n c hs) :
    ∃ R cur, w.heap[g]? = some (.cells cur t (0, 0)) ∧ cur.toList = flatOf Vh.enc hs ++ R ∧ B ≤ g ∧ n ≤ c ∧ c ≤ maxLen := by
  rcases h.row.2 with ⟨e, _⟩ | ⟨g', cap, cur, e, hb, hg, hn, hm, hs, ht⟩
  · cases e
  · cases e
    refine ⟨cur.toList.drop (n * 2), cur, hg, ?_, hb, hn, hm⟩
    rw [← ht, List.take_append_drop]
theorem flatV_split (l : List Vh) (k : Nat) : flatOf Vh.enc l = flatOf Vh.enc (l.take k) ++ flatOf Vh.enc (l.drop k) := by rw [← flatOf_app, List.take_append_drop]
theorem flatV_cells (l : List Vh) : ∀ v ∈ flatOf Vh.enc l, v.oneCell' = true := by
  intro v hv
  obtain ⟨x, _, hx⟩ := List.mem_flatMap.1 hv
  exact Vh.cells x v hx
/-- The cells, step by step: the front copied, the element stored, the rest copied. -/
theorem cells_insert (A D Z : List Value) (v0 v1 : Value) (hz : Z.length = A.length + 2 + D.length) :
    putAt (A.length + 2) D (((putAt 0 A Z).set A.length v0).set (A.length + 1) v1) = A ++ [v0, v1] ++ D := by
  have e1 : putAt 0 A Z = A ++ Z.drop A.length := by unfold putAt; simp
  obtain ⟨z0, z1, R, hR⟩ : ∃ z0 z1 R, Z.drop A.length = z0 :: z1 :: R := by
    rcases h : Z.drop A.length with _ | ⟨z0, _ | ⟨z1, R⟩⟩
    · have := congrArg List.length h; simp at this; omega
    · have := congrArg List.length h; simp at this; omega
    · exact ⟨z0, z1, R, rfl⟩
  have hRl : R.length = D.length := by
    have := congrArg List.length hR
    simp at this
    omega
  have e2 : ((A ++ z0 :: z1 :: R).set A.length v0).set (A.length + 1) v1 = A ++ v0 :: v1 :: R := by
    rw [List.set_append_right _ _ (Nat.le_refl _), Nat.sub_self, List.set_cons_zero, List.set_append_right _ _ (by omega), show A.length + 1 - A.length = 1 by omega, List.set_cons_succ, List.set_cons_zero]
  rw [e1, hR, e2]
  unfold putAt
  have e3 : (A ++ v0 :: v1 :: R) = (A ++ [v0, v1]) ++ R := by simp
  have e4 : A.length + 2 = (A ++ [v0, v1]).length := by simp
  rw [e3, e4, List.take_left, ← List.drop_drop, List.drop_left, List.drop_of_length_le (by omega), List.append_nil]
end Go.Proofs.Ytgkacnngodamgaa
