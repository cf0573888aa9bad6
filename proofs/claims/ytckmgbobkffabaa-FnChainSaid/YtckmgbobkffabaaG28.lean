/- Lists of integers are compared: by the model. The pairs of states that are reached: by the model. -/
import Derived.Test.YtckmgbobkffabaaG1
import Derived.Deep.QuietTactic
import Derived.BigQuiet
import Derived.RegionTactic
import Derived.Test.YtckmgbobkffabaaG27
import Derived.Test.YtckmgbobkffabaaG22
namespace Go.Proofs.Ytckmgbobkffabaa
open Go.ChangeShapes Go.WideShapes Go.ChangeAt Go.RowKit
set_option linter.unusedVariables false

set_option maxRecDepth 100000 in
theorem specEqualInts_yes {a b : Option Addr} {n m c d : Nat} {l : List Int} {w : World} (h : Nums .i64 w a n l) (h' : Nums .i64 w b m l) :
  Calls Try.prog 103 #[.slice a n c, .slice b m d] w (Told (.bool true) w) := by
 obtain rfl : n = m := by rw [← h.len, ← h'.len]
 have hn := h.fits
 have H := Lib.hid h
 have H' := Lib.hid h'
 clear h h'
 go_enter Try.func103, Try.ntmps103
 go_wp2
 go_loopw [5] (fun i wr => ∃ j : Nat, j ≤ n ∧ i = .int .i64 j ∧ Below w.heap.size w wr) (fun i _ => n - (intOf i).toNat)
 case atStart => exact ⟨0, Nat.zero_le _, rfl, Below.refl _ _⟩
 case round =>
  obtain ⟨j, hj, rfl, hb⟩ := hrel
  have HB := Lib.hid hb
  clear hb
  by_cases hlt : j < n
  ·obtain ⟨ad, x, rfl, hx, hc⟩ := (H.out.same HB.out).at_ hlt
   obtain ⟨be, y, rfl, hy, hc'⟩ := (H'.out.same HB.out).at_ hlt
   rw [hx] at hy
   cases hy
   clear hx
   go_wp2
   go_quiet (fail)
   go_wp2
   go_roundw
   case rel => exact ⟨j + 1, by omega, by go_num, HB.out.trans ((drewN_same _ _).mono HB.out.size)⟩
   case measure => simp [intOf]; omega
  ·go_wp2
   go_ret
   exact ⟨rfl, HB.out⟩
set_option maxRecDepth 100000 in
theorem specEqualInts_no {a b : Option Addr} {n m c d : Nat} {l l' : List Int} {w : World} (h : Nums .i64 w a n l) (h' : Nums .i64 w b m l') (hne : l ≠ l') :
  Calls Try.prog 103 #[.slice a n c, .slice b m d] w (Told (.bool false) w) := by
 have hn := h.fits
 have hm := h'.fits
 have H := Lib.hid h
 have H' := Lib.hid h'
 have HE := Lib.hid hne
 clear h h' hne
 by_cases hnm : n = m
 ·subst hnm
  go_enter Try.func103, Try.ntmps103
  go_wp2
  go_loopw [5] (fun i wr => ∃ j : Nat, j ≤ n ∧ i = .int .i64 j ∧ l.take j = l'.take j ∧ Below w.heap.size w wr) (fun i _ => n - (intOf i).toNat)
  case atStart => exact ⟨0, Nat.zero_le _, rfl, rfl, Below.refl _ _⟩
  case round =>
   obtain ⟨j, hj, rfl, ht, hb⟩ := hrel
   have HB := Lib.hid hb
   have HT := Lib.hid ht
   clear hb ht
   by_cases hlt : j < n
   ·obtain ⟨ad, x, rfl, hx, hc⟩ := (H.out.same HB.out).at_ hlt
    obtain ⟨be, y, rfl, hy, hc'⟩ := (H'.out.same HB.out).at_ hlt
    have HX := Lib.hid hx
    have HY := Lib.hid hy
    clear hx hy
    by_cases hxy : x = y
    ·subst hxy
     go_wp2
     go_quiet (fail)
     go_wp2
     go_roundw
     case rel => exact ⟨j + 1, by omega, by go_num, by rw [List.take_add_one, List.take_add_one, HX.out, HY.out, HT.out], HB.out.trans ((drewN_same _ _).mono HB.out.size)⟩
     case measure => simp [intOf]; omega
    ·have hq : (x != y) = true := by simp [hxy]
     clear hxy
     go_wp2
     go_quiet (fail)
     go_wp2
     go_ret
     exact ⟨rfl, HB.out.trans ((drewN_same _ _).mono HB.out.size)⟩
   ·exfalso
    have h1 := HT.out
    rw [List.take_of_length_le (by rw [H.out.len]; omega), List.take_of_length_le (by rw [H'.out.len]; omega)] at h1
    exact HE.out h1
 ·have hq : ((n : Int) != (m : Int)) = true := by simp; omega
  clear hnm
  go_enter Try.func103, Try.ntmps103
  go_wp2
  go_ret
  exact ⟨rfl, Below.refl _ _⟩
end Go.Proofs.Ytckmgbobkffabaa
namespace Go.Proofs.Ytckmgbobkffabaa
open Go.ChangeShapes Go.WideShapes Go.ChangeAt Go.RowKit
set_option linter.unusedVariables false
set_option linter.unusedSimpArgs false

set_option maxHeartbeats 1000000 in
set_option maxRecDepth 100000 in
theorem l14Has_any {rs : List Nat} {S B g n c r : Nat} {l : List (Int × Int)} {p : Int × Int} {w : World} (h : OwnRs rs S w B g n c l) (hr : w.heap[r]? = some (two p)) :
  Calls Try.prog 79 #[.slice (some ⟨g, 0, none⟩) n c, .slice (some ⟨r, 0, none⟩) 2 2] w (Told (.bool (decide (p ∈ l))) w) := by
 have hl := h.count
 have hroom := h.room
 have H := Lib.hid h
 have HP := Lib.hid (two_own (B := 0) hr (by omega)).nums
 clear h hr
 go_enter Try.func79, Try.ntmps79
 go_wp2_with fail
 go_loopw [5] (fun i wr => ∃ j : Nat, j ≤ n ∧ i = .int .i64 j ∧ (∀ y ∈ l.take j, y ≠ p) ∧ Below w.heap.size w wr) (fun i _ => n - (intOf i).toNat)
 case atStart => exact ⟨0, Nat.zero_le _, rfl, by simp, Below.refl _ _⟩
 case round =>
  obtain ⟨j, hj, rfl, hno, hb⟩ := hrel
  have HN := Lib.hid hno
  have HB := Lib.hid hb
  clear hno hb
  by_cases hlt : j < n
  ·obtain ⟨r7, p7, hr7, hp7, hc7, hrow7, v1, v2, v3⟩ := (H.out.same HB.out).at_ hlt
   have HN7 := Lib.hid (two_own hrow7 v1).nums
   have HP7 := Lib.hid hp7
   clear hr7 hp7 hrow7 v1 v2 v3
   by_cases he : p7 = p
   ·subst he
    have HE := Lib.hid (specEqualInts_yes (c := 2) (d := 2) HN7.out (HP.out.same HB.out))
    have HD : Hid (decide (p7 ∈ l) = true) := Lib.hid (decide_eq_true (List.mem_of_getElem? HP7.out))
    go_wp2_with fail
    refine HE.out.mono ?_
    rintro e w2 ⟨rfl, hb2⟩
    have HB2 := Lib.hid (HB.out.trans (hb2.mono HB.out.size))
    clear hb2
    go_wp2_with fail
    go_ret
    exact ⟨by rw [HD.out]; try rfl, HB2.out⟩
   ·have hne : [p7.1, p7.2] ≠ [p.1, p.2] := fun e => he (by
     injection e with e1 e2
     injection e2 with e2 _
     exact Prod.ext e1 e2)
    have HE := Lib.hid (specEqualInts_no (c := 2) (d := 2) HN7.out (HP.out.same HB.out) hne)
    have HNN : Hid (∀ y ∈ l.take (j + 1), y ≠ p) := Lib.hid (by
     intro y hy
     rw [List.take_add_one, HP7.out] at hy
     rcases List.mem_append.1 hy with h | h
     ·exact HN.out y h
     ·have : y = p7 := by simpa using h
      rw [this]
      exact he)
    clear hne he
    go_wp2_with fail
    refine HE.out.mono ?_
    rintro e w2 ⟨rfl, hb2⟩
    have HB2 := Lib.hid (HB.out.trans (hb2.mono HB.out.size))
    clear hb2
    go_wp2_with fail
    go_roundw
    case rel => exact ⟨j + 1, by omega, by go_num, HNN.out, HB2.out⟩
    case measure => simp [intOf]; omega
  ·obtain rfl : j = n := by omega
   have HD : Hid (decide (p ∈ l) = false) := Lib.hid (decide_eq_false fun hm => by
    have := HN.out p (by rw [List.take_of_length_le (by omega)]; exact hm)
    exact this rfl)
   go_wp2_with fail
   go_ret
   exact ⟨by rw [HD.out]; try rfl, HB.out⟩
set_option maxHeartbeats 8000000 in
set_option maxRecDepth 100000 in
theorem specPairsOf_any {va vb : Value} {a b : Mac} {w : World} (ha : MacW w va a) (hb : MacW w vb b) (hn : a.parts ≤ 10000000) (hn' : b.parts ≤ 10000000) :
  Calls Try.prog 35 #[va, vb] w (MadeR w.heap.size (pairsP a b) w) := by
 obtain ⟨p, np, cp, q, n, c, rfl⟩ := ha.shape
 obtain ⟨p', np', cp', q', n', c', rfl⟩ := hb.shape
 obtain ⟨i0, hi, hz0, hz1, hz2⟩ := info_parts infoR
 have HI := Lib.hid (And.intro hi (And.intro hz0 (And.intro hz1 hz2)))
 clear hi hz0 hz1 hz2
 obtain ⟨hB, hX, hY, hS⟩ := twice w #[.int .i64 a.st, .slice p np cp, .slice q n c] #[.int .i64 b.st, .slice p' np' cp', .slice q' n' c'] 27 27
 have HB := Lib.hid hB
 have HX := Lib.hid hX
 have HY := Lib.hid hY
 have HSZ := Lib.hid hS
 have HMA := Lib.hid (ha.same hB)
 have HMB := Lib.hid (hb.same hB)
 have hxl : w.heap.size < ((w.alloc (.cells #[.int .i64 a.st, .slice p np cp, .slice q n c] 27)).alloc (.cells #[.int .i64 b.st, .slice p' np' cp', .slice q' n' c'] 27)).heap.size := (Array.getElem?_eq_some_iff.1 hX).1
 have hyl : w.heap.size + 1 < ((w.alloc (.cells #[.int .i64 a.st, .slice p np cp, .slice q n c] 27)).alloc (.cells #[.int .i64 b.st, .slice p' np' cp', .slice q' n' c'] 27)).heap.size := (Array.getElem?_eq_some_iff.1 hY).1
 clear hB hX hY hS ha hb
 have HIA := Lib.hid (fun W' hb' => specIsMachine_any (HMA.out.same (w' := W') hb'))
 have HIB := Lib.hid (fun W' hb' => specIsMachine_any (HMB.out.same (w' := W') hb'))
 unfold MadeR
 obtain ⟨x0, x1, x2, -⟩ := three_cells ((alloc_same _ (.cells #[] 31)).block _ hxl |>.trans HX.out)
 go_enter Try.func35, Try.ntmps35
 go_wp2_with fail
 clear x0 x1 x2
 generalize (w.alloc (.cells #[.int .i64 a.st, .slice p np cp, .slice q n c] 27)).alloc (.cells #[.int .i64 b.st, .slice p' np' cp', .slice q' n' c'] 27) = W0 at *
 have HA1 := Lib.hid (alloc_same W0 (.cells #[] 31))
 have hO1 := (OwnRs.nil (w := W0) (Nat.le_refl W0.heap.size))
 rw [← World.size_alloc W0 (.cells #[] 31)] at hO1
 have HO1 : Hid (OwnRs [] (W0.alloc (.cells #[] 31)).heap.size (W0.alloc (.cells #[] 31)) W0.heap.size (w.heap.size + 1 + 1) 0 0 []) := Lib.hid (by
  have e := HSZ.out
  rw [show w.heap.size + 1 + 1 = W0.heap.size by omega]
  exact hO1)
 clear hO1
 generalize W0.alloc (.cells #[] 31) = W1 at *
 refine (HIA.out W1 HA1.out).mono ?_
 rintro e w2 ⟨rfl, hb2⟩
 have HD2 : Hid (Below W0.heap.size W0 w2) := Lib.hid (HA1.out.trans (hb2.mono HA1.out.size))
 have HO2 := Lib.hid ((HO1.out.same hb2).upper hb2.size (Nat.le_refl _))
 clear hb2 HO1 HA1
 have hge : w.heap.size ≤ W0.heap.size := HB.out.size
 cases qa : isMac a with
 | false =>
  have HR : Hid (pairsP a b = []) := Lib.hid (by unfold pairsP; rw [qa]; rfl)
  clear qa
  go_wp2_with fail
  go_ret
  exact ⟨_, _, _, rfl, by rw [HR.out]; exact ⟨[], HO2.out.lower hge⟩, HB.out.trans (HD2.out.mono hge)⟩
 | true =>
  obtain ⟨y0, y1, y2, -⟩ := three_cells ((HD2.out.block _ hyl).trans HY.out)
  go_wp2_with fail
  clear y0 y1 y2
  refine (HIB.out w2 HD2.out).mono ?_
  rintro e w3 ⟨rfl, hb3⟩
  have HD3 : Hid (Below W0.heap.size W0 w3) := Lib.hid (HD2.out.trans (hb3.mono HD2.out.size))
  have HO3 := Lib.hid ((HO2.out.same hb3).upper hb3.size (Nat.le_refl _))
  clear hb3 HO2 HD2
  cases qb : isMac b with
  | false =>
   have HR : Hid (pairsP a b = []) := Lib.hid (by unfold pairsP; rw [qb, Bool.and_false]; rfl)
   clear qa qb
   go_wp2_with fail
   go_ret
   exact ⟨_, _, _, rfl, by rw [HR.out]; exact ⟨[], HO3.out.lower hge⟩, HB.out.trans (HD3.out.mono hge)⟩
  | true =>
   have HQ := Lib.hid (And.intro qa qb)
   have HLA := Lib.hid (And.intro (isMac_len qa) (isMac_len qb))
   clear qa qb
   obtain ⟨hB4, _, _, hS4⟩ := twice w3 #[.int .i64 0, .int .i64 0] #[.slice (some ⟨w3.heap.size, 0, none⟩) 2 2] 3 31
   have HB4 := Lib.hid hB4
   have HS4 := Lib.hid hS4
   clear hB4 hS4
   have HIT := Lib.hid (items_two w3 (0, 0))
   change Hid (Items rowEnc 1 ((w3.alloc (.cells #[.int .i64 0, .int .i64 0] 3)).alloc (.cells #[.slice (some ⟨w3.heap.size, 0, none⟩) 2 2] 31)) (some ⟨w3.heap.size + 1, 0, none⟩) 1 [w3.heap.size]) at HIT
   have HOO := Lib.hid (HO3.out.own.same HB4.out)
   have hw3 := HD3.out.size
   have hbnd : W0.heap.size ≤ ((w3.alloc (.cells #[.int .i64 0, .int .i64 0] 3)).alloc (.cells #[.slice (some ⟨w3.heap.size, 0, none⟩) 2 2] 31)).heap.size := by rw [HS4.out]; omega
   go_wp2_with (at_builtin; refine wpl_app_rows rfl (.tmp 19) (.tmp 21) 33 rfl 31 i0 (.slice none 0 0) 24 Try.underlying33 HI.out.1 HI.out.2.1 HI.out.2.2.1 HI.out.2.2.2 rfl rfl HOO.out rfl HIT.out (by omega) ?c1 hbnd ?_)
   case c1 => omega
   intro g6 c6 w6 ho6 hg6 hw6
   have HO6 := Lib.hid (row_push (p := (0, 0)) HO3.out (Below.refl _ w3) ho6 hg6 (by rw [HS4.out]; exact hw6))
   have hsz6 := hg6.size
   have HD6 : Hid (Below W0.heap.size W0 w6) := Lib.hid ((Inside.row hg6 (lo := w.heap.size + 1 + 1) (hi := w.heap.size + 1 + 1 + 1) (fun r' e' => by cases e'; omega)).to (HD3.out.trans (HB4.out.mono hw3)) (by have := HSZ.out; omega) hbnd)
   clear ho6 hg6 hw6 hbnd hsz6 HO3 HOO HIT HB4 HS4
   go_wp2_with fail
   go_loopg [5, 6] 36 (fun k s5 s6 wx => ∃ (i : Nat) (rs : List Nat) (g n c : Nat), k + i = 36 ∧ s6 = .int .i64 i ∧ s5 = .slice (some ⟨g, 0, none⟩) n c ∧ OwnRs rs wx.heap.size wx W0.heap.size g n c (found a b i) ∧ Below W0.heap.size W0 wx)
   case atStart => exact ⟨0, _, g6, _, c6, rfl, rfl, rfl, HO6.out, HD6.out⟩
   case round =>
    obtain ⟨i, rs, g, n, c, hki, rfl, rfl, ho, hb⟩ := hrel
    have hlen : (found a b i).length = n := ho.count
    have h36 := found_len HQ.out.1 HQ.out.2 i
    have hroom := ho.room
    have HO := Lib.hid ho
    have HD := Lib.hid hb
    clear ho hb
    by_cases hlt : i < n
    ·obtain ⟨r, p, hr, hp, hc0, hrow, o1, o2, o3⟩ := HO.out.at_ hlt
     obtain ⟨d0, d1⟩ := two_cells hrow
     obtain ⟨x0, x1, x2, -⟩ := three_cells ((HD.out.block _ hxl).trans HX.out)
     obtain ⟨y0, y1, y2, -⟩ := three_cells ((HD.out.block _ hyl).trans HY.out)
     have HP := Lib.hid (found_step hp)
     clear hr hp hrow
     go_wp2_with fail
     go_still_tail 14, (by kernel_rfl)
     have H2 : Hid (Below wr.heap.size wr wr.drew) := Lib.hid (Below.refl _ _).drew
     change wpList _ _ _ _ _ wr.drew
     generalize wr.drew = w7 at H2 ⊢
     have HD7 := Lib.hid (HD.out.trans (H2.out.mono HD.out.size))
     clear x0 x1 x2 y0 y1 y2 d0 d1 hc0
     go_wp2_with fail
     refine (specNextPairs_any p.1 p.2 (HMA.out.same HD7.out) (HMB.out.same HD7.out) hn hn').mono ?_
     rintro e w8 ⟨g2, m, c2, rfl, ⟨rs2, ho2⟩, hb8⟩
     have hml : (nextP a b p.1 p.2).length = m := ho2.count
     have hmle := nextP_len a b p.1 p.2
     have hroom2 := ho2.room
     have HQ8 : Hid (Below wr.heap.size wr w8) := Lib.hid (H2.out.trans (hb8.mono H2.out.size))
     have HO3 := Lib.hid ((HO.out.same HQ8.out).upper (S' := w8.heap.size) HQ8.out.size (Nat.le_refl _))
     have HD8 := Lib.hid (HD.out.trans (HQ8.out.mono HD.out.size))
     have hg0 : g < wr.heap.size := HO.out.hi
     have hsep : Hid (∀ r ∈ rs, r < wr.heap.size) := Lib.hid fun r hr => (HO.out.out r hr).2.1
     have hs7 : wr.heap.size ≤ w7.heap.size := H2.out.size
     have hs8 : w7.heap.size ≤ w8.heap.size := hb8.size
     have HO22 := Lib.hid (ho2.lower hs7)
     have hwL := HD.out.size
     have hml24 : m ≤ 24 := by have := HLA.out; omega
     clear ho2 hb8 HO HQ8 H2 HD7
     obtain ⟨L, hL⟩ : ∃ q, q = wr.heap.size := ⟨_, rfl⟩
     obtain ⟨S2, hS2⟩ : ∃ q, q = w8.heap.size := ⟨_, rfl⟩
     replace HO22 : Hid (OwnRs rs2 S2 w8 L g2 m c2 (nextP a b p.1 p.2)) := Lib.hid (by rw [hS2, hL]; exact HO22.out)
     replace hg0 : g < L := by omega
     replace hsep : Hid (∀ r ∈ rs, r < L) := Lib.hid (by rw [hL]; exact hsep.out)
     replace hwL : W0.heap.size ≤ L := by omega
     have hS21 : S2 ≤ w8.heap.size := by omega
     have hLS : L ≤ S2 := by omega
     clear hL hS2
     go_wp2_with fail
     go_loopg [5, 8] m (fun k s5 s8 wx => ∃ (j : Nat) (rs5 : List Nat) (g5 n5 c5 : Nat), k + j = m ∧ s8 = .int .i64 j ∧ s5 = .slice (some ⟨g5, 0, none⟩) n5 c5 ∧ OwnRs rs5 wx.heap.size wx W0.heap.size g5 n5 c5 (growP (found a b i) ((nextP a b p.1 p.2).take j)) ∧ OwnRs rs2 S2 wx L g2 m c2 (nextP a b p.1 p.2) ∧ (g5 < L ∨ S2 ≤ g5) ∧ (∀ r' ∈ rs5, ∀ (j' q' : Nat), j ≤ j' → rs2[j']? = some q' → r' < q') ∧ Below W0.heap.size W0 wx ∧ S2 ≤ wx.heap.size ∧ n5 ≤ n + j)
     case atStart => exact ⟨0, rs, g, n, c, by omega, rfl, rfl, by simpa [growP] using HO3.out, HO22.out, Or.inl hg0, fun r' hr j' q' _ hq => Nat.lt_of_lt_of_le (hsep.out r' hr) (HO22.out.out q' (List.mem_of_getElem? hq)).1, HD8.out, hS21, by omega⟩
     case round =>
      obtain ⟨j, rs5, g5, n5, c5, hkj, rfl, rfl, ho5, ho2, hg5, hsp, hb5, hS5, hn5⟩ := hrel
      have hl5 : (growP (found a b i) ((nextP a b p.1 p.2).take j)).length = n5 := ho5.count
      have hroom5 := ho5.room
      have HO5 := Lib.hid ho5
      have HO2 := Lib.hid ho2
      have HSP := Lib.hid hsp
      have HB5 := Lib.hid hb5
      clear ho5 ho2 hsp hb5
      by_cases hlt2 : j < m
      ·obtain ⟨q, p2, hq, hp2, hcq, hrow2, u1, u2, u3⟩ := HO2.out.at_ hlt2
       have HHAS := Lib.hid (l14Has_any HO5.out hrow2)
       have HQ2 := Lib.hid hq
       have HP2 := Lib.hid (growP_step (o := found a b i) hp2)
       have HR2 := Lib.hid hrow2
       clear hq hp2 hrow2
       go_wp2_with fail
       refine HHAS.out.mono ?_
       rintro e w9 ⟨rfl, hb9⟩
       have HB9 := Lib.hid hb9
       have hs9 := hb9.size
       have hcq9 := cell_stay hcq hb9
       clear hb9 hcq
       by_cases hin : p2 ∈ growP (found a b i) ((nextP a b p.1 p.2).take j)
       ·have hd := decide_eq_true hin
        rw [hd]
        have HG : Hid (growP (found a b i) ((nextP a b p.1 p.2).take (j + 1)) = growP (found a b i) ((nextP a b p.1 p.2).take j)) := Lib.hid (by rw [HP2.out, grow1, if_pos hin])
        clear hin hd hcq9
        go_wp2_with fail
        go_roundg (m - (j + 1))
        case measure => omega
        case rel => exact ⟨j + 1, rs5, g5, n5, c5, by omega, by go_num, rfl, by rw [HG.out]; exact (HO5.out.same HB9.out).upper HB9.out.size (Nat.le_refl _), HO2.out.same HB9.out, hg5, fun r' hr j' q' hj' hq' => HSP.out r' hr j' q' (by omega) hq', HB5.out.trans (HB9.out.mono HB5.out.size), by omega, by omega⟩
       ·have hd := decide_eq_false hin
        rw [hd]
        have HG : Hid (growP (found a b i) ((nextP a b p.1 p.2).take (j + 1)) = growP (found a b i) ((nextP a b p.1 p.2).take j) ++ [p2]) := Lib.hid (by rw [HP2.out, grow1, if_neg hin])
        have HAL := Lib.hid (alloc_same w9 (.cells #[.slice (some ⟨q, 0, none⟩) 2 2] 31))
        have HIT := Lib.hid (items_new rowEnc_len w9 q 31)
        have HOW := Lib.hid ((HO5.out.same HB9.out).same HAL.out)
        have HRW : Hid ((w9.alloc (.cells #[.slice (some ⟨q, 0, none⟩) 2 2] 31)).heap[q]? = some (two p2)) := Lib.hid ((HAL.out.block q (by omega)).trans ((HB9.out.block q (by omega)).trans HR2.out))
        have hWs : (w9.alloc (.cells #[.slice (some ⟨q, 0, none⟩) 2 2] 31)).heap.size = w9.heap.size + 1 := by simp
        have HWS := Lib.hid hWs
        have HOO := Lib.hid HOW.out.own
        change Hid (Items rowEnc 1 (w9.alloc (.cells #[.slice (some ⟨q, 0, none⟩) 2 2] 31)) (some ⟨w9.heap.size, 0, none⟩) 1 [q]) at HIT
        clear hWs hin hd
        have hbnd : W0.heap.size ≤ (w9.alloc (.cells #[.slice (some ⟨q, 0, none⟩) 2 2] 31)).heap.size := by rw [HWS.out]; omega
        go_wp2_with (at_builtin; refine wpl_app_rows rfl (.tmp 57) (.tmp 62) 33 rfl 31 i0 (.slice none 0 0) 24 Try.underlying33 HI.out.1 HI.out.2.1 HI.out.2.2.1 HI.out.2.2.2 rfl rfl HOO.out rfl HIT.out (by omega) ?c1 hbnd ?_)
        case c1 => omega
        intro g6 c6 w6 ho6 hg6 hw6
        have HO6 := Lib.hid ho6
        have HG6 := Lib.hid hg6
        have HW6 : Hid (g6 = g5 ∨ g6 = (w9.alloc (.cells #[.slice (some ⟨q, 0, none⟩) 2 2] 31)).heap.size) := Lib.hid (by rw [HWS.out]; exact hw6)
        clear ho6 hg6 hw6 hbnd hcq9
        go_wp2_with fail
        have hne : q ≠ g5 := by omega
        have hpush := HOW.out.push HRW.out (by omega) hne (fun q' hq' => HSP.out q' hq' j q (Nat.le_refl _) HQ2.out) HO6.out HG6.out HW6.out
        have hin : Inside g5 (g5 + 1) (w9.alloc (.cells #[.slice (some ⟨q, 0, none⟩) 2 2] 31)) w6 := Inside.row HG6.out fun r' e' => by cases e'; omega
        have hWs := HWS.out
        have hw6 := HW6.out
        have hsz6 := HG6.out.size
        have hB5 := HB5.out.size
        have hg5w : W0.heap.size ≤ g5 := HO5.out.lo
        go_roundg (m - (j + 1))
        case measure => omega
        case rel =>
         refine ⟨j + 1, rs5 ++ [q], g6, n5 + 1, c6, by omega, by go_num, rfl, by rw [HG.out]; exact hpush, ((HO2.out.same HB9.out).same HAL.out).aside hin (by omega), by omega, fun r' hr j' q' hj' hq' => ?_, hin.to (HB5.out.trans ((HB9.out.trans (HAL.out.mono HB9.out.size)).mono HB5.out.size)) (by omega) (by omega), by omega, by omega⟩
         rcases List.mem_append.1 hr with h1 | h1
         ·exact HSP.out r' h1 j' q' (by omega) hq'
         ·have : r' = q := by simpa using h1
          subst this
          have e1 := HQ2.out
          have hj1 := at_lt e1
          have hj2 := at_lt hq'
          rw [List.getElem?_eq_getElem hj1] at e1
          rw [List.getElem?_eq_getElem hj2] at hq'
          rw [← Option.some.inj e1, ← Option.some.inj hq']
          exact List.pairwise_iff_getElem.1 HO2.out.inc _ _ hj1 hj2 (by omega)
      ·obtain rfl : j = m := by omega
       have hfin := HO5.out
       rw [List.take_of_length_le (by omega), ← HP.out] at hfin
       have HFIN := Lib.hid hfin
       clear hfin
       go_wp2_with fail
       go_roundg (36 - (i + 1))
       case measure => omega
       case rel => exact ⟨i + 1, rs5, g5, n5, c5, by omega, by go_num, rfl, HFIN.out, HB5.out⟩
    ·have hend := found_end HQ.out.1 HQ.out.2 (i := i) (by omega) (by omega)
     have HE := Lib.hid hend
     clear hend
     go_wp2_with fail
     go_ret
     exact ⟨_, _, _, rfl, ⟨rs, by rw [← HE.out]; exact HO.out.lower hge⟩, HB.out.trans (HD.out.mono hge)⟩
end Go.Proofs.Ytckmgbobkffabaa
