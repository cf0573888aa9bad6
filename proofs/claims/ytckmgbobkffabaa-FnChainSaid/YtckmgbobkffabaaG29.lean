/- The pairs of states that two machines reach by the same moves: by the model. What is wrong in a pair of states: by the program. -/
import Derived.Test.YtckmgbobkffabaaG28
import Derived.Test.YtckmgbobkffabaaG23
import Derived.Test.YtckmgbobkffabaaG21
import Derived.BigRegion
import Derived.Test.YtckmgbobkffabaaG1
namespace Go.Proofs.Ytckmgbobkffabaa
open Go.ChangeShapes Go.WideShapes Go.ChangeAt Go.RowKit
set_option linter.unusedVariables false
set_option linter.unusedSimpArgs false

theorem growP_snoc (o l : List (Int × Int)) (p : Int × Int) : growP o (l ++ [p]) = grow1 (growP o l) p := by
 unfold growP
 rw [List.foldl_append]
 rfl
/-- What follows, of the first d kinds of moves. -/
def partS (a b : Mac) (x y : Int) : Nat → List (Int × Int)
 | 0 => []
 | 1 => sharedP a x true b y true
 | _ => samesP a b x y
theorem bothG_none1 {x y : Mac} {s t k : Int} {b c : Bool} (h : toOf x.moves s b k = none) : bothG x s b y t c k = none := by
 unfold bothG
 rw [h]
theorem cell_stay_nums {w w' : World} {ad : Addr} {n j : Nat} {l : List Int} {x : Int} (h : Nums .i64 w (some ad) n l) (hx : l[j]? = some x) (hb : Below w.heap.size w w') : w'.cell? (ad.add j) = some (.int .i64 x) := by
 obtain ⟨ad2, x2, e, h1, h2⟩ := (h.same hb).at_ (j := j) (by rw [← h.len]; exact at_lt hx)
 cases e
 rw [hx] at h1
 cases h1
 exact h2
set_option maxHeartbeats 8000000 in
set_option maxRecDepth 100000 in
theorem specFollowPairs_any {va vb : Value} {a b : Mac} {w : World} (ha : MacW w va a) (hb : MacW w vb b) (hn : a.parts ≤ 10000000) (hn' : b.parts ≤ 10000000) :
  Calls Try.prog 42 #[va, vb] w (MadeR w.heap.size (followP a b) w) := by
 obtain ⟨p, np, cp, q, n, c, rfl, _, hma, _, hra1, hra2⟩ := id ha
 obtain ⟨p', np', cp', q', n', c', rfl, _, hmb, _, hrb1, hrb2⟩ := id hb
 have hlna := hma.len
 have hlnb := hmb.len
 have HVA := Lib.hid hma
 have HLTA : Hid (∀ j, j < a.moves.length → j < n) := Lib.hid (fun j hj => by omega)
 have HVB := Lib.hid hmb
 obtain ⟨i0, hi, hz0, hz1, hz2⟩ := info_parts infoR
 have HI := Lib.hid (And.intro hi (And.intro hz0 (And.intro hz1 hz2)))
 clear hi hz0 hz1 hz2
 obtain ⟨hB, hX, hY, hS⟩ := twice w #[.int .i64 a.st, .slice p np cp, .slice q n c] #[.int .i64 b.st, .slice p' np' cp', .slice q' n' c'] 27 27
 have HB := Lib.hid hB
 have HX := Lib.hid hX
 have HY := Lib.hid hY
 have HSZ := Lib.hid hS
 have HMA := Lib.hid (ha.same hB)
 have HMB := Lib.hid (hb.same hB)
 have hxl : w.heap.size < ((w.alloc (.cells #[.int .i64 a.st, .slice p np cp, .slice q n c] 27)).alloc (.cells #[.int .i64 b.st, .slice p' np' cp', .slice q' n' c'] 27)).heap.size := (Array.getElem?_eq_some_iff.1 hX).1
 have hyl : w.heap.size + 1 < ((w.alloc (.cells #[.int .i64 a.st, .slice p np cp, .slice q n c] 27)).alloc (.cells #[.int .i64 b.st, .slice p' np' cp', .slice q' n' c'] 27)).heap.size := (Array.getElem?_eq_some_iff.1 hY).1
 clear hB hX hY hS ha hb hma hmb
 have HIA := Lib.hid (fun W' hb' => specIsMachine_any (HMA.out.same (w' := W') hb'))
 have HIB := Lib.hid (fun W' hb' => specIsMachine_any (HMB.out.same (w' := W') hb'))
 unfold MadeR
 obtain ⟨x0, x1, x2, -⟩ := three_cells ((alloc_same _ (.cells #[] 31)).block _ hxl |>.trans HX.out)
 go_enter Try.func42, Try.ntmps42
 go_wp2_with fail
 clear x0 x1 x2
 generalize (w.alloc (.cells #[.int .i64 a.st, .slice p np cp, .slice q n c] 27)).alloc (.cells #[.int .i64 b.st, .slice p' np' cp', .slice q' n' c'] 27) = W0 at *
 have HA1 := Lib.hid (alloc_same W0 (.cells #[] 31))
 have hO1 := (OwnRs.nil (w := W0) (Nat.le_refl W0.heap.size))
 rw [← World.size_alloc W0 (.cells #[] 31)] at hO1
 have HO1 : Hid (OwnRs [] (W0.alloc (.cells #[] 31)).heap.size (W0.alloc (.cells #[] 31)) W0.heap.size (w.heap.size + 1 + 1) 0 0 []) := Lib.hid (by
  have e := HSZ.out
  rw [show w.heap.size + 1 + 1 = W0.heap.size by omega]
  exact hO1)
 clear hO1
 generalize W0.alloc (.cells #[] 31) = W1 at *
 refine (HIA.out W1 HA1.out).mono ?_
 rintro e w2 ⟨rfl, hb2⟩
 have HD2 : Hid (Below W0.heap.size W0 w2) := Lib.hid (HA1.out.trans (hb2.mono HA1.out.size))
 have HO2 := Lib.hid ((HO1.out.same hb2).upper hb2.size (Nat.le_refl _))
 clear hb2 HO1 HA1
 have hge : w.heap.size ≤ W0.heap.size := HB.out.size
 cases qa : isMac a with
 | false =>
  have HR : Hid (followP a b = []) := Lib.hid (by unfold followP; rw [qa]; rfl)
  clear qa
  go_wp2_with fail
  go_ret
  exact ⟨_, _, _, rfl, by rw [HR.out]; exact ⟨[], HO2.out.lower hge⟩, HB.out.trans (HD2.out.mono hge)⟩
 | true =>
  obtain ⟨y0, y1, y2, -⟩ := three_cells ((HD2.out.block _ hyl).trans HY.out)
  go_wp2_with fail
  clear y0 y1 y2
  refine (HIB.out w2 HD2.out).mono ?_
  rintro e w3 ⟨rfl, hb3⟩
  have HD3 : Hid (Below W0.heap.size W0 w3) := Lib.hid (HD2.out.trans (hb3.mono HD2.out.size))
  have HO3 := Lib.hid ((HO2.out.same hb3).upper hb3.size (Nat.le_refl _))
  clear hb3 HO2 HD2
  cases qb : isMac b with
  | false =>
   have HR : Hid (followP a b = []) := Lib.hid (by unfold followP; rw [qb, Bool.and_false]; rfl)
   clear qa qb
   go_wp2_with fail
   go_ret
   exact ⟨_, _, _, rfl, by rw [HR.out]; exact ⟨[], HO3.out.lower hge⟩, HB.out.trans (HD3.out.mono hge)⟩
  | true =>
   have HQ := Lib.hid (And.intro qa qb)
   have HLA := Lib.hid (And.intro (isMac_len qa) (isMac_len qb))
   clear qa qb
   obtain ⟨hB4, _, _, hS4⟩ := twice w3 #[.int .i64 0, .int .i64 0] #[.slice (some ⟨w3.heap.size, 0, none⟩) 2 2] 3 31
   have HB4 := Lib.hid hB4
   have HS4 := Lib.hid hS4
   clear hB4 hS4
   have HIT := Lib.hid (items_two w3 (0, 0))
   change Hid (Items rowEnc 1 ((w3.alloc (.cells #[.int .i64 0, .int .i64 0] 3)).alloc (.cells #[.slice (some ⟨w3.heap.size, 0, none⟩) 2 2] 31)) (some ⟨w3.heap.size + 1, 0, none⟩) 1 [w3.heap.size]) at HIT
   have HOO := Lib.hid (HO3.out.own.same HB4.out)
   have hw3 := HD3.out.size
   have hbnd : W0.heap.size ≤ ((w3.alloc (.cells #[.int .i64 0, .int .i64 0] 3)).alloc (.cells #[.slice (some ⟨w3.heap.size, 0, none⟩) 2 2] 31)).heap.size := by rw [HS4.out]; omega
   go_wp2_with (at_builtin; refine wpl_app_rows rfl (.tmp 25) (.tmp 27) 33 rfl 31 i0 (.slice none 0 0) 24 Try.underlying33 HI.out.1 HI.out.2.1 HI.out.2.2.1 HI.out.2.2.2 rfl rfl HOO.out rfl HIT.out (by omega) ?c1 hbnd ?_)
   case c1 => omega
   intro g6 c6 w6 ho6 hg6 hw6
   have HO6 := Lib.hid (row_push (p := (0, 0)) HO3.out (Below.refl _ w3) ho6 hg6 (by rw [HS4.out]; exact hw6))
   have hsz6 := hg6.size
   have HD6 : Hid (Below W0.heap.size W0 w6) := Lib.hid ((Inside.row hg6 (lo := w.heap.size + 1 + 1) (hi := w.heap.size + 1 + 1 + 1) (fun r' e' => by cases e'; omega)).to (HD3.out.trans (HB4.out.mono hw3)) (by have := HSZ.out; omega) hbnd)
   clear ho6 hg6 hw6 hbnd hsz6 HO3 HOO HIT HB4 HS4
   go_wp2_with fail
   go_loopg [5, 6] 36 (fun k s5 s6 wx => ∃ (i : Nat) (rs : List Nat) (g n c : Nat), k + i = 36 ∧ s6 = .int .i64 i ∧ s5 = .slice (some ⟨g, 0, none⟩) n c ∧ OwnRs rs wx.heap.size wx W0.heap.size g n c (foundG (samesP a b) i) ∧ Below W0.heap.size W0 wx)
   case atStart => exact ⟨0, _, g6, _, c6, rfl, rfl, rfl, HO6.out, HD6.out⟩
   case round =>
    obtain ⟨i, rs, g, n, c, hki, rfl, rfl, ho, hb⟩ := hrel
    have hlen : (foundG (samesP a b) i).length = n := ho.count
    have h36 := foundG_len (sames_small HQ.out.1 HQ.out.2) i
    have hroom := ho.room
    have HO := Lib.hid ho
    have HD := Lib.hid hb
    clear ho hb
    by_cases hlt : i < n
    ·obtain ⟨r, p, hr, hp, hc0, hrow, o1, o2, o3⟩ := HO.out.at_ hlt
     obtain ⟨d0, d1⟩ := two_cells hrow
     have HP := Lib.hid (foundG_step hp)
     have hsl := samesP_len a b p.1 p.2
     have hs1l := sharedP_len a p.1 true b p.2 true
     have hla := HLA.out
     clear hr hp hrow
     go_wp2_with fail
     clear hc0 d0 d1
     go_loopg [5, 9] 2 (fun k s5 s9 wx => ∃ (d : Nat) (rs1 : List Nat) (g1 n1 c1 : Nat), k + d = 2 ∧ (d = 0 ∧ s9 = .int .i64 1 ∨ d = 1 ∧ s9 = .int .i64 0 ∨ d = 2 ∧ s9 = .int .i64 (-1)) ∧ s5 = .slice (some ⟨g1, 0, none⟩) n1 c1 ∧ OwnRs rs1 wx.heap.size wx W0.heap.size g1 n1 c1 (growP (foundG (samesP a b) i) (partS a b p.1 p.2 d)) ∧ Below W0.heap.size W0 wx)
     case atStart => exact ⟨0, rs, g, n, c, rfl, Or.inl ⟨rfl, rfl⟩, rfl, HO.out, HD.out⟩
     case round =>
      obtain ⟨d, rs1, g1, n1, c1, hkd, hs9, rfl, ho, hb⟩ := hrel
      have hl1 := ho.count
      have hg1l := growP_len_le (o := foundG (samesP a b) i) (l := partS a b p.1 p.2 d)
      have hroom1 := ho.room
      have HO2 := Lib.hid ho
      have HD2 := Lib.hid hb
      clear ho hb
      rcases hs9 with ⟨rfl, rfl⟩ | ⟨rfl, rfl⟩ | ⟨rfl, rfl⟩
      ·have hn1 : n1 ≤ 36 := by
        simp only [partS, List.length_nil] at hg1l hl1
        omega
       clear hg1l hl1
       obtain ⟨x0, x1, x2, -⟩ := three_cells ((HD2.out.block _ hxl).trans HX.out)
       obtain ⟨y0, y1, y2, -⟩ := three_cells ((HD2.out.block _ hyl).trans HY.out)
       go_wp2_with fail
       clear x0 x1 x2 y0 y1 y2
       refine (specMovesFrom_any p.1 true (HMA.out.same HD2.out) (by omega)).mono ?_
       rintro e w4 ⟨a4, m4, c4, rfl, ho4, hb4⟩
       have HB4 : Hid (Below wr.heap.size wr w4) := Lib.hid hb4
       have hm4 := ho4.len
       have hroom4 := ho4.room
       have hle4 := movesFrom_len a p.1 true
       have hs4 := hb4.size
       have HN4 := Lib.hid ho4.nums
       have HSP := Lib.hid ho4.span
       have HO4 := Lib.hid ((HO2.out.same HB4.out).upper HB4.out.size (Nat.le_refl _))
       have HD4 : Hid (Below W0.heap.size W0 w4) := Lib.hid (HD2.out.trans (HB4.out.mono HD2.out.size))
       have hg1 := HO2.out.hi
       have hlo1 := HO2.out.lo
       have hw4 := HD4.out.size
       have hs24 := HB4.out.size
       clear ho4 hb4
       obtain ⟨H, hH⟩ : ∃ q, q = w4.heap.size := ⟨_, rfl⟩
       rw [← hH] at HSP
       go_wp2_with fail
       go_loopg [5, 11] m4 (fun k s5 s11 wx => ∃ (j : Nat) (rs5 : List Nat) (g5 n5 c5 : Nat), k + j = m4 ∧ s11 = .int .i64 j ∧ s5 = .slice (some ⟨g5, 0, none⟩) n5 c5 ∧ OwnRs rs5 wx.heap.size wx W0.heap.size g5 n5 c5 (growP (foundG (samesP a b) i) (((movesFrom a p.1 true).take j).filterMap (bothG a p.1 true b p.2 true))) ∧ Nums .i64 wx a4 m4 (movesFrom a p.1 true) ∧ (g5 = g1 ∨ H ≤ g5) ∧ Below W0.heap.size W0 wx ∧ H ≤ wx.heap.size ∧ n5 ≤ n1 + j)
       case atStart => exact ⟨0, rs1, g1, n1, c1, by omega, rfl, rfl, by simpa [growP, partS] using HO4.out, HN4.out, Or.inl rfl, HD4.out, by omega, by omega⟩
       case round =>
        obtain ⟨j, rs5, g5, n5, c5, hkj, rfl, rfl, ho5, hn5, hg5, hb5, hH5, hln5⟩ := hrel
        have hl5 := ho5.count
        have hroom5 := ho5.room
        have hlo5 := ho5.lo
        have hhi5 := ho5.hi
        have HO5 := Lib.hid ho5
        have HN5 := Lib.hid hn5
        have HD5 := Lib.hid hb5
        have hsd5 := hb5.size
        clear ho5 hn5 hb5
        by_cases hlt5 : j < m4
        ·obtain ⟨ad, km, e4, hk, hc⟩ := HN5.out.at_ hlt5
         have HSP5 := Lib.hid HSP.out
         subst e4
         have HK := Lib.hid hk
         have HM1 := Lib.hid (fun W' hb' => specMoveOf_any p.1 true km (HMA.out.same (w' := W') (HD5.out.trans hb')))
         have HM2 := Lib.hid (fun W' hb' => specMoveOf_any p.2 true km (HMB.out.same (w' := W') (HD5.out.trans hb')))
         obtain ⟨x0, x1, x2, -⟩ := three_cells ((HD5.out.block _ hxl).trans HX.out)
         obtain ⟨y0, y1, y2, -⟩ := three_cells ((HD5.out.block _ hyl).trans HY.out)
         have hbnd5 : W0.heap.size ≤ wr.heap.size := by omega
         cases hq : toOf a.moves p.1 true km with
         | none =>
          have hmo := moveOf_none hq
          rw [hmo] at HM1
          have HE : Hid (((movesFrom a p.1 true).take (j + 1)).filterMap (bothG a p.1 true b p.2 true) = ((movesFrom a p.1 true).take j).filterMap (bothG a p.1 true b p.2 true)) := Lib.hid (by
           rw [List.take_add_one, HK.out, List.filterMap_append]
           simp [bothG_none1 hq])
          clear hq hk hmo
          go_wp2_with fail
          go_still_tail 8, (by kernel_rfl)
          have H2w7 : Hid (Below wr.heap.size wr wr.drew) := Lib.hid (Below.refl _ _).drew
          change wpList _ _ _ _ _ wr.drew
          generalize wr.drew = w7 at H2w7 ⊢
          clear x0 x1 x2 y0 y1 y2 hc
          go_wp2_with fail
          refine (HM1.out w7 (H2w7.out.mono hbnd5)).mono ?_
          rintro e w8 ⟨rfl, hb8⟩
          have HB8 : Hid (Below wr.heap.size wr w8) := Lib.hid (H2w7.out.trans (hb8.mono H2w7.out.size))
          have HD8 : Hid (Below W0.heap.size W0 w8) := Lib.hid (HD5.out.trans (HB8.out.mono hbnd5))
          have hc := (cell_stay_nums HN5.out HK.out HB8.out)
          clear hb8
          obtain ⟨x0, x1, x2, -⟩ := three_cells ((HD8.out.block _ hxl).trans HX.out)
          obtain ⟨y0, y1, y2, -⟩ := three_cells ((HD8.out.block _ hyl).trans HY.out)
          go_wp2_with fail
          go_still_tail 8, (by kernel_rfl)
          have H2w9 : Hid (Below w8.heap.size w8 w8.drew) := Lib.hid (Below.refl _ _).drew
          change wpList _ _ _ _ _ w8.drew
          generalize w8.drew = w9 at H2w9 ⊢
          clear x0 x1 x2 y0 y1 y2 hc
          go_wp2_with fail
          have HB9 : Hid (Below wr.heap.size wr w9) := Lib.hid (HB8.out.trans (H2w9.out.mono HB8.out.size))
          refine (HM2.out w9 (HB9.out.mono hbnd5)).mono ?_
          rintro e w10 ⟨rfl, hb10⟩
          have HB10 : Hid (Below wr.heap.size wr w10) := Lib.hid (HB9.out.trans (hb10.mono HB9.out.size))
          have hs10 := HB10.out.size
          clear hb10
          go_wp2_with fail
          (try simp only [Exit.noGoto, Exit.inBlock, Exit.then])
          go_wp2_with fail
          go_roundg (m4 - (j + 1))
          case measure => omega
          case rel => exact ⟨j + 1, rs5, g5, n5, c5, by omega, by go_num, rfl, by rw [HE.out]; exact (HO5.out.same HB10.out).upper HB10.out.size (Nat.le_refl _), HN5.out.same HB10.out, hg5, HD5.out.trans (HB10.out.mono hbnd5), by omega, by omega⟩
         | some tq =>
          obtain ⟨js, zs, hms, hjs, ets⟩ := moveOf_some hq
          subst ets
          rw [hms] at HM1
          cases hr : toOf b.moves p.2 true km with
          | none =>
           have hmo := moveOf_none hr
           rw [hmo] at HM2
           have HE : Hid (((movesFrom a p.1 true).take (j + 1)).filterMap (bothG a p.1 true b p.2 true) = ((movesFrom a p.1 true).take j).filterMap (bothG a p.1 true b p.2 true)) := Lib.hid (by
            rw [List.take_add_one, HK.out, List.filterMap_append]
            simp [bothG_none hr])
           clear hq hr hk hmo hms hjs
           go_wp2_with fail
           go_still_tail 8, (by kernel_rfl)
           have H2w7 : Hid (Below wr.heap.size wr wr.drew) := Lib.hid (Below.refl _ _).drew
           change wpList _ _ _ _ _ wr.drew
           generalize wr.drew = w7 at H2w7 ⊢
           clear x0 x1 x2 y0 y1 y2 hc
           go_wp2_with fail
           refine (HM1.out w7 (H2w7.out.mono hbnd5)).mono ?_
           rintro e w8 ⟨rfl, hb8⟩
           have HB8 : Hid (Below wr.heap.size wr w8) := Lib.hid (H2w7.out.trans (hb8.mono H2w7.out.size))
           have HD8 : Hid (Below W0.heap.size W0 w8) := Lib.hid (HD5.out.trans (HB8.out.mono hbnd5))
           have hc := (cell_stay_nums HN5.out HK.out HB8.out)
           clear hb8
           obtain ⟨x0, x1, x2, -⟩ := three_cells ((HD8.out.block _ hxl).trans HX.out)
           obtain ⟨y0, y1, y2, -⟩ := three_cells ((HD8.out.block _ hyl).trans HY.out)
           go_wp2_with fail
           go_still_tail 8, (by kernel_rfl)
           have H2w9 : Hid (Below w8.heap.size w8 w8.drew) := Lib.hid (Below.refl _ _).drew
           change wpList _ _ _ _ _ w8.drew
           generalize w8.drew = w9 at H2w9 ⊢
           clear x0 x1 x2 y0 y1 y2 hc
           go_wp2_with fail
           have HB9 : Hid (Below wr.heap.size wr w9) := Lib.hid (HB8.out.trans (H2w9.out.mono HB8.out.size))
           refine (HM2.out w9 (HB9.out.mono hbnd5)).mono ?_
           rintro e w10 ⟨rfl, hb10⟩
           have HB10 : Hid (Below wr.heap.size wr w10) := Lib.hid (HB9.out.trans (hb10.mono HB9.out.size))
           have hs10 := HB10.out.size
           clear hb10
           go_wp2_with fail
           (try simp only [Exit.noGoto, Exit.inBlock, Exit.then])
           go_wp2_with fail
           go_roundg (m4 - (j + 1))
           case measure => omega
           case rel => exact ⟨j + 1, rs5, g5, n5, c5, by omega, by go_num, rfl, by rw [HE.out]; exact (HO5.out.same HB10.out).upper HB10.out.size (Nat.le_refl _), HN5.out.same HB10.out, hg5, HD5.out.trans (HB10.out.mono hbnd5), by omega, by omega⟩
          | some tr =>
           obtain ⟨jr, zr, hmr, hjr, etr⟩ := moveOf_some hr
           subst etr
           rw [hmr] at HM2
           have HE : Hid (((movesFrom a p.1 true).take (j + 1)).filterMap (bothG a p.1 true b p.2 true) = ((movesFrom a p.1 true).take j).filterMap (bothG a p.1 true b p.2 true) ++ [(zs.to, zr.to)]) := Lib.hid (by
            rw [List.take_add_one, HK.out, List.filterMap_append]
            simp [bothG_some hq hr])
           obtain ⟨br, or, er, hcr⟩ := HVB.out.cell jr zr hjr
           obtain ⟨bs, os, es, hcs⟩ := HVA.out.cell js zs hjs
           have hcr3 := hcr 3 _ rfl
           have hcs3 := hcs 3 _ rfl
           have hjrn : jr < b.moves.length := at_lt hjr
           have hjsn : js < a.moves.length := at_lt hjs
           have hjrn2 : jr < n'  := by omega
           have hjsn2 := HLTA.out js hjsn
           subst er
           subst es
           have HCR := Lib.hid (cell_stay hcr3 (HB.out.trans (HD5.out.mono HB.out.size)))
           have HCS := Lib.hid (cell_stay hcs3 (HB.out.trans (HD5.out.mono HB.out.size)))
           clear hq hr hk hmr hms hcr hcs hcr3 hcs3 hjr hjs
           go_wp2_with fail
           go_still_tail 8, (by kernel_rfl)
           have H2w7 : Hid (Below wr.heap.size wr wr.drew) := Lib.hid (Below.refl _ _).drew
           change wpList _ _ _ _ _ wr.drew
           generalize wr.drew = w7 at H2w7 ⊢
           clear x0 x1 x2 y0 y1 y2 hc
           go_wp2_with fail
           refine (HM1.out w7 (H2w7.out.mono hbnd5)).mono ?_
           rintro e w8 ⟨rfl, hb8⟩
           have HB8 : Hid (Below wr.heap.size wr w8) := Lib.hid (H2w7.out.trans (hb8.mono H2w7.out.size))
           have HD8 : Hid (Below W0.heap.size W0 w8) := Lib.hid (HD5.out.trans (HB8.out.mono hbnd5))
           have hc := (cell_stay_nums HN5.out HK.out HB8.out)
           clear hb8
           obtain ⟨x0, x1, x2, -⟩ := three_cells ((HD8.out.block _ hxl).trans HX.out)
           obtain ⟨y0, y1, y2, -⟩ := three_cells ((HD8.out.block _ hyl).trans HY.out)
           go_wp2_with fail
           go_still_tail 8, (by kernel_rfl)
           have H2w9 : Hid (Below w8.heap.size w8 w8.drew) := Lib.hid (Below.refl _ _).drew
           change wpList _ _ _ _ _ w8.drew
           generalize w8.drew = w9 at H2w9 ⊢
           clear x0 x1 x2 y0 y1 y2 hc
           go_wp2_with fail
           have HB9 : Hid (Below wr.heap.size wr w9) := Lib.hid (HB8.out.trans (H2w9.out.mono HB8.out.size))
           refine (HM2.out w9 (HB9.out.mono hbnd5)).mono ?_
           rintro e w10 ⟨rfl, hb10⟩
           have HB10 : Hid (Below wr.heap.size wr w10) := Lib.hid (HB9.out.trans (hb10.mono HB9.out.size))
           have HD10 : Hid (Below W0.heap.size W0 w10) := Lib.hid (HD5.out.trans (HB10.out.mono hbnd5))
           have hs10 := HB10.out.size
           clear hb10
           obtain ⟨x0, x1, x2, -⟩ := three_cells ((HD10.out.block _ hxl).trans HX.out)
           obtain ⟨y0, y1, y2, -⟩ := three_cells ((HD10.out.block _ hyl).trans HY.out)
           have z0 := cell_stay HCR.out HB10.out
           have z1 := cell_stay HCS.out HB10.out
           go_wp2_with fail
           go_still_tail 12, (by kernel_rfl)
           have H2w11 : Hid (Below w10.heap.size w10 w10.drew) := Lib.hid (Below.refl _ _).drew
           change wpList _ _ _ _ _ w10.drew
           generalize w10.drew = w11 at H2w11 ⊢
           clear x0 x1 x2 y0 y1 y2 z0 z1
           have HB11 : Hid (Below wr.heap.size wr w11) := Lib.hid (HB10.out.trans (H2w11.out.mono HB10.out.size))
           have hs11 := HB11.out.size
           have HAL := Lib.hid (alloc_same w11 (.cells #[.int .i64 zs.to, .int .i64 zr.to] 3))
           have HRW : Hid ((w11.alloc (.cells #[.int .i64 zs.to, .int .i64 zr.to] 3)).heap[w11.heap.size]? = some (two (zs.to, zr.to))) := Lib.hid (heap_alloc_new w11 (.cells #[.int .i64 zs.to, .int .i64 zr.to] 3 (0, 0)))
           have hs12 : (w11.alloc (.cells #[.int .i64 zs.to, .int .i64 zr.to] 3)).heap.size = w11.heap.size + 1 := by simp
           have HHAS := Lib.hid (l14Has_any ((HO5.out.same HB11.out).same HAL.out) HRW.out)
           have HB12 := Lib.hid (HB11.out.trans (HAL.out.mono HB11.out.size))
           go_wp2_with fail
           clear HAL
           generalize w11.alloc (.cells #[.int .i64 zs.to, .int .i64 zr.to] 3) = w12 at *
           refine HHAS.out.mono ?_
           rintro e w13 ⟨rfl, hb13⟩
           have HB13 : Hid (Below wr.heap.size wr w13) := Lib.hid (HB12.out.trans (hb13.mono HB12.out.size))
           have hs13 := hb13.size
           have HR13 := Lib.hid ((hb13.block w11.heap.size (by omega)).trans HRW.out)
           clear hb13 HHAS HRW
           by_cases hin : (zs.to, zr.to) ∈ growP (foundG (samesP a b) i) (((movesFrom a p.1 true).take j).filterMap (bothG a p.1 true b p.2 true))
           ·have hd := decide_eq_true hin
            rw [hd]
            have HG : Hid (growP (foundG (samesP a b) i) (((movesFrom a p.1 true).take (j + 1)).filterMap (bothG a p.1 true b p.2 true)) = growP (foundG (samesP a b) i) (((movesFrom a p.1 true).take j).filterMap (bothG a p.1 true b p.2 true))) := Lib.hid (by rw [HE.out, growP_snoc, grow1, if_pos hin])
            clear hin hd
            go_wp2_with fail
            (try simp only [Exit.noGoto, Exit.inBlock, Exit.then])
            go_wp2_with fail
            go_roundg (m4 - (j + 1))
            case measure => omega
            case rel => exact ⟨j + 1, rs5, g5, n5, c5, by omega, by go_num, rfl, by rw [HG.out]; exact (HO5.out.same HB13.out).upper HB13.out.size (Nat.le_refl _), HN5.out.same HB13.out, hg5, HD5.out.trans (HB13.out.mono hbnd5), by omega, by omega⟩
           ·have hd := decide_eq_false hin
            rw [hd]
            have HG : Hid (growP (foundG (samesP a b) i) (((movesFrom a p.1 true).take (j + 1)).filterMap (bothG a p.1 true b p.2 true)) = growP (foundG (samesP a b) i) (((movesFrom a p.1 true).take j).filterMap (bothG a p.1 true b p.2 true)) ++ [(zs.to, zr.to)]) := Lib.hid (by rw [HE.out, growP_snoc, grow1, if_neg hin])
            have HAL := Lib.hid (alloc_same w13 (.cells #[.slice (some ⟨w11.heap.size, 0, none⟩) 2 2] 31))
            have HIT := Lib.hid (items_new rowEnc_len w13 w11.heap.size 31)
            have HOW := Lib.hid ((HO5.out.same HB13.out).same HAL.out)
            have HRW : Hid ((w13.alloc (.cells #[.slice (some ⟨w11.heap.size, 0, none⟩) 2 2] 31)).heap[w11.heap.size]? = some (two (zs.to, zr.to))) := Lib.hid ((HAL.out.block w11.heap.size (by omega)).trans HR13.out)
            have hWs : (w13.alloc (.cells #[.slice (some ⟨w11.heap.size, 0, none⟩) 2 2] 31)).heap.size = w13.heap.size + 1 := by simp
            have HWS := Lib.hid hWs
            have HOO := Lib.hid HOW.out.own
            change Hid (Items rowEnc 1 (w13.alloc (.cells #[.slice (some ⟨w11.heap.size, 0, none⟩) 2 2] 31)) (some ⟨w13.heap.size, 0, none⟩) 1 [w11.heap.size]) at HIT
            clear hWs hin hd
            have hbnd : W0.heap.size ≤ (w13.alloc (.cells #[.slice (some ⟨w11.heap.size, 0, none⟩) 2 2] 31)).heap.size := by rw [HWS.out]; omega
            go_wp2_with (at_builtin; refine wpl_app_rows rfl (.tmp 106) (.tmp 108) 33 rfl 31 i0 (.slice none 0 0) 24 Try.underlying33 HI.out.1 HI.out.2.1 HI.out.2.2.1 HI.out.2.2.2 rfl rfl HOO.out rfl HIT.out (by omega) ?c1 hbnd ?_)
            case c1 => omega
            intro g6 c6 w14 ho6 hg6 hw6
            have HO6 := Lib.hid ho6
            have HG6 := Lib.hid hg6
            have HW6 : Hid (g6 = g5 ∨ g6 = (w13.alloc (.cells #[.slice (some ⟨w11.heap.size, 0, none⟩) 2 2] 31)).heap.size) := Lib.hid (by rw [HWS.out]; exact hw6)
            clear ho6 hg6 hw6 hbnd
            go_wp2_with fail
            (try simp only [Exit.noGoto, Exit.inBlock, Exit.then])
            go_wp2_with fail
            have hne : w11.heap.size ≠ g5 := by omega
            have hpush := HOW.out.push HRW.out (by omega) hne (fun q' hq' => by have := (HO5.out.out q' hq').2.1; omega) HO6.out HG6.out HW6.out
            have hin : Inside g5 (g5 + 1) (w13.alloc (.cells #[.slice (some ⟨w11.heap.size, 0, none⟩) 2 2] 31)) w14 := Inside.row HG6.out fun r' e' => by cases e'; omega
            have hnk := Nums.kp ((HN5.out.same HB13.out).same HAL.out) (Kp.grow (Below.refl _ _) HG6.out) (fun ad2 e2 => by have := HSP5.out ad2 e2; omega)
            have hWs := HWS.out
            have hw6 := HW6.out
            have hsz6 := HG6.out.size
            go_roundg (m4 - (j + 1))
            case measure => omega
            case rel => exact ⟨j + 1, rs5 ++ [w11.heap.size], g6, n5 + 1, c6, by omega, by go_num, rfl, by rw [HG.out]; exact hpush, hnk, by omega, hin.to (HD5.out.trans ((HB13.out.trans (HAL.out.mono HB13.out.size)).mono hbnd5)) (by omega) (by omega), by omega, by omega⟩
        ·obtain rfl : j = m4 := by omega
         have hfin := HO5.out
         rw [List.take_of_length_le (by omega)] at hfin
         have HFIN := Lib.hid hfin
         clear hfin
         go_wp2_with fail
         go_roundg 1
         case measure => omega
         case rel => exact ⟨1, rs5, g5, n5, c5, by omega, Or.inr (Or.inl ⟨rfl, by go_num⟩), rfl, HFIN.out, HD5.out⟩
      ·have hn1 : n1 ≤ 48 := by
        simp only [partS] at hg1l hl1
        omega
       clear hg1l hl1
       obtain ⟨x0, x1, x2, -⟩ := three_cells ((HD2.out.block _ hxl).trans HX.out)
       obtain ⟨y0, y1, y2, -⟩ := three_cells ((HD2.out.block _ hyl).trans HY.out)
       go_wp2_with fail
       clear x0 x1 x2 y0 y1 y2
       refine (specMovesFrom_any p.1 true (HMA.out.same HD2.out) (by omega)).mono ?_
       rintro e w40 ⟨a40, m40, c40, rfl, ho4, hb4⟩
       have HB40 : Hid (Below wr.heap.size wr w40) := Lib.hid hb4
       have HD40 : Hid (Below W0.heap.size W0 w40) := Lib.hid (HD2.out.trans (HB40.out.mono HD2.out.size))
       have hs40 := hb4.size
       clear ho4 hb4
       obtain ⟨x0, x1, x2, -⟩ := three_cells ((HD40.out.block _ hxl).trans HX.out)
       obtain ⟨y0, y1, y2, -⟩ := three_cells ((HD40.out.block _ hyl).trans HY.out)
       go_wp2_with fail
       clear x0 x1 x2 y0 y1 y2
       refine (specMovesFrom_any p.2 false (HMB.out.same HD40.out) (by omega)).mono ?_
       rintro e w4 ⟨a4, m4, c4, rfl, ho4, hb4⟩
       have HB4 : Hid (Below wr.heap.size wr w4) := Lib.hid (HB40.out.trans (hb4.mono HB40.out.size))
       have hm4 := ho4.len
       have hroom4 := ho4.room
       have hle4 := movesFrom_len b p.2 false
       have hs4 := hb4.size
       have HN4 := Lib.hid ho4.nums
       have HSP := Lib.hid ho4.span
       have HO4 := Lib.hid ((HO2.out.same HB4.out).upper HB4.out.size (Nat.le_refl _))
       have HD4 : Hid (Below W0.heap.size W0 w4) := Lib.hid (HD2.out.trans (HB4.out.mono HD2.out.size))
       have hg1 := HO2.out.hi
       have hlo1 := HO2.out.lo
       have hw4 := HD4.out.size
       have hs24 := HB4.out.size
       clear ho4 hb4
       obtain ⟨H, hH⟩ : ∃ q, q = w4.heap.size := ⟨_, rfl⟩
       rw [← hH] at HSP
       go_wp2_with fail
       go_loopg [5, 11] m4 (fun k s5 s11 wx => ∃ (j : Nat) (rs5 : List Nat) (g5 n5 c5 : Nat), k + j = m4 ∧ s11 = .int .i64 j ∧ s5 = .slice (some ⟨g5, 0, none⟩) n5 c5 ∧ OwnRs rs5 wx.heap.size wx W0.heap.size g5 n5 c5 (growP (growP (foundG (samesP a b) i) (sharedP a p.1 true b p.2 true)) (((movesFrom b p.2 false).take j).filterMap (bothG a p.1 false b p.2 false))) ∧ Nums .i64 wx a4 m4 (movesFrom b p.2 false) ∧ (g5 = g1 ∨ H ≤ g5) ∧ Below W0.heap.size W0 wx ∧ H ≤ wx.heap.size ∧ n5 ≤ n1 + j)
       case atStart => exact ⟨0, rs1, g1, n1, c1, by omega, rfl, rfl, by simpa [growP, partS] using HO4.out, HN4.out, Or.inl rfl, HD4.out, by omega, by omega⟩
       case round =>
        obtain ⟨j, rs5, g5, n5, c5, hkj, rfl, rfl, ho5, hn5, hg5, hb5, hH5, hln5⟩ := hrel
        have hl5 := ho5.count
        have hroom5 := ho5.room
        have hlo5 := ho5.lo
        have hhi5 := ho5.hi
        have HO5 := Lib.hid ho5
        have HN5 := Lib.hid hn5
        have HD5 := Lib.hid hb5
        have hsd5 := hb5.size
        clear ho5 hn5 hb5
        by_cases hlt5 : j < m4
        ·obtain ⟨ad, km, e4, hk, hc⟩ := HN5.out.at_ hlt5
         have HSP5 := Lib.hid HSP.out
         subst e4
         have HK := Lib.hid hk
         have HM1 := Lib.hid (fun W' hb' => specMoveOf_any p.1 false km (HMA.out.same (w' := W') (HD5.out.trans hb')))
         have HM2 := Lib.hid (fun W' hb' => specMoveOf_any p.2 false km (HMB.out.same (w' := W') (HD5.out.trans hb')))
         obtain ⟨x0, x1, x2, -⟩ := three_cells ((HD5.out.block _ hxl).trans HX.out)
         obtain ⟨y0, y1, y2, -⟩ := three_cells ((HD5.out.block _ hyl).trans HY.out)
         have hbnd5 : W0.heap.size ≤ wr.heap.size := by omega
         cases hq : toOf a.moves p.1 false km with
         | none =>
          have hmo := moveOf_none hq
          rw [hmo] at HM1
          have HE : Hid (((movesFrom b p.2 false).take (j + 1)).filterMap (bothG a p.1 false b p.2 false) = ((movesFrom b p.2 false).take j).filterMap (bothG a p.1 false b p.2 false)) := Lib.hid (by
           rw [List.take_add_one, HK.out, List.filterMap_append]
           simp [bothG_none1 hq])
          clear hq hk hmo
          go_wp2_with fail
          go_still_tail 8, (by kernel_rfl)
          have H2w7 : Hid (Below wr.heap.size wr wr.drew) := Lib.hid (Below.refl _ _).drew
          change wpList _ _ _ _ _ wr.drew
          generalize wr.drew = w7 at H2w7 ⊢
          clear x0 x1 x2 y0 y1 y2 hc
          go_wp2_with fail
          refine (HM1.out w7 (H2w7.out.mono hbnd5)).mono ?_
          rintro e w8 ⟨rfl, hb8⟩
          have HB8 : Hid (Below wr.heap.size wr w8) := Lib.hid (H2w7.out.trans (hb8.mono H2w7.out.size))
          have HD8 : Hid (Below W0.heap.size W0 w8) := Lib.hid (HD5.out.trans (HB8.out.mono hbnd5))
          have hc := (cell_stay_nums HN5.out HK.out HB8.out)
          clear hb8
          obtain ⟨x0, x1, x2, -⟩ := three_cells ((HD8.out.block _ hxl).trans HX.out)
          obtain ⟨y0, y1, y2, -⟩ := three_cells ((HD8.out.block _ hyl).trans HY.out)
          go_wp2_with fail
          go_still_tail 8, (by kernel_rfl)
          have H2w9 : Hid (Below w8.heap.size w8 w8.drew) := Lib.hid (Below.refl _ _).drew
          change wpList _ _ _ _ _ w8.drew
          generalize w8.drew = w9 at H2w9 ⊢
          clear x0 x1 x2 y0 y1 y2 hc
          go_wp2_with fail
          have HB9 : Hid (Below wr.heap.size wr w9) := Lib.hid (HB8.out.trans (H2w9.out.mono HB8.out.size))
          refine (HM2.out w9 (HB9.out.mono hbnd5)).mono ?_
          rintro e w10 ⟨rfl, hb10⟩
          have HB10 : Hid (Below wr.heap.size wr w10) := Lib.hid (HB9.out.trans (hb10.mono HB9.out.size))
          have hs10 := HB10.out.size
          clear hb10
          go_wp2_with fail
          (try simp only [Exit.noGoto, Exit.inBlock, Exit.then])
          go_wp2_with fail
          go_roundg (m4 - (j + 1))
          case measure => omega
          case rel => exact ⟨j + 1, rs5, g5, n5, c5, by omega, by go_num, rfl, by rw [HE.out]; exact (HO5.out.same HB10.out).upper HB10.out.size (Nat.le_refl _), HN5.out.same HB10.out, hg5, HD5.out.trans (HB10.out.mono hbnd5), by omega, by omega⟩
         | some tq =>
          obtain ⟨js, zs, hms, hjs, ets⟩ := moveOf_some hq
          subst ets
          rw [hms] at HM1
          cases hr : toOf b.moves p.2 false km with
          | none =>
           have hmo := moveOf_none hr
           rw [hmo] at HM2
           have HE : Hid (((movesFrom b p.2 false).take (j + 1)).filterMap (bothG a p.1 false b p.2 false) = ((movesFrom b p.2 false).take j).filterMap (bothG a p.1 false b p.2 false)) := Lib.hid (by
            rw [List.take_add_one, HK.out, List.filterMap_append]
            simp [bothG_none hr])
           clear hq hr hk hmo hms hjs
           go_wp2_with fail
           go_still_tail 8, (by kernel_rfl)
           have H2w7 : Hid (Below wr.heap.size wr wr.drew) := Lib.hid (Below.refl _ _).drew
           change wpList _ _ _ _ _ wr.drew
           generalize wr.drew = w7 at H2w7 ⊢
           clear x0 x1 x2 y0 y1 y2 hc
           go_wp2_with fail
           refine (HM1.out w7 (H2w7.out.mono hbnd5)).mono ?_
           rintro e w8 ⟨rfl, hb8⟩
           have HB8 : Hid (Below wr.heap.size wr w8) := Lib.hid (H2w7.out.trans (hb8.mono H2w7.out.size))
           have HD8 : Hid (Below W0.heap.size W0 w8) := Lib.hid (HD5.out.trans (HB8.out.mono hbnd5))
           have hc := (cell_stay_nums HN5.out HK.out HB8.out)
           clear hb8
           obtain ⟨x0, x1, x2, -⟩ := three_cells ((HD8.out.block _ hxl).trans HX.out)
           obtain ⟨y0, y1, y2, -⟩ := three_cells ((HD8.out.block _ hyl).trans HY.out)
           go_wp2_with fail
           go_still_tail 8, (by kernel_rfl)
           have H2w9 : Hid (Below w8.heap.size w8 w8.drew) := Lib.hid (Below.refl _ _).drew
           change wpList _ _ _ _ _ w8.drew
           generalize w8.drew = w9 at H2w9 ⊢
           clear x0 x1 x2 y0 y1 y2 hc
           go_wp2_with fail
           have HB9 : Hid (Below wr.heap.size wr w9) := Lib.hid (HB8.out.trans (H2w9.out.mono HB8.out.size))
           refine (HM2.out w9 (HB9.out.mono hbnd5)).mono ?_
           rintro e w10 ⟨rfl, hb10⟩
           have HB10 : Hid (Below wr.heap.size wr w10) := Lib.hid (HB9.out.trans (hb10.mono HB9.out.size))
           have hs10 := HB10.out.size
           clear hb10
           go_wp2_with fail
           (try simp only [Exit.noGoto, Exit.inBlock, Exit.then])
           go_wp2_with fail
           go_roundg (m4 - (j + 1))
           case measure => omega
           case rel => exact ⟨j + 1, rs5, g5, n5, c5, by omega, by go_num, rfl, by rw [HE.out]; exact (HO5.out.same HB10.out).upper HB10.out.size (Nat.le_refl _), HN5.out.same HB10.out, hg5, HD5.out.trans (HB10.out.mono hbnd5), by omega, by omega⟩
          | some tr =>
           obtain ⟨jr, zr, hmr, hjr, etr⟩ := moveOf_some hr
           subst etr
           rw [hmr] at HM2
           have HE : Hid (((movesFrom b p.2 false).take (j + 1)).filterMap (bothG a p.1 false b p.2 false) = ((movesFrom b p.2 false).take j).filterMap (bothG a p.1 false b p.2 false) ++ [(zs.to, zr.to)]) := Lib.hid (by
            rw [List.take_add_one, HK.out, List.filterMap_append]
            simp [bothG_some hq hr])
           obtain ⟨br, or, er, hcr⟩ := HVB.out.cell jr zr hjr
           obtain ⟨bs, os, es, hcs⟩ := HVA.out.cell js zs hjs
           have hcr3 := hcr 3 _ rfl
           have hcs3 := hcs 3 _ rfl
           have hjrn : jr < b.moves.length := at_lt hjr
           have hjsn : js < a.moves.length := at_lt hjs
           have hjrn2 : jr < n'  := by omega
           have hjsn2 := HLTA.out js hjsn
           subst er
           subst es
           have HCR := Lib.hid (cell_stay hcr3 (HB.out.trans (HD5.out.mono HB.out.size)))
           have HCS := Lib.hid (cell_stay hcs3 (HB.out.trans (HD5.out.mono HB.out.size)))
           clear hq hr hk hmr hms hcr hcs hcr3 hcs3 hjr hjs
           go_wp2_with fail
           go_still_tail 8, (by kernel_rfl)
           have H2w7 : Hid (Below wr.heap.size wr wr.drew) := Lib.hid (Below.refl _ _).drew
           change wpList _ _ _ _ _ wr.drew
           generalize wr.drew = w7 at H2w7 ⊢
           clear x0 x1 x2 y0 y1 y2 hc
           go_wp2_with fail
           refine (HM1.out w7 (H2w7.out.mono hbnd5)).mono ?_
           rintro e w8 ⟨rfl, hb8⟩
           have HB8 : Hid (Below wr.heap.size wr w8) := Lib.hid (H2w7.out.trans (hb8.mono H2w7.out.size))
           have HD8 : Hid (Below W0.heap.size W0 w8) := Lib.hid (HD5.out.trans (HB8.out.mono hbnd5))
           have hc := (cell_stay_nums HN5.out HK.out HB8.out)
           clear hb8
           obtain ⟨x0, x1, x2, -⟩ := three_cells ((HD8.out.block _ hxl).trans HX.out)
           obtain ⟨y0, y1, y2, -⟩ := three_cells ((HD8.out.block _ hyl).trans HY.out)
           go_wp2_with fail
           go_still_tail 8, (by kernel_rfl)
           have H2w9 : Hid (Below w8.heap.size w8 w8.drew) := Lib.hid (Below.refl _ _).drew
           change wpList _ _ _ _ _ w8.drew
           generalize w8.drew = w9 at H2w9 ⊢
           clear x0 x1 x2 y0 y1 y2 hc
           go_wp2_with fail
           have HB9 : Hid (Below wr.heap.size wr w9) := Lib.hid (HB8.out.trans (H2w9.out.mono HB8.out.size))
           refine (HM2.out w9 (HB9.out.mono hbnd5)).mono ?_
           rintro e w10 ⟨rfl, hb10⟩
           have HB10 : Hid (Below wr.heap.size wr w10) := Lib.hid (HB9.out.trans (hb10.mono HB9.out.size))
           have HD10 : Hid (Below W0.heap.size W0 w10) := Lib.hid (HD5.out.trans (HB10.out.mono hbnd5))
           have hs10 := HB10.out.size
           clear hb10
           obtain ⟨x0, x1, x2, -⟩ := three_cells ((HD10.out.block _ hxl).trans HX.out)
           obtain ⟨y0, y1, y2, -⟩ := three_cells ((HD10.out.block _ hyl).trans HY.out)
           have z0 := cell_stay HCR.out HB10.out
           have z1 := cell_stay HCS.out HB10.out
           go_wp2_with fail
           go_still_tail 12, (by kernel_rfl)
           have H2w11 : Hid (Below w10.heap.size w10 w10.drew) := Lib.hid (Below.refl _ _).drew
           change wpList _ _ _ _ _ w10.drew
           generalize w10.drew = w11 at H2w11 ⊢
           clear x0 x1 x2 y0 y1 y2 z0 z1
           have HB11 : Hid (Below wr.heap.size wr w11) := Lib.hid (HB10.out.trans (H2w11.out.mono HB10.out.size))
           have hs11 := HB11.out.size
           have HAL := Lib.hid (alloc_same w11 (.cells #[.int .i64 zs.to, .int .i64 zr.to] 3))
           have HRW : Hid ((w11.alloc (.cells #[.int .i64 zs.to, .int .i64 zr.to] 3)).heap[w11.heap.size]? = some (two (zs.to, zr.to))) := Lib.hid (heap_alloc_new w11 (.cells #[.int .i64 zs.to, .int .i64 zr.to] 3 (0, 0)))
           have hs12 : (w11.alloc (.cells #[.int .i64 zs.to, .int .i64 zr.to] 3)).heap.size = w11.heap.size + 1 := by simp
           have HHAS := Lib.hid (l14Has_any ((HO5.out.same HB11.out).same HAL.out) HRW.out)
           have HB12 := Lib.hid (HB11.out.trans (HAL.out.mono HB11.out.size))
           go_wp2_with fail
           clear HAL
           generalize w11.alloc (.cells #[.int .i64 zs.to, .int .i64 zr.to] 3) = w12 at *
           refine HHAS.out.mono ?_
           rintro e w13 ⟨rfl, hb13⟩
           have HB13 : Hid (Below wr.heap.size wr w13) := Lib.hid (HB12.out.trans (hb13.mono HB12.out.size))
           have hs13 := hb13.size
           have HR13 := Lib.hid ((hb13.block w11.heap.size (by omega)).trans HRW.out)
           clear hb13 HHAS HRW
           by_cases hin : (zs.to, zr.to) ∈ growP (growP (foundG (samesP a b) i) (sharedP a p.1 true b p.2 true)) (((movesFrom b p.2 false).take j).filterMap (bothG a p.1 false b p.2 false))
           ·have hd := decide_eq_true hin
            rw [hd]
            have HG : Hid (growP (growP (foundG (samesP a b) i) (sharedP a p.1 true b p.2 true)) (((movesFrom b p.2 false).take (j + 1)).filterMap (bothG a p.1 false b p.2 false)) = growP (growP (foundG (samesP a b) i) (sharedP a p.1 true b p.2 true)) (((movesFrom b p.2 false).take j).filterMap (bothG a p.1 false b p.2 false))) := Lib.hid (by rw [HE.out, growP_snoc, grow1, if_pos hin])
            clear hin hd
            go_wp2_with fail
            (try simp only [Exit.noGoto, Exit.inBlock, Exit.then])
            go_wp2_with fail
            go_roundg (m4 - (j + 1))
            case measure => omega
            case rel => exact ⟨j + 1, rs5, g5, n5, c5, by omega, by go_num, rfl, by rw [HG.out]; exact (HO5.out.same HB13.out).upper HB13.out.size (Nat.le_refl _), HN5.out.same HB13.out, hg5, HD5.out.trans (HB13.out.mono hbnd5), by omega, by omega⟩
           ·have hd := decide_eq_false hin
            rw [hd]
            have HG : Hid (growP (growP (foundG (samesP a b) i) (sharedP a p.1 true b p.2 true)) (((movesFrom b p.2 false).take (j + 1)).filterMap (bothG a p.1 false b p.2 false)) = growP (growP (foundG (samesP a b) i) (sharedP a p.1 true b p.2 true)) (((movesFrom b p.2 false).take j).filterMap (bothG a p.1 false b p.2 false)) ++ [(zs.to, zr.to)]) := Lib.hid (by rw [HE.out, growP_snoc, grow1, if_neg hin])
            have HAL := Lib.hid (alloc_same w13 (.cells #[.slice (some ⟨w11.heap.size, 0, none⟩) 2 2] 31))
            have HIT := Lib.hid (items_new rowEnc_len w13 w11.heap.size 31)
            have HOW := Lib.hid ((HO5.out.same HB13.out).same HAL.out)
            have HRW : Hid ((w13.alloc (.cells #[.slice (some ⟨w11.heap.size, 0, none⟩) 2 2] 31)).heap[w11.heap.size]? = some (two (zs.to, zr.to))) := Lib.hid ((HAL.out.block w11.heap.size (by omega)).trans HR13.out)
            have hWs : (w13.alloc (.cells #[.slice (some ⟨w11.heap.size, 0, none⟩) 2 2] 31)).heap.size = w13.heap.size + 1 := by simp
            have HWS := Lib.hid hWs
            have HOO := Lib.hid HOW.out.own
            change Hid (Items rowEnc 1 (w13.alloc (.cells #[.slice (some ⟨w11.heap.size, 0, none⟩) 2 2] 31)) (some ⟨w13.heap.size, 0, none⟩) 1 [w11.heap.size]) at HIT
            clear hWs hin hd
            have hbnd : W0.heap.size ≤ (w13.alloc (.cells #[.slice (some ⟨w11.heap.size, 0, none⟩) 2 2] 31)).heap.size := by rw [HWS.out]; omega
            go_wp2_with (at_builtin; refine wpl_app_rows rfl (.tmp 106) (.tmp 108) 33 rfl 31 i0 (.slice none 0 0) 24 Try.underlying33 HI.out.1 HI.out.2.1 HI.out.2.2.1 HI.out.2.2.2 rfl rfl HOO.out rfl HIT.out (by omega) ?c1 hbnd ?_)
            case c1 => omega
            intro g6 c6 w14 ho6 hg6 hw6
            have HO6 := Lib.hid ho6
            have HG6 := Lib.hid hg6
            have HW6 : Hid (g6 = g5 ∨ g6 = (w13.alloc (.cells #[.slice (some ⟨w11.heap.size, 0, none⟩) 2 2] 31)).heap.size) := Lib.hid (by rw [HWS.out]; exact hw6)
            clear ho6 hg6 hw6 hbnd
            go_wp2_with fail
            (try simp only [Exit.noGoto, Exit.inBlock, Exit.then])
            go_wp2_with fail
            have hne : w11.heap.size ≠ g5 := by omega
            have hpush := HOW.out.push HRW.out (by omega) hne (fun q' hq' => by have := (HO5.out.out q' hq').2.1; omega) HO6.out HG6.out HW6.out
            have hin : Inside g5 (g5 + 1) (w13.alloc (.cells #[.slice (some ⟨w11.heap.size, 0, none⟩) 2 2] 31)) w14 := Inside.row HG6.out fun r' e' => by cases e'; omega
            have hnk := Nums.kp ((HN5.out.same HB13.out).same HAL.out) (Kp.grow (Below.refl _ _) HG6.out) (fun ad2 e2 => by have := HSP5.out ad2 e2; omega)
            have hWs := HWS.out
            have hw6 := HW6.out
            have hsz6 := HG6.out.size
            go_roundg (m4 - (j + 1))
            case measure => omega
            case rel => exact ⟨j + 1, rs5 ++ [w11.heap.size], g6, n5 + 1, c6, by omega, by go_num, rfl, by rw [HG.out]; exact hpush, hnk, by omega, hin.to (HD5.out.trans ((HB13.out.trans (HAL.out.mono HB13.out.size)).mono hbnd5)) (by omega) (by omega), by omega, by omega⟩
        ·obtain rfl : j = m4 := by omega
         have hfin := HO5.out
         rw [List.take_of_length_le (by omega)] at hfin
         have HFIN := Lib.hid hfin
         clear hfin
         go_wp2_with fail
         have HQF : Hid (growP (growP (foundG (samesP a b) i) (sharedP a p.1 true b p.2 true)) ((movesFrom b p.2 false).filterMap (bothG a p.1 false b p.2 false)) = growP (foundG (samesP a b) i) (samesP a b p.1 p.2)) := Lib.hid (by
          rw [← sharedP_other]
          unfold samesP growP
          rw [List.foldl_append])
         go_roundg 0
         case measure => omega
         case rel => exact ⟨2, rs5, g5, n5, c5, by omega, Or.inr (Or.inr ⟨rfl, by go_num⟩), rfl, by have h9 := HFIN.out; rw [HQF.out] at h9; exact h9, HD5.out⟩
      ·clear hg1l
       go_wp2_with fail
       go_roundg (36 - (i + 1))
       case measure => omega
       case rel => exact ⟨i + 1, rs1, g1, n1, c1, by omega, by go_num, rfl, by rw [HP.out]; exact HO2.out, HD2.out⟩
    ·have hend := (foundG_end (nx := samesP a b) (i := i) (by omega) (by omega)).trans (followP_yes HQ.out.1 HQ.out.2).symm
     have HE := Lib.hid hend
     clear hend
     go_wp2_with fail
     go_ret
     exact ⟨_, _, _, rfl, ⟨rs, by rw [← HE.out]; exact HO.out.lower hge⟩, HB.out.trans (HD.out.mono hge)⟩
end Go.Proofs.Ytckmgbobkffabaa
namespace Go.Proofs.Ytckmgbobkffabaa
open Go.ChangeShapes Go.WideShapes Go.ChangeAt Go.RowKit
set_option linter.unusedVariables false
set_option linter.unusedSimpArgs false

set_option maxHeartbeats 8000000 in
set_option maxRecDepth 100000 in
theorem troubleAt_any {v v' : Value} {a b : Mac} (x y : Int) {w : World} (h : MacW w v a) (h' : MacW w v' b) (hz : ∀ z ∈ a.moves, Wmv z) (hz' : ∀ z ∈ b.moves, Wmv z) (hn : a.parts ≤ 10000000) (hn' : b.parts ≤ 10000000) :
  Calls Try.prog 21 #[v, v', .int .i64 x, .int .i64 y] w (Told (.int .i64 (troubleP a b x y)) w) := by
 obtain ⟨p, np, cp, q, n, c, rfl⟩ := h.shape
 obtain ⟨p', np', cp', q', n', c', rfl⟩ := h'.shape
 obtain ⟨hB, hX, hY, hS⟩ := twice w #[.int .i64 a.st, .slice p np cp, .slice q n c] #[.int .i64 b.st, .slice p' np' cp', .slice q' n' c'] 27 27
 have HB := Lib.hid hB
 have HX0 := Lib.hid hX
 have HY0 := Lib.hid hY
 have HX := Lib.hid (three_cells hX)
 have HY := Lib.hid (three_cells hY)
 have HMA := Lib.hid h
 have HMB := Lib.hid h'
 have HZA := Lib.hid hz
 have HZB := Lib.hid hz'
 have HU1 : Hid (∀ W', Below w.heap.size w W' → Calls Try.prog 60 #[.agg #[.int .i64 a.st, .slice p np cp, .slice q n c, .int .i64 x], .agg #[.int .i64 b.st, .slice p' np' cp', .slice q' n' c', .int .i64 y]] W' (Told (.bool (unreadP a b x y)) W')) := Lib.hid fun W' hb => by
  have q := sendsUnread_any x y (h.same hb) (h'.same hb) hz hz' (by omega) (by omega)
  rw [party_eq, party_eq] at q
  exact q
 have HU2 : Hid (∀ W', Below w.heap.size w W' → Calls Try.prog 60 #[.agg #[.int .i64 b.st, .slice p' np' cp', .slice q' n' c', .int .i64 y], .agg #[.int .i64 a.st, .slice p np cp, .slice q n c, .int .i64 x]] W' (Told (.bool (unreadP b a y x)) W')) := Lib.hid fun W' hb => by
  have q := sendsUnread_any y x (h'.same hb) (h.same hb) hz' hz (by omega) (by omega)
  rw [party_eq, party_eq] at q
  exact q
 have HNX : Hid (∀ W', Below w.heap.size w W' → Calls Try.prog 22 #[.agg #[.int .i64 a.st, .slice p np cp, .slice q n c], .agg #[.int .i64 b.st, .slice p' np' cp', .slice q' n' c'], .int .i64 x, .int .i64 y] W' (MadeR W'.heap.size (nextP a b x y) W')) := Lib.hid fun W' hb => nextPairs_any x y (h.same hb) (h'.same hb) hz hz' hn hn'
 have HS1 : Hid (∀ W', Below w.heap.size w W' → Calls Try.prog 61 #[.agg #[.int .i64 a.st, .slice p np cp, .slice q n c, .int .i64 x]] W' (Told (.bool (stopP a x)) W')) := Lib.hid fun W' hb => by
  have q := mayStop_any x (h.same hb)
  rw [party_eq] at q
  exact q
 have HS2 : Hid (∀ W', Below w.heap.size w W' → Calls Try.prog 61 #[.agg #[.int .i64 b.st, .slice p' np' cp', .slice q' n' c', .int .i64 y]] W' (Told (.bool (stopP b y)) W')) := Lib.hid fun W' hb => by
  have q := mayStop_any y (h'.same hb)
  rw [party_eq] at q
  exact q
 clear hB hX hY hS h h' hz hz'
 go_enter Try.func21, Try.ntmps21
 obtain ⟨x0, x1, x2, -⟩ := HX.out
 obtain ⟨y0, y1, y2, -⟩ := HY.out
 go_wp2_with fail
 clear x0 x1 x2 y0 y1 y2
 generalize hW0 : ((w.alloc (.cells #[.int .i64 a.st, .slice p np cp, .slice q n c] 27)).alloc (.cells #[.int .i64 b.st, .slice p' np' cp', .slice q' n' c'] 27)) = W0 at *
 clear hW0
 refine wp_region_held_drew (S := fun w9 => Below W0.heap.size W0 w9) (by kernel_rfl) (Below.refl _ W0).drew (fun hHeld => ?_)
 refine wpAnyH_take (i := 0) (v := ?v1) (by simp only [get9]; rfl) (by kernel_rfl) (by kernel_rfl) (by kernel_rfl) (by exact fun _ _ _ h => h) (Or.inl ⟨by rfl, fun w9 hS9 => ?hy1⟩) hHeld ?rest1
 case hy1 =>
  dsimp only at hS9
  have q0 := cell_stay HX.out.1 hS9
  have q1 := cell_stay HX.out.2.1 hS9
  have q2 := cell_stay HX.out.2.2.1 hS9
  have q3 := cell_stay HY.out.1 hS9
  have q4 := cell_stay HY.out.2.1 hS9
  have q5 := cell_stay HY.out.2.2.1 hS9
  go_simp
  try with_reducible rfl
 try simp only [Act.put, set9]
 refine wpAnyH_take (i := 1) (v := ?v2) (by simp only [get9]; rfl) (by kernel_rfl) (by kernel_rfl) (by kernel_rfl) (by exact fun _ _ _ h => h) (Or.inl ⟨by rfl, fun w9 hS9 => ?hy2⟩) hHeld ?rest2
 case hy2 =>
  dsimp only at hS9
  have q0 := cell_stay HX.out.1 hS9
  have q1 := cell_stay HX.out.2.1 hS9
  have q2 := cell_stay HX.out.2.2.1 hS9
  have q3 := cell_stay HY.out.1 hS9
  have q4 := cell_stay HY.out.2.1 hS9
  have q5 := cell_stay HY.out.2.2.1 hS9
  go_simp
  try with_reducible rfl
 try simp only [Act.put, set9]
 refine wpAnyH_take (i := 2) (v := ?v3) (by simp only [get9]; rfl) (by kernel_rfl) (by kernel_rfl) (by kernel_rfl) (by exact fun _ _ _ h => h) (Or.inl ⟨by rfl, fun w9 hS9 => ?hy3⟩) hHeld ?rest3
 case hy3 =>
  dsimp only at hS9
  have q0 := cell_stay HX.out.1 hS9
  have q1 := cell_stay HX.out.2.1 hS9
  have q2 := cell_stay HX.out.2.2.1 hS9
  have q3 := cell_stay HY.out.1 hS9
  have q4 := cell_stay HY.out.2.1 hS9
  have q5 := cell_stay HY.out.2.2.1 hS9
  go_simp
  try with_reducible rfl
 try simp only [Act.put, set9]
 refine wpAnyH_take (i := 3) (v := ?v4) (by simp only [get9]; rfl) (by kernel_rfl) (by kernel_rfl) (by kernel_rfl) (by exact fun _ _ _ h => h) (Or.inl ⟨by rfl, fun w9 hS9 => ?hy4⟩) hHeld ?rest4
 case hy4 =>
  dsimp only at hS9
  have q0 := cell_stay HX.out.1 hS9
  have q1 := cell_stay HX.out.2.1 hS9
  have q2 := cell_stay HX.out.2.2.1 hS9
  have q3 := cell_stay HY.out.1 hS9
  have q4 := cell_stay HY.out.2.1 hS9
  have q5 := cell_stay HY.out.2.2.1 hS9
  go_simp
  try with_reducible rfl
 try simp only [Act.put, set9]
 refine wpAnyH_take (i := 4) (v := ?v5) (by simp only [get9]; rfl) (by kernel_rfl) (by kernel_rfl) (by kernel_rfl) (by exact fun _ _ _ h => h) (Or.inl ⟨by rfl, fun w9 hS9 => ?hy5⟩) hHeld ?rest5
 case hy5 =>
  dsimp only at hS9
  have q0 := cell_stay HX.out.1 hS9
  have q1 := cell_stay HX.out.2.1 hS9
  have q2 := cell_stay HX.out.2.2.1 hS9
  have q3 := cell_stay HY.out.1 hS9
  have q4 := cell_stay HY.out.2.1 hS9
  have q5 := cell_stay HY.out.2.2.1 hS9
  go_simp
  try with_reducible rfl
 try simp only [Act.put, set9]
 refine wpAnyH_take (i := 5) (v := ?v6) (by simp only [get9]; rfl) (by kernel_rfl) (by kernel_rfl) (by kernel_rfl) (by exact fun _ _ _ h => h) (Or.inl ⟨by rfl, fun w9 hS9 => ?hy6⟩) hHeld ?rest6
 case hy6 =>
  dsimp only at hS9
  have q0 := cell_stay HX.out.1 hS9
  have q1 := cell_stay HX.out.2.1 hS9
  have q2 := cell_stay HX.out.2.2.1 hS9
  have q3 := cell_stay HY.out.1 hS9
  have q4 := cell_stay HY.out.2.1 hS9
  have q5 := cell_stay HY.out.2.2.1 hS9
  go_simp
  try with_reducible rfl
 try simp only [Act.put, set9]
 refine wpAnyH_ready (rs := [6, 7]) (by kernel_rfl) (by simp) (AllReadyH.cons (by simp only [get9]; rfl) (fun K hK => ?_) (AllReadyH.cons (by simp only [get9]; rfl) (fun K hK => ?_) AllReadyH.nil))
 ·skip
  go_simp
  refine hK.out _ _ ((Below.refl _ W0).drew.alloc (Nat.le_refl _) _) (fun hHeld => ?_)
  clear hK K
  try simp only [Act.put, set9]
  refine wpAnyH_ready (rs := [7]) (by kernel_rfl) (by simp) (AllReadyH.cons (by simp only [get9]; rfl) (fun K hK => ?_) AllReadyH.nil)
  go_simp
  refine hK.out _ _ (((Below.refl _ W0).drew.alloc (Nat.le_refl _) _).alloc (by simp) _) (fun hHeld => ?_)
  clear hK K
  try simp only [Act.put, set9]
  refine wpAnyH_ready (rs := [8]) (by kernel_rfl) (by simp) (AllReadyH.cons (by simp only [get9]; rfl) (fun K hK => ?_) AllReadyH.nil)
  go_simp
  refine hK.out _ _ (((Below.refl _ W0).alloc (Nat.le_refl _) _).alloc (by simp) _).drew (fun hHeld => ?_)
  clear hK K
  try simp only [Act.put, set9]
  refine wpAnyH_ready (rs := [9]) (by kernel_rfl) (by simp) (AllReadyH.cons (by simp only [get9]; rfl) (fun K hK => ?_) AllReadyH.nil)
  go_simp
  refine hK.out _ _ (((Below.refl _ W0).alloc (Nat.le_refl _) _).alloc (by simp) _).drew (fun hHeld => ?_)
  clear hK K
  try simp only [Act.put, set9]
  refine wpAnyH_done (by kernel_rfl) ?_ _
  obtain ⟨hB9, hX9, hY9, hS9⟩ := twice W0 #[.int .i64 a.st, .slice p np cp, .slice q n c, .int .i64 x] #[.int .i64 b.st, .slice p' np' cp', .slice q' n' c', .int .i64 y] 73 73
  have HGA : Hid (((W0.alloc (.cells #[.int .i64 a.st, .slice p np cp, .slice q n c, .int .i64 x] 73)).alloc (.cells #[.int .i64 b.st, .slice p' np' cp', .slice q' n' c', .int .i64 y] 73)).drew.heap[W0.heap.size]? = some (.cells #[.int .i64 a.st, .slice p np cp, .slice q n c, .int .i64 x] 73 (0, 0))) := Lib.hid hX9
  have HGB : Hid (((W0.alloc (.cells #[.int .i64 a.st, .slice p np cp, .slice q n c, .int .i64 x] 73)).alloc (.cells #[.int .i64 b.st, .slice p' np' cp', .slice q' n' c', .int .i64 y] 73)).drew.heap[W0.heap.size + 1]? = some (.cells #[.int .i64 b.st, .slice p' np' cp', .slice q' n' c', .int .i64 y] 73 (0, 0))) := Lib.hid hY9
  have HBF : Hid (Below W0.heap.size W0 ((W0.alloc (.cells #[.int .i64 a.st, .slice p np cp, .slice q n c, .int .i64 x] 73)).alloc (.cells #[.int .i64 b.st, .slice p' np' cp', .slice q' n' c', .int .i64 y] 73)).drew) := Lib.hid hB9.drew
  clear hB9 hX9 hY9 hS9
  generalize hW4 : ((W0.alloc (.cells #[.int .i64 a.st, .slice p np cp, .slice q n c, .int .i64 x] 73)).alloc (.cells #[.int .i64 b.st, .slice p' np' cp', .slice q' n' c', .int .i64 y] 73)).drew = W4 at *
  clear hW4
  obtain ⟨GB, hG2⟩ : ∃ r, r = W0.heap.size + 1 := ⟨_, rfl⟩
  obtain ⟨GA, hG1⟩ : ∃ r, r = W0.heap.size := ⟨_, rfl⟩
  rw [← hG2, ← hG1]
  replace HGA : Hid (W4.heap[GA]? = some (.cells #[.int .i64 a.st, .slice p np cp, .slice q n c, .int .i64 x] 73 (0, 0))) := Lib.hid (by rw [hG1]; exact HGA.out)
  replace HGB : Hid (W4.heap[GB]? = some (.cells #[.int .i64 b.st, .slice p' np' cp', .slice q' n' c', .int .i64 y] 73 (0, 0))) := Lib.hid (by rw [hG2]; exact HGB.out)
  clear hG1 hG2
  have HBW4 : Hid (Below w.heap.size w W4) := Lib.hid (HB.out.trans (HBF.out.mono HB.out.size))
  have HF4 : Hid (Below W4.heap.size W4 W4) := Lib.hid (Below.refl _ _)
  have HF04 : Hid (Below W0.heap.size W0 W4) := Lib.hid HBF.out
  have ha0 : GA < W4.heap.size := (Array.getElem?_eq_some_iff.1 HGA.out).1
  have hb0 : GB < W4.heap.size := (Array.getElem?_eq_some_iff.1 HGB.out).1
  have hw0 : w.heap.size + 1 < W0.heap.size := (Array.getElem?_eq_some_iff.1 HY0.out).1
  have hge : w.heap.size ≤ W4.heap.size := HBW4.out.size
  obtain ⟨⟨a0, a1, a2, a3⟩, _⟩ := party_cells ((HF4.out.block GA ha0).trans HGA.out)
  obtain ⟨⟨b0, b1, b2, b3⟩, _⟩ := party_cells ((HF4.out.block GB hb0).trans HGB.out)
  obtain ⟨x0, x1, x2, -⟩ := three_cells ((HF04.out.block w.heap.size (by omega)).trans HX0.out)
  obtain ⟨y0, y1, y2, -⟩ := three_cells ((HF04.out.block (w.heap.size + 1) (by omega)).trans HY0.out)
  go_wp2_with fail
  clear a0 a1 a2 a3 b0 b1 b2 b3 x0 x1 x2 y0 y1 y2
  refine (HU1.out W4 HBW4.out).mono ?_
  rintro e w5 ⟨rfl, hb⟩
  have HBW5 : Hid (Below w.heap.size w w5) := Lib.hid (HBW4.out.trans (hb.mono HBW4.out.size))
  have HF5 : Hid (Below W4.heap.size W4 w5) := Lib.hid (HF4.out.trans (hb.mono HF4.out.size))
  have HF05 : Hid (Below W0.heap.size W0 w5) := Lib.hid (HF04.out.trans (hb.mono HF04.out.size))
  clear hb
  cases u1 : unreadP a b x y with
  | true =>
   obtain ⟨⟨a0, a1, a2, a3⟩, _⟩ := party_cells ((HF5.out.block GA ha0).trans HGA.out)
   obtain ⟨⟨b0, b1, b2, b3⟩, _⟩ := party_cells ((HF5.out.block GB hb0).trans HGB.out)
   obtain ⟨x0, x1, x2, -⟩ := three_cells ((HF05.out.block w.heap.size (by omega)).trans HX0.out)
   obtain ⟨y0, y1, y2, -⟩ := three_cells ((HF05.out.block (w.heap.size + 1) (by omega)).trans HY0.out)
   have HT : Hid (troubleP a b x y = 1) := Lib.hid (by unfold troubleP; rw [u1, Bool.true_or, if_pos rfl])
   clear HX HY
   go_wp2_with fail
   go_ret
   exact ⟨by rw [HT.out]; try rfl, HBW5.out⟩
  | false =>
   obtain ⟨⟨a0, a1, a2, a3⟩, _⟩ := party_cells ((HF5.out.block GA ha0).trans HGA.out)
   obtain ⟨⟨b0, b1, b2, b3⟩, _⟩ := party_cells ((HF5.out.block GB hb0).trans HGB.out)
   obtain ⟨x0, x1, x2, -⟩ := three_cells ((HF05.out.block w.heap.size (by omega)).trans HX0.out)
   obtain ⟨y0, y1, y2, -⟩ := three_cells ((HF05.out.block (w.heap.size + 1) (by omega)).trans HY0.out)
   go_wp2_with fail
   clear a0 a1 a2 a3 b0 b1 b2 b3 x0 x1 x2 y0 y1 y2
   refine (HU2.out w5 HBW5.out).mono ?_
   rintro e w6 ⟨rfl, hb⟩
   have HBW6 : Hid (Below w.heap.size w w6) := Lib.hid (HBW5.out.trans (hb.mono HBW5.out.size))
   have HF6 : Hid (Below W4.heap.size W4 w6) := Lib.hid (HF5.out.trans (hb.mono HF5.out.size))
   have HF06 : Hid (Below W0.heap.size W0 w6) := Lib.hid (HF05.out.trans (hb.mono HF05.out.size))
   clear hb
   cases u2 : unreadP b a y x with
   | true =>
    obtain ⟨⟨a0, a1, a2, a3⟩, _⟩ := party_cells ((HF6.out.block GA ha0).trans HGA.out)
    obtain ⟨⟨b0, b1, b2, b3⟩, _⟩ := party_cells ((HF6.out.block GB hb0).trans HGB.out)
    obtain ⟨x0, x1, x2, -⟩ := three_cells ((HF06.out.block w.heap.size (by omega)).trans HX0.out)
    obtain ⟨y0, y1, y2, -⟩ := three_cells ((HF06.out.block (w.heap.size + 1) (by omega)).trans HY0.out)
    have HT : Hid (troubleP a b x y = 1) := Lib.hid (by unfold troubleP; rw [u1, u2, Bool.false_or, if_pos rfl])
    clear HX HY
    go_wp2_with fail
    go_ret
    exact ⟨by rw [HT.out]; try rfl, HBW6.out⟩
   | false =>
    obtain ⟨⟨a0, a1, a2, a3⟩, _⟩ := party_cells ((HF6.out.block GA ha0).trans HGA.out)
    obtain ⟨⟨b0, b1, b2, b3⟩, _⟩ := party_cells ((HF6.out.block GB hb0).trans HGB.out)
    obtain ⟨x0, x1, x2, -⟩ := three_cells ((HF06.out.block w.heap.size (by omega)).trans HX0.out)
    obtain ⟨y0, y1, y2, -⟩ := three_cells ((HF06.out.block (w.heap.size + 1) (by omega)).trans HY0.out)
    go_wp2_with fail
    clear a0 a1 a2 a3 b0 b1 b2 b3 x0 x1 x2 y0 y1 y2
    refine (HNX.out w6 HBW6.out).mono ?_
    rintro e w7 ⟨g, k, d, rfl, ho, hb⟩
    have HBW7 : Hid (Below w.heap.size w w7) := Lib.hid (HBW6.out.trans (hb.mono HBW6.out.size))
    have HF7 : Hid (Below W4.heap.size W4 w7) := Lib.hid (HF6.out.trans (hb.mono HF6.out.size))
    have HF07 : Hid (Below W0.heap.size W0 w7) := Lib.hid (HF06.out.trans (hb.mono HF06.out.size))
    have hk : (nextP a b x y).length = k := ho.count
    clear ho
    clear hb
    cases nz : (nextP a b x y).isEmpty with
    | false =>
     have hk0 : ((k : Int) == 0) = false := by
      rw [beq_eq_false_iff_ne]
      intro e
      have : (nextP a b x y) = [] := List.eq_nil_of_length_eq_zero (by omega)
      rw [this] at nz
      cases nz
     obtain ⟨⟨a0, a1, a2, a3⟩, _⟩ := party_cells ((HF7.out.block GA ha0).trans HGA.out)
     obtain ⟨⟨b0, b1, b2, b3⟩, _⟩ := party_cells ((HF7.out.block GB hb0).trans HGB.out)
     obtain ⟨x0, x1, x2, -⟩ := three_cells ((HF07.out.block w.heap.size (by omega)).trans HX0.out)
     obtain ⟨y0, y1, y2, -⟩ := three_cells ((HF07.out.block (w.heap.size + 1) (by omega)).trans HY0.out)
     have HT : Hid (troubleP a b x y = 0) := Lib.hid (by unfold troubleP; rw [u1, u2, Bool.false_or, if_neg (by decide), nz, Bool.false_and, if_neg (by decide)])
     clear HX HY
     go_wp2_with fail
     go_ret
     exact ⟨by rw [HT.out]; try rfl, HBW7.out⟩
    | true =>
     obtain rfl : k = 0 := by
      rw [← hk, List.isEmpty_iff.1 nz]
      rfl
     obtain ⟨⟨a0, a1, a2, a3⟩, _⟩ := party_cells ((HF7.out.block GA ha0).trans HGA.out)
     obtain ⟨⟨b0, b1, b2, b3⟩, _⟩ := party_cells ((HF7.out.block GB hb0).trans HGB.out)
     obtain ⟨x0, x1, x2, -⟩ := three_cells ((HF07.out.block w.heap.size (by omega)).trans HX0.out)
     obtain ⟨y0, y1, y2, -⟩ := three_cells ((HF07.out.block (w.heap.size + 1) (by omega)).trans HY0.out)
     go_wp2_with fail
     clear a0 a1 a2 a3 b0 b1 b2 b3 x0 x1 x2 y0 y1 y2
     refine (HS1.out w7 HBW7.out).mono ?_
     rintro e w8 ⟨rfl, hb⟩
     have HBW8 : Hid (Below w.heap.size w w8) := Lib.hid (HBW7.out.trans (hb.mono HBW7.out.size))
     have HF8 : Hid (Below W4.heap.size W4 w8) := Lib.hid (HF7.out.trans (hb.mono HF7.out.size))
     have HF08 : Hid (Below W0.heap.size W0 w8) := Lib.hid (HF07.out.trans (hb.mono HF07.out.size))
     clear hb
     cases s1 : stopP a x with
     | false =>
      obtain ⟨⟨a0, a1, a2, a3⟩, _⟩ := party_cells ((HF8.out.block GA ha0).trans HGA.out)
      obtain ⟨⟨b0, b1, b2, b3⟩, _⟩ := party_cells ((HF8.out.block GB hb0).trans HGB.out)
      obtain ⟨x0, x1, x2, -⟩ := three_cells ((HF08.out.block w.heap.size (by omega)).trans HX0.out)
      obtain ⟨y0, y1, y2, -⟩ := three_cells ((HF08.out.block (w.heap.size + 1) (by omega)).trans HY0.out)
      have HT : Hid (troubleP a b x y = 2) := Lib.hid (by unfold troubleP; rw [u1, u2, Bool.false_or, if_neg (by decide), nz, s1, Bool.false_and, Bool.not_false, Bool.true_and, if_pos rfl])
      clear HX HY
      go_wp2_with fail
      go_ret
      exact ⟨by rw [HT.out]; try rfl, HBW8.out⟩
     | true =>
      obtain ⟨⟨a0, a1, a2, a3⟩, _⟩ := party_cells ((HF8.out.block GA ha0).trans HGA.out)
      obtain ⟨⟨b0, b1, b2, b3⟩, _⟩ := party_cells ((HF8.out.block GB hb0).trans HGB.out)
      obtain ⟨x0, x1, x2, -⟩ := three_cells ((HF08.out.block w.heap.size (by omega)).trans HX0.out)
      obtain ⟨y0, y1, y2, -⟩ := three_cells ((HF08.out.block (w.heap.size + 1) (by omega)).trans HY0.out)
      go_wp2_with fail
      clear a0 a1 a2 a3 b0 b1 b2 b3 x0 x1 x2 y0 y1 y2
      refine (HS2.out w8 HBW8.out).mono ?_
      rintro e w9 ⟨rfl, hb⟩
      have HBW9 : Hid (Below w.heap.size w w9) := Lib.hid (HBW8.out.trans (hb.mono HBW8.out.size))
      have HF9 : Hid (Below W4.heap.size W4 w9) := Lib.hid (HF8.out.trans (hb.mono HF8.out.size))
      have HF09 : Hid (Below W0.heap.size W0 w9) := Lib.hid (HF08.out.trans (hb.mono HF08.out.size))
      clear hb
      cases s2 : stopP b y with
      | false =>
       obtain ⟨⟨a0, a1, a2, a3⟩, _⟩ := party_cells ((HF9.out.block GA ha0).trans HGA.out)
       obtain ⟨⟨b0, b1, b2, b3⟩, _⟩ := party_cells ((HF9.out.block GB hb0).trans HGB.out)
       obtain ⟨x0, x1, x2, -⟩ := three_cells ((HF09.out.block w.heap.size (by omega)).trans HX0.out)
       obtain ⟨y0, y1, y2, -⟩ := three_cells ((HF09.out.block (w.heap.size + 1) (by omega)).trans HY0.out)
       have HT : Hid (troubleP a b x y = 2) := Lib.hid (by unfold troubleP; rw [u1, u2, Bool.false_or, if_neg (by decide), nz, s1, s2]; rfl)
       clear HX HY
       go_wp2_with fail
       go_ret
       exact ⟨by rw [HT.out]; try rfl, HBW9.out⟩
      | true =>
       obtain ⟨⟨a0, a1, a2, a3⟩, _⟩ := party_cells ((HF9.out.block GA ha0).trans HGA.out)
       obtain ⟨⟨b0, b1, b2, b3⟩, _⟩ := party_cells ((HF9.out.block GB hb0).trans HGB.out)
       obtain ⟨x0, x1, x2, -⟩ := three_cells ((HF09.out.block w.heap.size (by omega)).trans HX0.out)
       obtain ⟨y0, y1, y2, -⟩ := three_cells ((HF09.out.block (w.heap.size + 1) (by omega)).trans HY0.out)
       have HT : Hid (troubleP a b x y = 0) := Lib.hid (by unfold troubleP; rw [u1, u2, Bool.false_or, if_neg (by decide), nz, s1, s2]; rfl)
       clear HX HY
       go_wp2_with fail
       go_ret
       exact ⟨by rw [HT.out]; try rfl, HBW9.out⟩
 ·skip
  go_simp
  refine hK.out _ _ ((Below.refl _ W0).drew.alloc (Nat.le_refl _) _) (fun hHeld => ?_)
  clear hK K
  try simp only [Act.put, set9]
  refine wpAnyH_ready (rs := [6]) (by kernel_rfl) (by simp) (AllReadyH.cons (by simp only [get9]; rfl) (fun K hK => ?_) AllReadyH.nil)
  go_simp
  refine hK.out _ _ (((Below.refl _ W0).drew.alloc (Nat.le_refl _) _).alloc (by simp) _) (fun hHeld => ?_)
  clear hK K
  try simp only [Act.put, set9]
  refine wpAnyH_ready (rs := [8]) (by kernel_rfl) (by simp) (AllReadyH.cons (by simp only [get9]; rfl) (fun K hK => ?_) AllReadyH.nil)
  go_simp
  refine hK.out _ _ (((Below.refl _ W0).alloc (Nat.le_refl _) _).alloc (by simp) _).drew (fun hHeld => ?_)
  clear hK K
  try simp only [Act.put, set9]
  refine wpAnyH_ready (rs := [9]) (by kernel_rfl) (by simp) (AllReadyH.cons (by simp only [get9]; rfl) (fun K hK => ?_) AllReadyH.nil)
  go_simp
  refine hK.out _ _ (((Below.refl _ W0).alloc (Nat.le_refl _) _).alloc (by simp) _).drew (fun hHeld => ?_)
  clear hK K
  try simp only [Act.put, set9]
  refine wpAnyH_done (by kernel_rfl) ?_ _
  obtain ⟨hB9, hX9, hY9, hS9⟩ := twice W0 #[.int .i64 b.st, .slice p' np' cp', .slice q' n' c', .int .i64 y] #[.int .i64 a.st, .slice p np cp, .slice q n c, .int .i64 x] 73 73
  have HGB : Hid (((W0.alloc (.cells #[.int .i64 b.st, .slice p' np' cp', .slice q' n' c', .int .i64 y] 73)).alloc (.cells #[.int .i64 a.st, .slice p np cp, .slice q n c, .int .i64 x] 73)).drew.heap[W0.heap.size]? = some (.cells #[.int .i64 b.st, .slice p' np' cp', .slice q' n' c', .int .i64 y] 73 (0, 0))) := Lib.hid hX9
  have HGA : Hid (((W0.alloc (.cells #[.int .i64 b.st, .slice p' np' cp', .slice q' n' c', .int .i64 y] 73)).alloc (.cells #[.int .i64 a.st, .slice p np cp, .slice q n c, .int .i64 x] 73)).drew.heap[W0.heap.size + 1]? = some (.cells #[.int .i64 a.st, .slice p np cp, .slice q n c, .int .i64 x] 73 (0, 0))) := Lib.hid hY9
  have HBF : Hid (Below W0.heap.size W0 ((W0.alloc (.cells #[.int .i64 b.st, .slice p' np' cp', .slice q' n' c', .int .i64 y] 73)).alloc (.cells #[.int .i64 a.st, .slice p np cp, .slice q n c, .int .i64 x] 73)).drew) := Lib.hid hB9.drew
  clear hB9 hX9 hY9 hS9
  generalize hW4 : ((W0.alloc (.cells #[.int .i64 b.st, .slice p' np' cp', .slice q' n' c', .int .i64 y] 73)).alloc (.cells #[.int .i64 a.st, .slice p np cp, .slice q n c, .int .i64 x] 73)).drew = W4 at *
  clear hW4
  obtain ⟨GA, hG2⟩ : ∃ r, r = W0.heap.size + 1 := ⟨_, rfl⟩
  obtain ⟨GB, hG1⟩ : ∃ r, r = W0.heap.size := ⟨_, rfl⟩
  rw [← hG2, ← hG1]
  replace HGB : Hid (W4.heap[GB]? = some (.cells #[.int .i64 b.st, .slice p' np' cp', .slice q' n' c', .int .i64 y] 73 (0, 0))) := Lib.hid (by rw [hG1]; exact HGB.out)
  replace HGA : Hid (W4.heap[GA]? = some (.cells #[.int .i64 a.st, .slice p np cp, .slice q n c, .int .i64 x] 73 (0, 0))) := Lib.hid (by rw [hG2]; exact HGA.out)
  clear hG1 hG2
  have HBW4 : Hid (Below w.heap.size w W4) := Lib.hid (HB.out.trans (HBF.out.mono HB.out.size))
  have HF4 : Hid (Below W4.heap.size W4 W4) := Lib.hid (Below.refl _ _)
  have HF04 : Hid (Below W0.heap.size W0 W4) := Lib.hid HBF.out
  have ha0 : GA < W4.heap.size := (Array.getElem?_eq_some_iff.1 HGA.out).1
  have hb0 : GB < W4.heap.size := (Array.getElem?_eq_some_iff.1 HGB.out).1
  have hw0 : w.heap.size + 1 < W0.heap.size := (Array.getElem?_eq_some_iff.1 HY0.out).1
  have hge : w.heap.size ≤ W4.heap.size := HBW4.out.size
  obtain ⟨⟨a0, a1, a2, a3⟩, _⟩ := party_cells ((HF4.out.block GA ha0).trans HGA.out)
  obtain ⟨⟨b0, b1, b2, b3⟩, _⟩ := party_cells ((HF4.out.block GB hb0).trans HGB.out)
  obtain ⟨x0, x1, x2, -⟩ := three_cells ((HF04.out.block w.heap.size (by omega)).trans HX0.out)
  obtain ⟨y0, y1, y2, -⟩ := three_cells ((HF04.out.block (w.heap.size + 1) (by omega)).trans HY0.out)
  go_wp2_with fail
  clear a0 a1 a2 a3 b0 b1 b2 b3 x0 x1 x2 y0 y1 y2
  refine (HU1.out W4 HBW4.out).mono ?_
  rintro e w5 ⟨rfl, hb⟩
  have HBW5 : Hid (Below w.heap.size w w5) := Lib.hid (HBW4.out.trans (hb.mono HBW4.out.size))
  have HF5 : Hid (Below W4.heap.size W4 w5) := Lib.hid (HF4.out.trans (hb.mono HF4.out.size))
  have HF05 : Hid (Below W0.heap.size W0 w5) := Lib.hid (HF04.out.trans (hb.mono HF04.out.size))
  clear hb
  cases u1 : unreadP a b x y with
  | true =>
   obtain ⟨⟨a0, a1, a2, a3⟩, _⟩ := party_cells ((HF5.out.block GA ha0).trans HGA.out)
   obtain ⟨⟨b0, b1, b2, b3⟩, _⟩ := party_cells ((HF5.out.block GB hb0).trans HGB.out)
   obtain ⟨x0, x1, x2, -⟩ := three_cells ((HF05.out.block w.heap.size (by omega)).trans HX0.out)
   obtain ⟨y0, y1, y2, -⟩ := three_cells ((HF05.out.block (w.heap.size + 1) (by omega)).trans HY0.out)
   have HT : Hid (troubleP a b x y = 1) := Lib.hid (by unfold troubleP; rw [u1, Bool.true_or, if_pos rfl])
   clear HX HY
   go_wp2_with fail
   go_ret
   exact ⟨by rw [HT.out]; try rfl, HBW5.out⟩
  | false =>
   obtain ⟨⟨a0, a1, a2, a3⟩, _⟩ := party_cells ((HF5.out.block GA ha0).trans HGA.out)
   obtain ⟨⟨b0, b1, b2, b3⟩, _⟩ := party_cells ((HF5.out.block GB hb0).trans HGB.out)
   obtain ⟨x0, x1, x2, -⟩ := three_cells ((HF05.out.block w.heap.size (by omega)).trans HX0.out)
   obtain ⟨y0, y1, y2, -⟩ := three_cells ((HF05.out.block (w.heap.size + 1) (by omega)).trans HY0.out)
   go_wp2_with fail
   clear a0 a1 a2 a3 b0 b1 b2 b3 x0 x1 x2 y0 y1 y2
   refine (HU2.out w5 HBW5.out).mono ?_
   rintro e w6 ⟨rfl, hb⟩
   have HBW6 : Hid (Below w.heap.size w w6) := Lib.hid (HBW5.out.trans (hb.mono HBW5.out.size))
   have HF6 : Hid (Below W4.heap.size W4 w6) := Lib.hid (HF5.out.trans (hb.mono HF5.out.size))
   have HF06 : Hid (Below W0.heap.size W0 w6) := Lib.hid (HF05.out.trans (hb.mono HF05.out.size))
   clear hb
   cases u2 : unreadP b a y x with
   | true =>
    obtain ⟨⟨a0, a1, a2, a3⟩, _⟩ := party_cells ((HF6.out.block GA ha0).trans HGA.out)
    obtain ⟨⟨b0, b1, b2, b3⟩, _⟩ := party_cells ((HF6.out.block GB hb0).trans HGB.out)
    obtain ⟨x0, x1, x2, -⟩ := three_cells ((HF06.out.block w.heap.size (by omega)).trans HX0.out)
    obtain ⟨y0, y1, y2, -⟩ := three_cells ((HF06.out.block (w.heap.size + 1) (by omega)).trans HY0.out)
    have HT : Hid (troubleP a b x y = 1) := Lib.hid (by unfold troubleP; rw [u1, u2, Bool.false_or, if_pos rfl])
    clear HX HY
    go_wp2_with fail
    go_ret
    exact ⟨by rw [HT.out]; try rfl, HBW6.out⟩
   | false =>
    obtain ⟨⟨a0, a1, a2, a3⟩, _⟩ := party_cells ((HF6.out.block GA ha0).trans HGA.out)
    obtain ⟨⟨b0, b1, b2, b3⟩, _⟩ := party_cells ((HF6.out.block GB hb0).trans HGB.out)
    obtain ⟨x0, x1, x2, -⟩ := three_cells ((HF06.out.block w.heap.size (by omega)).trans HX0.out)
    obtain ⟨y0, y1, y2, -⟩ := three_cells ((HF06.out.block (w.heap.size + 1) (by omega)).trans HY0.out)
    go_wp2_with fail
    clear a0 a1 a2 a3 b0 b1 b2 b3 x0 x1 x2 y0 y1 y2
    refine (HNX.out w6 HBW6.out).mono ?_
    rintro e w7 ⟨g, k, d, rfl, ho, hb⟩
    have HBW7 : Hid (Below w.heap.size w w7) := Lib.hid (HBW6.out.trans (hb.mono HBW6.out.size))
    have HF7 : Hid (Below W4.heap.size W4 w7) := Lib.hid (HF6.out.trans (hb.mono HF6.out.size))
    have HF07 : Hid (Below W0.heap.size W0 w7) := Lib.hid (HF06.out.trans (hb.mono HF06.out.size))
    have hk : (nextP a b x y).length = k := ho.count
    clear ho
    clear hb
    cases nz : (nextP a b x y).isEmpty with
    | false =>
     have hk0 : ((k : Int) == 0) = false := by
      rw [beq_eq_false_iff_ne]
      intro e
      have : (nextP a b x y) = [] := List.eq_nil_of_length_eq_zero (by omega)
      rw [this] at nz
      cases nz
     obtain ⟨⟨a0, a1, a2, a3⟩, _⟩ := party_cells ((HF7.out.block GA ha0).trans HGA.out)
     obtain ⟨⟨b0, b1, b2, b3⟩, _⟩ := party_cells ((HF7.out.block GB hb0).trans HGB.out)
     obtain ⟨x0, x1, x2, -⟩ := three_cells ((HF07.out.block w.heap.size (by omega)).trans HX0.out)
     obtain ⟨y0, y1, y2, -⟩ := three_cells ((HF07.out.block (w.heap.size + 1) (by omega)).trans HY0.out)
     have HT : Hid (troubleP a b x y = 0) := Lib.hid (by unfold troubleP; rw [u1, u2, Bool.false_or, if_neg (by decide), nz, Bool.false_and, if_neg (by decide)])
     clear HX HY
     go_wp2_with fail
     go_ret
     exact ⟨by rw [HT.out]; try rfl, HBW7.out⟩
    | true =>
     obtain rfl : k = 0 := by
      rw [← hk, List.isEmpty_iff.1 nz]
      rfl
     obtain ⟨⟨a0, a1, a2, a3⟩, _⟩ := party_cells ((HF7.out.block GA ha0).trans HGA.out)
     obtain ⟨⟨b0, b1, b2, b3⟩, _⟩ := party_cells ((HF7.out.block GB hb0).trans HGB.out)
     obtain ⟨x0, x1, x2, -⟩ := three_cells ((HF07.out.block w.heap.size (by omega)).trans HX0.out)
     obtain ⟨y0, y1, y2, -⟩ := three_cells ((HF07.out.block (w.heap.size + 1) (by omega)).trans HY0.out)
     go_wp2_with fail
     clear a0 a1 a2 a3 b0 b1 b2 b3 x0 x1 x2 y0 y1 y2
     refine (HS1.out w7 HBW7.out).mono ?_
     rintro e w8 ⟨rfl, hb⟩
     have HBW8 : Hid (Below w.heap.size w w8) := Lib.hid (HBW7.out.trans (hb.mono HBW7.out.size))
     have HF8 : Hid (Below W4.heap.size W4 w8) := Lib.hid (HF7.out.trans (hb.mono HF7.out.size))
     have HF08 : Hid (Below W0.heap.size W0 w8) := Lib.hid (HF07.out.trans (hb.mono HF07.out.size))
     clear hb
     cases s1 : stopP a x with
     | false =>
      obtain ⟨⟨a0, a1, a2, a3⟩, _⟩ := party_cells ((HF8.out.block GA ha0).trans HGA.out)
      obtain ⟨⟨b0, b1, b2, b3⟩, _⟩ := party_cells ((HF8.out.block GB hb0).trans HGB.out)
      obtain ⟨x0, x1, x2, -⟩ := three_cells ((HF08.out.block w.heap.size (by omega)).trans HX0.out)
      obtain ⟨y0, y1, y2, -⟩ := three_cells ((HF08.out.block (w.heap.size + 1) (by omega)).trans HY0.out)
      have HT : Hid (troubleP a b x y = 2) := Lib.hid (by unfold troubleP; rw [u1, u2, Bool.false_or, if_neg (by decide), nz, s1, Bool.false_and, Bool.not_false, Bool.true_and, if_pos rfl])
      clear HX HY
      go_wp2_with fail
      go_ret
      exact ⟨by rw [HT.out]; try rfl, HBW8.out⟩
     | true =>
      obtain ⟨⟨a0, a1, a2, a3⟩, _⟩ := party_cells ((HF8.out.block GA ha0).trans HGA.out)
      obtain ⟨⟨b0, b1, b2, b3⟩, _⟩ := party_cells ((HF8.out.block GB hb0).trans HGB.out)
      obtain ⟨x0, x1, x2, -⟩ := three_cells ((HF08.out.block w.heap.size (by omega)).trans HX0.out)
      obtain ⟨y0, y1, y2, -⟩ := three_cells ((HF08.out.block (w.heap.size + 1) (by omega)).trans HY0.out)
      go_wp2_with fail
      clear a0 a1 a2 a3 b0 b1 b2 b3 x0 x1 x2 y0 y1 y2
      refine (HS2.out w8 HBW8.out).mono ?_
      rintro e w9 ⟨rfl, hb⟩
      have HBW9 : Hid (Below w.heap.size w w9) := Lib.hid (HBW8.out.trans (hb.mono HBW8.out.size))
      have HF9 : Hid (Below W4.heap.size W4 w9) := Lib.hid (HF8.out.trans (hb.mono HF8.out.size))
      have HF09 : Hid (Below W0.heap.size W0 w9) := Lib.hid (HF08.out.trans (hb.mono HF08.out.size))
      clear hb
      cases s2 : stopP b y with
      | false =>
       obtain ⟨⟨a0, a1, a2, a3⟩, _⟩ := party_cells ((HF9.out.block GA ha0).trans HGA.out)
       obtain ⟨⟨b0, b1, b2, b3⟩, _⟩ := party_cells ((HF9.out.block GB hb0).trans HGB.out)
       obtain ⟨x0, x1, x2, -⟩ := three_cells ((HF09.out.block w.heap.size (by omega)).trans HX0.out)
       obtain ⟨y0, y1, y2, -⟩ := three_cells ((HF09.out.block (w.heap.size + 1) (by omega)).trans HY0.out)
       have HT : Hid (troubleP a b x y = 2) := Lib.hid (by unfold troubleP; rw [u1, u2, Bool.false_or, if_neg (by decide), nz, s1, s2]; rfl)
       clear HX HY
       go_wp2_with fail
       go_ret
       exact ⟨by rw [HT.out]; try rfl, HBW9.out⟩
      | true =>
       obtain ⟨⟨a0, a1, a2, a3⟩, _⟩ := party_cells ((HF9.out.block GA ha0).trans HGA.out)
       obtain ⟨⟨b0, b1, b2, b3⟩, _⟩ := party_cells ((HF9.out.block GB hb0).trans HGB.out)
       obtain ⟨x0, x1, x2, -⟩ := three_cells ((HF09.out.block w.heap.size (by omega)).trans HX0.out)
       obtain ⟨y0, y1, y2, -⟩ := three_cells ((HF09.out.block (w.heap.size + 1) (by omega)).trans HY0.out)
       have HT : Hid (troubleP a b x y = 0) := Lib.hid (by unfold troubleP; rw [u1, u2, Bool.false_or, if_neg (by decide), nz, s1, s2]; rfl)
       clear HX HY
       go_wp2_with fail
       go_ret
       exact ⟨by rw [HT.out]; try rfl, HBW9.out⟩

end Go.Proofs.Ytckmgbobkffabaa
