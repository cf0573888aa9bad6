/- The dual of a machine, by the program. The dual of a machine, by the model. -/
import Derived.Test.YtckmgbobkffabaaGreatG7
import Derived.Test.YtckmgbobkffabaaGreatG6
import Derived.Test.YtckmgbobkffabaaGreatG8
import Derived.Test.YtckmgbobkffabaaGreatG9
import Derived.Deep.RegionHeld3
import Derived.Test.YtckmgbobkffabaaGreatG1
namespace Go.Proofs.YtckmgbobkffabaaGreat
open Go.ChangeShapes Go.WideShapes Go.ChangeAt Go.RowKit
set_option linter.unusedVariables false
set_option linter.unusedSimpArgs false

set_option maxRecDepth 100000 in
theorem copyBools_any {a : Option Addr} {n c : Nat} {l : List Bool} {w : World} (h : Bls w a n l) (hn : n ≤ 1048576000) :
  Calls Tryz.prog 49 #[.slice a n c] w (MadeI blEnc 1 4 w.heap.size l w) := by
 have H := Lib.hid h
 clear h
 obtain ⟨i0, hi, hz0, hz1, hz2⟩ := info_parts infoBoolS
 have HI := Lib.hid (And.intro hi (And.intro hz0 (And.intro hz1 hz2)))
 clear hi hz0 hz1 hz2
 unfold MadeI
 go_enter Tryz.func49, Tryz.ntmps49
 go_wp2_with (at_builtin; refine wpl_app_someI _ blEnc_len (by omega) blEnc_one rfl (.tmp 3) (.tmp 4) 24 rfl 4 i0 (.bool false) 1 Tryz.underlying24 HI.out.1 HI.out.2.1 HI.out.2.2.1 HI.out.2.2.2 rfl rfl (own_emptyI 4 (Nat.le_refl _)) rfl (H.out.same (alloc_same w _)) (by omega) ?c1 ?c2 ?_)
 case c1 => omega
 case c2 => simp
 intro g3 c3 w3 ho3 hb3
 have HO3 := Lib.hid ho3
 have HB3 : Hid (Below w.heap.size w w3) := Lib.hid ((alloc_same w _).trans hb3)
 clear ho3 hb3
 go_wp2_with fail
 go_ret
 refine ⟨_, _, _, rfl, ?_, HB3.out⟩
 simpa using HO3.out
set_option maxRecDepth 100000 in
theorem copyMoves_any {a : Option Addr} {n c : Nat} {l : List Mv} {w : World} (h : Mvs w a n l) (hn : n ≤ 1048576000) :
  Calls Tryz.prog 50 #[.slice a n c] w (MadeI Mv.enc 4 43 w.heap.size l w) := by
 have H := Lib.hid h
 clear h
 obtain ⟨i0, hi, hz0, hz1, hz2⟩ := info_parts infoMoveS
 have HI := Lib.hid (And.intro hi (And.intro hz0 (And.intro hz1 hz2)))
 clear hi hz0 hz1 hz2
 unfold MadeI
 go_enter Tryz.func50, Tryz.ntmps50
 go_wp2_with (at_builtin; refine wpl_app_someI _ Mv.enc_len (by omega) Mv.cells rfl (.tmp 3) (.tmp 4) 25 rfl 43 i0 (.agg #[.int .i64 0, .bool false, .int .i64 0, .int .i64 0]) 32 Tryz.underlying25 HI.out.1 HI.out.2.1 HI.out.2.2.1 HI.out.2.2.2 rfl rfl (own_emptyI 43 (Nat.le_refl _)) rfl (H.out.same (alloc_same w _)) (by omega) ?c1 ?c2 ?_)
 case c1 => omega
 case c2 => simp
 intro g3 c3 w3 ho3 hb3
 have HO3 := Lib.hid ho3
 have HB3 : Hid (Below w.heap.size w w3) := Lib.hid ((alloc_same w _).trans hb3)
 clear ho3 hb3
 go_wp2_with fail
 go_ret
 refine ⟨_, _, _, rfl, ?_, HB3.out⟩
 simpa using HO3.out

set_option maxHeartbeats 4000000 in
set_option maxRecDepth 100000 in
theorem copyMachine_any {w : World} {v : Value} {x : Mac} (h : MacW w v x) (hn : x.parts ≤ 1048576000) : Calls Tryz.prog 24 #[v] w (MadeMac w.heap.size x w) := by
 obtain ⟨a, n, c, b, m, d, rfl, h1, h2, h3, h4⟩ := h
 have e1 := h1.len
 have e2 := h2.len
 unfold Mac.parts at hn
 rw [e1, e2] at hn
 obtain ⟨hB, hX, hM, hsz⟩ := twice w #[.int .i64 x.st, .slice a n c, .slice b m d] #[.int .i64 0, .slice none 0 0, .slice none 0 0] 27 27
 have H1 := Lib.hid (h1.same hB)
 have H2 := Lib.hid (h2.same hB)
 have HE := Lib.hid (And.intro e1 e2)
 have HB := Lib.hid hB
 clear h1 h2 h3 h4 hB e1 e2
 unfold MadeMac
 go_enter Tryz.func24, Tryz.ntmps24
 go_wp2_with fail
 generalize (w.alloc (.cells #[.int .i64 x.st, .slice a n c, .slice b m d] 27)).alloc (.cells #[.int .i64 0, .slice none 0 0, .slice none 0 0] 27) = W0 at *
 have C := Lib.hid (three_cells hX)
 have HM := Lib.hid hM
 have hszB := HB.out.size
 clear hX hM
 have H1d : Hid (Bls W0.drew a n x.ends) := Lib.hid (H1.out.same (Below.refl _ _).drew)
 go_region_held3 (fun w9 => w9.cell? ⟨w.heap.size, 0, none⟩ = some (.int .i64 x.st) ∧ w9.cell? ⟨w.heap.size, 1, none⟩ = some (.slice a n c) ∧ w9.cell? ⟨w.heap.size, 2, none⟩ = some (.slice b m d)) (first | exact ⟨cell_stay C.out.1 (Below.refl _ _).drew, cell_stay C.out.2.1 (Below.refl _ _).drew, cell_stay C.out.2.2.1 (Below.refl _ _).drew⟩ | exact ⟨cell_stay C.out.1 HB3.out, cell_stay C.out.2.1 HB3.out, cell_stay C.out.2.2.1 HB3.out⟩ | exact ⟨cell_stay C.out.1 HB4.out, cell_stay C.out.2.1 HB4.out, cell_stay C.out.2.2.1 HB4.out⟩ | exact ⟨cell_apart (cell_stay C.out.1 HB4.out) (((put_grown _ _ _ _).trans (put_grown _ _ _ _)).trans (put_grown _ _ _ _)) (by simp), cell_apart (cell_stay C.out.2.1 HB4.out) (((put_grown _ _ _ _).trans (put_grown _ _ _ _)).trans (put_grown _ _ _ _)) (by simp), cell_apart (cell_stay C.out.2.2.1 HB4.out) (((put_grown _ _ _ _).trans (put_grown _ _ _ _)).trans (put_grown _ _ _ _)) (by simp)⟩) ((first | (go_at_call 49; refine (copyBools_any H1d.out (by omega)).mono ?_; rintro e w3 ⟨a3, m3, c3, rfl, ho3, hb3⟩; obtain rfl : n = m3 := (by rw [← ho3.len]; exact HE.out.1.symm); have HO3 : Hid (OwnBl 4 w3 W0.heap.size a3 n c3 x.ends) := Lib.hid ho3; have HB3 : Hid (Below W0.heap.size W0 w3) := Lib.hid ((Below.refl _ _).drew.trans hb3); clear ho3 hb3) | (go_at_call 50; refine (copyMoves_any (H2.out.same HB3.out) (by omega)).mono ?_; rintro e w4 ⟨a4, m4, c4, rfl, ho4, hb4⟩; obtain rfl : m = m4 := (by rw [← ho4.len]; exact HE.out.2.symm); have HO4 : Hid (OwnM 43 w4 w3.heap.size a4 m c4 x.moves) := Lib.hid ho4; have HO3' : Hid (OwnBl 4 w4 W0.heap.size a3 n c3 x.ends) := Lib.hid (HO3.out.same hb4); have HB4 : Hid (Below W0.heap.size W0 w4) := Lib.hid (HB3.out.trans (hb4.mono HB3.out.size)); have hs4 := hb4.size; have hM4 : w4.heap[w.heap.size + 1]? = some (.cells #[.int .i64 0, .slice none 0 0, .slice none 0 0] 27 (0, 0)) := (HB4.out.block _ (by omega)).trans HM.out; obtain ⟨m0, m1, m2, g0, g1, g2⟩ := three_cells hM4; clear ho4 hb4)))
 obtain ⟨z0, z1, z2, hZ⟩ := three_put hM4 (.int .i64 x.st) (.slice a3 n c3) (.slice a4 m c4)
 have HS3 := Lib.hid HO3.out.span
 have HS4 := Lib.hid HO4.out.span
 have HG4 : Hid (Below w.heap.size w w4) := Lib.hid (HB.out.trans (HB4.out.mono hszB))
 have hs3 := HB3.out.size
 clear hM4 m0 m1 m2 g0 g1 g2 hZ
 go_wp2_with fail
 (try simp only [Exit.inBlock, Exit.then])
 refine bodyPost_ret (by simp [results, Tryz.results24, go_sem, z0, z1, z2]; try rfl) rfl ?_
 have hq : ∀ ad, a3 = some ad → ad.block ≠ w.heap.size + 1 := fun ad e => by
  have := (HS3.out ad e).1
  omega
 have hp : ∀ ad, a4 = some ad → ad.block ≠ w.heap.size + 1 := fun ad e => by
  have := (HS4.out ad e).1
  omega
 refine ⟨_, rfl, ⟨a3, n, c3, a4, m, c4, rfl, (((HO3'.out.set hq _).set hq _).set hq _).lower (by omega), (((HO4.out.set hp _).set hp _).set hp _).lower (by omega), fun f g ef eg => ?_, ?_, ?_, Nat.le_refl _, HO3.out.room, HO4.out.room⟩, ((HG4.out.setCell (by dsimp only; omega) _).setCell (by dsimp only; omega) _).setCell (by dsimp only; omega) _⟩
 ·have h1 := HS3.out f ef
  have h2 := HS4.out g eg
  omega
 ·exact fun ad e => by
   have := HS3.out ad e
   simp only [World.size_setCell]
   omega
 ·exact fun ad e => by
   have := HS4.out ad e
   simp only [World.size_setCell]
   omega

set_option maxRecDepth 100000 in
theorem turnRound_any {g o : Nat} {z : Bool} {w : World} (h : w.cell? ⟨g, o + 1, none⟩ = some (.bool z)) (hf : w.frozen? ⟨g, o + 1, none⟩ = false) :
  Calls Tryz.prog 25 #[.pointer (some ⟨g, o, none⟩)] w fun e w' => e = .returned (.tuple #[]) ∧ w' = w.setCell ⟨g, o + 1, none⟩ (.bool (!z)) := by
 go_enter Tryz.func25, Tryz.ntmps25
 go_wp2
 go_returns
 exact ⟨rfl, rfl⟩

set_option maxHeartbeats 4000000 in
set_option maxRecDepth 100000 in
theorem dualOf_any {w : World} {v : Value} {x : Mac} (h : MacW w v x) (hn : x.parts ≤ 1000000000) : Calls Tryz.prog 10 #[v] w (MadeMac w.heap.size (dualM x) w) := by
 obtain ⟨a, n, c, b, m, d, rfl, h1, h2, h3, h4⟩ := h
 obtain ⟨hB, hX, hM, hsz⟩ := twice w #[.int .i64 x.st, .slice a n c, .slice b m d] #[.int .i64 0, .slice none 0 0, .slice none 0 0] 27 27
 have HM0 : Hid (MacW ((w.alloc (.cells #[.int .i64 x.st, .slice a n c, .slice b m d] 27)).alloc (.cells #[.int .i64 0, .slice none 0 0, .slice none 0 0] 27)) (.agg #[.int .i64 x.st, .slice a n c, .slice b m d]) x) := Lib.hid (MacW.same ⟨a, n, c, b, m, d, rfl, h1, h2, h3, h4⟩ hB)
 have HB := Lib.hid hB
 clear h1 h2 h3 h4 hB
 unfold MadeMac
 go_enter Tryz.func10, Tryz.ntmps10
 go_wp2_with fail
 generalize (w.alloc (.cells #[.int .i64 x.st, .slice a n c, .slice b m d] 27)).alloc (.cells #[.int .i64 0, .slice none 0 0, .slice none 0 0] 27) = W0 at *
 have HM := Lib.hid hM
 have C := Lib.hid (three_cells hX)
 clear hX hM
 refine (copyMachine_any HM0.out (by omega)).mono ?_
 rintro e w1 ⟨v1, rfl, ⟨p, k, r, q, u, y, rfl, ho1, ho2, hsep, hs1, hs2, _, hr1, hr2⟩, hb⟩
 have HO1 := Lib.hid ho1
 have HO2 := Lib.hid ho2
 have HS := Lib.hid (And.intro hsep (And.intro hs1 (And.intro hs2 (And.intro hr1 hr2))))
 have hM1 := (hb.block (w.heap.size + 1) (by omega)).trans HM.out
 have HB1 := Lib.hid (HB.out.trans (hb.mono HB.out.size))
 have hsz1 := hb.size
 clear ho1 ho2 hsep hs1 hs2 hr1 hr2 hb
 go_wp2_with fail
 have HK := Lib.hid (And.intro hM1 HB1.out.size)
 clear hM1
 generalize hW1 : w1.alloc (.cells #[.int .i64 x.st, .slice p k r, .slice q u y] 27) = W1 at *
 have hBW : Below w1.heap.size w1 W1 := hW1 ▸ alloc_same w1 _
 have hT : W1.heap[w1.heap.size]? = some (.cells #[.int .i64 x.st, .slice p k r, .slice q u y] 27 (0, 0)) := by rw [← hW1]; exact heap_alloc_new w1 _
 have hG : W1.heap[w.heap.size + 1]? = some (.cells #[.int .i64 0, .slice none 0 0, .slice none 0 0] 27 (0, 0)) := (hBW.block _ (by omega)).trans HK.out.1
 have hz1 : W1.heap.size = w1.heap.size + 1 := by rw [← hW1]; simp
 have HT := Lib.hid (And.intro hT hG)
 have HE := Lib.hid (HO1.out.same hBW)
 have HV := Lib.hid (HO2.out.same hBW)
 have HL := Lib.hid HO2.out.len
 have hu : (u : Int) ≤ 9223372036854775807 := by have := HS.out.2.2.2.2; omega
 have HBW := Lib.hid (HB1.out.trans (hBW.mono HB1.out.size))
 clear hT hG hBW hW1
 go_loopw [10] (fun i wr => ∃ j : Nat, j ≤ u ∧ i = .int .i64 j ∧ OwnM 43 wr W0.heap.size q u y (turned x.moves j) ∧ W1.grownBy wr (Value.ownBlock (.slice q u y))) (fun i _ => u - (intOf i).toNat)
 case atStart => exact ⟨0, Nat.zero_le _, rfl, by rw [turned_zero]; exact HV.out, grown_below (Below.refl _ _) _⟩
 case round =>
  obtain ⟨j, hj, rfl, ho, hg⟩ := hrel
  have hT1 : wr.heap[w1.heap.size]? = some (.cells #[.int .i64 x.st, .slice p k r, .slice q u y] 27 (0, 0)) := (hg.block _ (by omega) (fun e => by
   obtain ⟨ad, e1, e2⟩ := block_of e.symm
   have := HS.out.2.2.1 ad e1
   omega)).trans HT.out.1
  have hG1 : wr.heap[w.heap.size + 1]? = some (.cells #[.int .i64 0, .slice none 0 0, .slice none 0 0] 27 (0, 0)) := (hg.block _ (by omega) (fun e => by
   obtain ⟨ad, e1, e2⟩ := block_of e.symm
   have := HS.out.2.2.1 ad e1
   omega)).trans HT.out.2
  have HO := Lib.hid ho
  have HG := Lib.hid hg
  clear ho hg
  obtain ⟨t0, t1, t2, tf0, tf1, tf2⟩ := three_cells hT1
  by_cases hlt : j < u
  ·obtain ⟨g, e, hg0, hg1⟩ := HO.out.head (by omega)
   subst e
   obtain ⟨b1, o1, z, e, hx, hc0, hc1, hc2, hc3⟩ := mvs_at (HO.out.items Mv.enc_len) hlt
   cases e
   rw [Nat.zero_add] at hc0 hc1 hc2 hc3
   obtain ⟨z', hz'⟩ : ∃ z', x.moves[j]? = some z' := ⟨_, List.getElem?_eq_getElem (by rw [HL.out]; exact hlt)⟩
   have hzz := turned_at hz'
   rw [hx] at hzz
   cases hzz
   have HX := Lib.hid (And.intro hx hz')
   have hf1 := HO.out.row.frozenAt (j * 4 + 1)
   clear hx hz' hc0 hc2 hc3
   go_wp2_with fail
   refine (turnRound_any hc1 hf1).mono ?_
   rintro e w2 ⟨rfl, rfl⟩
   have hs := own_putI Mv.enc_len (i := 1) (y := z.neg) (v := .bool (!z.send)) HO.out HX.out.1 (by omega) rfl
   rw [turned_step HX.out.2] at hs
   have HO9 := Lib.hid hs.1
   have HG9 := Lib.hid (HG.out.trans hs.2)
   clear hs hc1 hf1 t0 t1 t2 tf0 tf1 tf2 hT1 hG1
   go_wp2_with fail
   go_roundw
   case rel => exact ⟨j + 1, by omega, by go_num, HO9.out, HG9.out⟩
   case measure => simp [intOf]; omega
  ·obtain rfl : j = u := by omega
   obtain ⟨m0, m1, m2, g0, g1, g2⟩ := three_cells hG1
   obtain ⟨z0, z1, z2, hZ⟩ := three_put hG1 (.int .i64 x.st) (.slice p k r) (.slice q j y)
   clear hZ hG1 hT1
   have HO3 := Lib.hid (OwnI.sep HE.out HG.out HS.out.1)
   have HS2 := Lib.hid (grown_to HG.out HBW.out (HS.out.2.2.1) (by omega) (by omega))
   have hsr := HG.out.size
   go_wp2_with fail
   (try simp only [Exit.inBlock, Exit.then])
   refine bodyPost_ret (by simp [results, Tryz.results10, go_sem, z0, z1, z2]; try rfl) rfl ?_
   have hq : ∀ ad, p = some ad → ad.block ≠ w.heap.size + 1 := fun ad e => by
    have := (HS.out.2.1 ad e).1
    omega
   have hp : ∀ ad, q = some ad → ad.block ≠ w.heap.size + 1 := fun ad e => by
    have := (HS.out.2.2.1 ad e).1
    omega
   have HF := HO.out
   rw [turned_all _ _ HL.out] at HF
   refine ⟨_, rfl, ⟨p, k, r, q, j, y, rfl, (((HO3.out.set hq _).set hq _).set hq _).lower (by omega), (((HF.set hp _).set hp _).set hp _).lower (by omega), HS.out.1, ?_, ?_, Nat.le_refl _, HS.out.2.2.2.1, HS.out.2.2.2.2⟩, ((HS2.out.setCell (by dsimp only; omega) _).setCell (by dsimp only; omega) _).setCell (by dsimp only; omega) _⟩
   ·exact fun ad e => by
     have := HS.out.2.1 ad e
     simp only [World.size_setCell]
     omega
   ·exact fun ad e => by
     have := HS.out.2.2.1 ad e
     simp only [World.size_setCell]
     omega
end Go.Proofs.YtckmgbobkffabaaGreat
namespace Go.Proofs.YtckmgbobkffabaaGreat
open Go.ChangeShapes Go.WideShapes Go.ChangeAt Go.RowKit
set_option linter.unusedVariables false
set_option linter.unusedSimpArgs false

set_option maxHeartbeats 4000000 in
set_option maxRecDepth 100000 in
theorem specDualOf_any {w : World} {v : Value} {x : Mac} (h : MacW w v x) (hn : x.parts ≤ 1000000000) : Calls Tryz.prog 61 #[v] w (MadeMac w.heap.size (dualM x) w) := by
 obtain ⟨a, n, c, b, m, d, rfl, h1, h2, h3, h4⟩ := h
 have e1 := h1.len
 have e2 := h2.len
 unfold Mac.parts at hn
 rw [e1, e2] at hn
 obtain ⟨hB, hX, hM, hsz⟩ := twice w #[.int .i64 x.st, .slice a n c, .slice b m d] #[.int .i64 0, .slice none 0 0, .slice none 0 0] 27 27
 have H1 := Lib.hid (h1.same hB)
 have H2 := Lib.hid (h2.same hB)
 have HE := Lib.hid (And.intro e1 e2)
 have HB := Lib.hid hB
 have hm64 : (m : Int) ≤ 9223372036854775807 := by omega
 clear h1 h2 h3 h4 hB e1 e2
 unfold MadeMac
 go_enter Tryz.func61, Tryz.ntmps61
 go_wp2_with fail
 generalize (w.alloc (.cells #[.int .i64 x.st, .slice a n c, .slice b m d] 27)).alloc (.cells #[.int .i64 0, .slice none 0 0, .slice none 0 0] 27) = W0 at *
 have HX := Lib.hid hX
 have C := Lib.hid (three_cells hX)
 have HM := Lib.hid hM
 have HZ := Lib.hid hsz
 clear hX hM hsz
 obtain ⟨i0, hi, hz0, hz1, hz2⟩ := info_parts infoBoolS
 have HI := Lib.hid (And.intro hi (And.intro hz0 (And.intro hz1 hz2)))
 clear hi hz0 hz1 hz2
 obtain ⟨i1, hi, hz0, hz1, hz2⟩ := info_parts infoMoveS
 have HI1 := Lib.hid (And.intro hi (And.intro hz0 (And.intro hz1 hz2)))
 clear hi hz0 hz1 hz2
 have HOA : Hid (OwnBl 4 ((W0.drew.alloc (.cells #[.int .i64 0, .slice none 0 0, .slice none 0 0] 27)).alloc (.cells #[] 4)) W0.heap.size (some ⟨W0.heap.size + 1, 0, none⟩) 0 0 []) := by
  have := own_emptyI (enc := blEnc) (s := 1) (w := W0.drew.alloc (.cells #[.int .i64 0, .slice none 0 0, .slice none 0 0] 27)) (B := W0.heap.size) 4 (by simp)
  rw [World.size_alloc] at this
  exact Lib.hid this
 have HOB : Hid (OwnBl 4 (W0.drew.alloc (.cells #[] 4)) W0.heap.size (some ⟨W0.heap.size, 0, none⟩) 0 0 []) := Lib.hid (own_emptyI (enc := blEnc) (s := 1) (w := W0.drew) (B := W0.heap.size) 4 (Nat.le_refl _))
 have HOC : Hid (OwnBl 4 ((W0.drew.alloc (.cells #[] 4)).alloc (.cells #[.int .i64 0, .slice none 0 0, .slice none 0 0] 27)) W0.heap.size (some ⟨W0.heap.size, 0, none⟩) 0 0 []) := Lib.hid (HOB.out.alloc _)
 have HBA : Hid (Below W0.heap.size W0 ((W0.drew.alloc (.cells #[.int .i64 0, .slice none 0 0, .slice none 0 0] 27)).alloc (.cells #[] 4))) := Lib.hid (((Below.refl _ W0).drew.alloc (Nat.le_refl _) _).alloc (by simp) _)
 have HBB : Hid (Below W0.heap.size W0 (W0.drew.alloc (.cells #[] 4))) := Lib.hid ((Below.refl _ W0).drew.alloc (Nat.le_refl _) _)
 have HBC : Hid (Below W0.heap.size W0 ((W0.drew.alloc (.cells #[] 4)).alloc (.cells #[.int .i64 0, .slice none 0 0, .slice none 0 0] 27))) := Lib.hid (((Below.refl _ W0).drew.alloc (Nat.le_refl _) _).alloc (by simp) _)
 have HBZ : Hid (Below W0.heap.size W0 (W0.drew.alloc (.cells #[.int .i64 0, .slice none 0 0, .slice none 0 0] 27))) := Lib.hid ((Below.refl _ W0).drew.alloc (Nat.le_refl _) _)
 have HMA : Hid (((W0.drew.alloc (.cells #[.int .i64 0, .slice none 0 0, .slice none 0 0] 27)).alloc (.cells #[] 4)).heap[W0.heap.size]? = some (.cells #[.int .i64 0, .slice none 0 0, .slice none 0 0] 27 (0, 0))) := by
  refine Lib.hid ?_
  rw [Below.heap_alloc _ _ _ (by simp)]
  exact heap_alloc_new W0.drew (.cells #[.int .i64 0, .slice none 0 0, .slice none 0 0] 27 (0, 0))
 have HMC : Hid (((W0.drew.alloc (.cells #[] 4)).alloc (.cells #[.int .i64 0, .slice none 0 0, .slice none 0 0] 27)).heap[W0.heap.size + 1]? = some (.cells #[.int .i64 0, .slice none 0 0, .slice none 0 0] 27 (0, 0))) := by
  refine Lib.hid ?_
  have := heap_alloc_new (W0.drew.alloc (.cells #[] 4)) (.cells #[.int .i64 0, .slice none 0 0, .slice none 0 0] 27 (0, 0))
  rw [World.size_alloc] at this
  exact this
 refine wp_region_held_drew (S := fun w9 => w9.cell? ⟨w.heap.size, 0, none⟩ = some (.int .i64 x.st) ∧ w9.cell? ⟨w.heap.size, 1, none⟩ = some (.slice a n c) ∧ w9.cell? ⟨w.heap.size, 2, none⟩ = some (.slice b m d)) (by kernel_rfl) ⟨cell_stay C.out.1 ((Below.refl _ W0).drew), cell_stay C.out.2.1 ((Below.refl _ W0).drew), cell_stay C.out.2.2.1 ((Below.refl _ W0).drew)⟩ (fun hHeld => ?_)
 refine wpAnyH_take (i := 0) (v := ?v1) (by simp only [get9]; rfl) (by kernel_rfl) (by kernel_rfl) (by kernel_rfl) (by exact fun _ _ _ h => h) (Or.inl ⟨by rfl, fun w9 hS9 => ?hy1⟩) hHeld ?rest1
 case hy1 =>
  dsimp only at hS9
  obtain ⟨q0, q1, q2⟩ := hS9
  go_simp
  try with_reducible rfl
 try simp only [Act.put, set9]
 refine wpAnyH_take (i := 1) (v := ?v2) (by simp only [get9]; rfl) (by kernel_rfl) (by kernel_rfl) (by kernel_rfl) (by exact fun _ _ _ h => h) (Or.inl ⟨by rfl, fun w9 hS9 => ?hy2⟩) hHeld ?rest2
 case hy2 =>
  dsimp only at hS9
  obtain ⟨q0, q1, q2⟩ := hS9
  go_simp
  try with_reducible rfl
 try simp only [Act.put, set9]
 refine wpAnyH_take (i := 3) (v := ?v3) (by simp only [get9]; rfl) (by kernel_rfl) (by kernel_rfl) (by kernel_rfl) (by exact fun _ _ _ h => h) (Or.inl ⟨by rfl, fun w9 hS9 => ?hy3⟩) hHeld ?rest3
 case hy3 =>
  dsimp only at hS9
  obtain ⟨q0, q1, q2⟩ := hS9
  go_simp
  try with_reducible rfl
 try simp only [Act.put, set9]
 refine wpAnyH_take (i := 4) (v := ?v4) (by simp only [get9]; rfl) (by kernel_rfl) (by kernel_rfl) (by kernel_rfl) (by exact fun _ _ _ h => h) (Or.inl ⟨by rfl, fun w9 hS9 => ?hy4⟩) hHeld ?rest4
 case hy4 =>
  dsimp only at hS9
  obtain ⟨q0, q1, q2⟩ := hS9
  go_simp
  try with_reducible rfl
 try simp only [Act.put, set9]
 refine wpAnyH_ready (rs := [2, 7]) (by kernel_rfl) (by simp) (AllReadyH.cons (by simp only [get9]; rfl) (fun K hK => ?_) (AllReadyH.cons (by simp only [get9]; rfl) (fun K hK => ?_) AllReadyH.nil))
 ·skip
  go_simp
  refine hK.out _ _ ⟨cell_stay C.out.1 (HBB.out), cell_stay C.out.2.1 (HBB.out), cell_stay C.out.2.2.1 (HBB.out)⟩ (fun hHeld => ?_)
  clear hK K
  try simp only [Act.put, set9]
  refine wpAnyH_ready (rs := [5, 7]) (by kernel_rfl) (by simp) (AllReadyH.cons (by simp only [get9]; rfl) (fun K hK => ?_) (AllReadyH.cons (by simp only [get9]; rfl) (fun K hK => ?_) AllReadyH.nil))
  ·skip
   refine step_app_someI _ blEnc_len (by omega) blEnc_one (by rfl) (.tmp 8) (.tmp 10) 24 (by rfl) 4 i0 (.bool false) 1 Tryz.underlying24 HI.out.1 HI.out.2.1 HI.out.2.2.1 HI.out.2.2.2 rfl (by rfl) HOB.out (by rfl) (H1.out.same HBB.out) (by omega) (by omega) HBB.out.size ?_
   intro g4 c4 w4 ho4 hg4 hgg
   rw [Nat.zero_add, List.nil_append] at ho4
   have HO4 := Lib.hid ho4
   have HB4 : Hid (Below W0.heap.size W0 w4) := Lib.hid (grown_to (b := some ⟨W0.heap.size, 0, none⟩) (m := 0) (d := 0) hg4 HBB.out HOB.out.span (Nat.le_refl _) HBB.out.size)
   have HS4 : Hid (Span (some ⟨g4, 0, none⟩) W0.heap.size w4.heap.size) := Lib.hid ho4.span
   clear ho4 hg4 hgg
   refine hK.out _ _ ⟨cell_stay C.out.1 (HB4.out), cell_stay C.out.2.1 (HB4.out), cell_stay C.out.2.2.1 (HB4.out)⟩ (fun hHeld => ?_)
   clear hK K
   try simp only [Act.put, set9]
   refine wpAnyH_take (i := 6) (v := ?v5) (by simp only [get9]; rfl) (by kernel_rfl) (by kernel_rfl) (by kernel_rfl) (by exact fun _ _ _ h => h) (Or.inl ⟨by rfl, fun w9 hS9 => ?hy5⟩) hHeld ?rest5
   case hy5 =>
    dsimp only at hS9
    obtain ⟨q0, q1, q2⟩ := hS9
    go_simp
    try with_reducible rfl
   try simp only [Act.put, set9]
   refine wpAnyH_ready (rs := [7]) (by kernel_rfl) (by simp) (AllReadyH.cons (by simp only [get9]; rfl) (fun K hK => ?_) AllReadyH.nil)
   go_simp
   have HB5 : Hid (Below W0.heap.size W0 (w4.alloc (.cells #[.int .i64 0, .slice none 0 0, .slice none 0 0] 27))) := Lib.hid (HB4.out.alloc HB4.out.size _)
   refine hK.out _ _ ⟨cell_stay C.out.1 (HB5.out), cell_stay C.out.2.1 (HB5.out), cell_stay C.out.2.2.1 (HB5.out)⟩ (fun hHeld => ?_)
   clear hK K
   try simp only [Act.put, set9]
   refine wpAnyH_ready (rs := [8]) (by kernel_rfl) (by simp) (AllReadyH.cons (by simp only [get9]; rfl) (fun K hK => ?_) AllReadyH.nil)
   go_simp
   have HB6 : Hid (Below W0.heap.size W0 (w4.alloc (.cells #[.int .i64 x.st, .slice (some ⟨g4, 0, none⟩) n c4, .slice none 0 0] 27))) := Lib.hid (HB4.out.alloc HB4.out.size _)
   refine hK.out _ _ ⟨cell_stay C.out.1 (HB6.out), cell_stay C.out.2.1 (HB6.out), cell_stay C.out.2.2.1 (HB6.out)⟩ (fun hHeld => ?_)
   clear hK K
   try simp only [Act.put, set9]
   refine wpAnyH_done (by kernel_rfl) ?_ _
   have hGoal := trivial
   clear hGoal
   obtain ⟨G, hGe⟩ : ∃ G, G = w4.heap.size := ⟨_, rfl⟩
   generalize hW1 : w4.alloc (.cells #[.int .i64 x.st, .slice (some ⟨g4, 0, none⟩) n c4, .slice none 0 0] 27) = W1 at *
   have HT : Hid (W1.heap[G]? = some (.cells #[.int .i64 x.st, .slice (some ⟨g4, 0, none⟩) n c4, .slice none 0 0] 27 (0, 0))) := Lib.hid (by rw [← hW1, hGe]; exact heap_alloc_new w4 _)
   have HBW : Hid (Below W0.heap.size W0 W1) := Lib.hid HB6.out
   have HEW : Hid (OwnBl 4 W1 W0.heap.size (some ⟨g4, 0, none⟩) n c4 x.ends) := Lib.hid (by rw [← hW1]; exact HO4.out.alloc _)
   have HNN : Hid (g4 ≠ G ∧ W0.heap.size ≤ G ∧ G < W1.heap.size) := Lib.hid (by
    have h1 := HS4.out _ rfl
    have h2 := HB4.out.size
    have h3 : W1.heap.size = w4.heap.size + 1 := by rw [← hW1]; simp
    dsimp only at h1
    omega)
   rw [← hGe]
   clear hW1 hGe HB6 HB5
   go_wp2
   go_loopw [4] (fun i wr => ∃ j : Nat, j ≤ m ∧ i = .int .i64 j ∧ (∃ q y, wr.heap[G]? = some (.cells #[.int .i64 x.st, .slice (some ⟨g4, 0, none⟩) n c4, .slice q j y] 27 (0, 0)) ∧ OwnM 43 wr W1.heap.size q j y ((x.moves.map Mv.neg).take j)) ∧ Inside G (G + 1) W1 wr) (fun i _ => m - (intOf i).toNat)
   case atStart => exact ⟨0, Nat.zero_le _, rfl, ⟨none, 0, HT.out, by simpa using OwnI.nil⟩, Inside.refl _ _ _⟩
   case round =>
    obtain ⟨j, hj, rfl, ⟨q, y, hT1, ho⟩, hi⟩ := hrel
    have HB9 : Hid (Below W0.heap.size W0 wr) := Lib.hid (hi.to HBW.out HNN.out.2.1 HBW.out.size)
    have hX1 : wr.heap[w.heap.size]? = some (.cells #[.int .i64 x.st, .slice a n c, .slice b m d] 27 (0, 0)) := (HB9.out.block _ (by have := HZ.out; omega)).trans HX.out
    have hM1 : wr.heap[w.heap.size + 1]? = some (.cells #[.int .i64 0, .slice none 0 0, .slice none 0 0] 27 (0, 0)) := (HB9.out.block _ (by have := HZ.out; omega)).trans HM.out
    obtain ⟨t0, t1, t2, tf0, tf1, tf2⟩ := three_cells hT1
    obtain ⟨_, _, b2, _, _, _⟩ := three_cells hX1
    have HO := Lib.hid ho
    have HJ := Lib.hid hi
    have HT1 := Lib.hid hT1
    have HM1 := Lib.hid hM1
    clear ho hi hT1 hX1 hM1
    by_cases hlt : j < m
    ·obtain ⟨b1, o1, z, rfl, hx, hc0, hc1, hc2, hc3⟩ := mvs_at (H2.out.same HB9.out) hlt
     have HXJ := Lib.hid hx
     have t3 := cell_stay t2 (alloc_same wr (.cells #[.int .i64 z.frm, .bool (!z.send), .int .i64 z.msg, .int .i64 z.to] 43))
     have HOA2 : Hid (OwnM 43 ((wr.alloc (.cells #[.int .i64 z.frm, .bool (!z.send), .int .i64 z.msg, .int .i64 z.to] 43)).alloc (.cells z.neg.enc.toArray 43)) W1.heap.size q j y ((x.moves.map Mv.neg).take j)) := Lib.hid ((HO.out.alloc _).alloc _)
     have HN2 : Hid (Mvs ((wr.alloc (.cells #[.int .i64 z.frm, .bool (!z.send), .int .i64 z.msg, .int .i64 z.to] 43)).alloc (.cells z.neg.enc.toArray 43)) (some ⟨wr.heap.size + 1, 0, none⟩) 1 [z.neg]) := by
      have := items_new (enc := Mv.enc) (s := 4) Mv.enc_len (wr.alloc (.cells #[.int .i64 z.frm, .bool (!z.send), .int .i64 z.msg, .int .i64 z.to] 43)) z.neg 43
      rw [World.size_alloc] at this
      exact Lib.hid this
     have hsW := HJ.out.size
     clear hx
     go_wp2_with (at_builtin; refine wpl_appI _ Mv.enc_len (by omega) Mv.cells rfl (.tmp 30) (.tmp 32) 25 rfl 43 i1 (.agg #[.int .i64 0, .bool false, .int .i64 0, .int .i64 0]) 32 Tryz.underlying25 HI1.out.1 HI1.out.2.1 HI1.out.2.2.1 HI1.out.2.2.2 rfl rfl HOA2.out rfl HN2.out (by omega) ?c6 ?c7 ?_)
     case c6 => omega
     case c7 => simp; omega
     intro q5 y5 w5 ho5 hb5
     have HB5 : Hid (Below W1.heap.size wr w5) := Lib.hid ((((Below.refl _ wr).alloc (by omega) _).alloc (by simp; omega) _).trans hb5)
     have hT5 : w5.heap[G]? = some (.cells #[.int .i64 x.st, .slice (some ⟨g4, 0, none⟩) n c4, .slice q j y] 27 (0, 0)) := (HB5.out.block _ HNN.out.2.2).trans HT1.out
     have HO5 : Hid (OwnM 43 (w5.setCell ⟨G, 2, none⟩ (.slice q5 (j + 1 : Nat) y5)) W1.heap.size q5 (j + 1) y5 ((x.moves.map Mv.neg).take (j + 1))) := Lib.hid (by
      have e9 : (x.moves.map Mv.neg).take (j + 1) = (x.moves.map Mv.neg).take j ++ [z.neg] := by rw [List.take_add_one, List.getElem?_map, HXJ.out]; rfl
      rw [e9]
      exact ho5.set (p := ⟨G, 2, none⟩) (fun ad e => by have := (ho5.span ad e).1; have := HNN.out.2.2; dsimp only; omega) _)
     have HT6 := Lib.hid (heap_setCell_same w5 G 2 _ _ (.slice q5 (j + 1 : Nat) y5) hT5)
     have HJ6 : Hid (Inside G (G + 1) W1 (w5.setCell ⟨G, 2, none⟩ (.slice q5 (j + 1 : Nat) y5))) := Lib.hid ((HJ.out.below HB5.out).trans (Inside.row (put_grown _ _ _ _) (fun r e => by cases e; omega)))
     obtain ⟨_, _, s2, _, _, sf2⟩ := three_cells hT5
     clear ho5 hb5 hT5 t0 t1 t2 t3 tf0 tf1 tf2 b2 hc0 hc1 hc2 hc3
     go_wp2_with fail
     go_roundw
     case rel => exact ⟨j + 1, by omega, by go_num, ⟨q5, y5, HT6.out, HO5.out⟩, HJ6.out⟩
     case measure => simp [intOf]; omega
    ·obtain rfl : j = m := by omega
     obtain ⟨m0, m1, m2, f0, f1, f2⟩ := three_cells HM1.out
     obtain ⟨z0, z1, z2, hZ⟩ := three_put HM1.out (.int .i64 x.st) (.slice (some ⟨g4, 0, none⟩) n c4) (.slice q j y)
     have hq : ∀ ad, (some ⟨g4, 0, none⟩ : Option Addr) = some ad → ad.block ≠ w.heap.size + 1 := fun ad e => by
      have h1 := (HEW.out.span ad e).1
      have := HZ.out
      omega
     have hp : ∀ ad, q = some ad → ad.block ≠ w.heap.size + 1 := fun ad e => by
      have h1 := (HO.out.span ad e).1
      have := HZ.out
      have := HNN.out
      omega
     have HF : Hid (OwnM 43 wr W1.heap.size q j y (x.moves.map Mv.neg)) := Lib.hid (by
      have h1 := HO.out
      rw [List.take_of_length_le (by rw [List.length_map]; have := HE.out.2; omega)] at h1
      exact h1)
     have HE3 : Hid (OwnBl 4 wr W0.heap.size (some ⟨g4, 0, none⟩) n c4 x.ends) := Lib.hid (by
      have hn9 := HNN.out
      exact HEW.out.aside HJ.out (lo' := g4) (hi' := g4 + 1) (fun ad e => by cases e; exact ⟨Nat.le_refl _, Nat.lt_succ_self _⟩) (by omega))
     have HW9 := Lib.hid (HB.out.trans (HB9.out.mono HB.out.size))
     have hsr := HB9.out.size
     have hsW := HJ.out.size
     have hsb := HB.out.size
     clear hZ
     go_wp2_with fail
     (try simp only [Exit.inBlock, Exit.then])
     refine bodyPost_ret (by simp [results, Tryz.results61, go_sem, z0, z1, z2]; try rfl) rfl ?_
     refine ⟨_, rfl, ⟨_, n, c4, q, j, y, rfl, (((HE3.out.set hq _).set hq _).set hq _).lower hsb, (((HF.out.set hp _).set hp _).set hp _).lower (by have := HNN.out; omega), fun f g ef eg => ?_, ?_, ?_, Nat.le_refl _, HE3.out.room, HF.out.room⟩, ((HW9.out.setCell (by dsimp only; omega) _).setCell (by dsimp only; omega) _).setCell (by dsimp only; omega) _⟩
     ·have h1 := HEW.out.span f ef
      have h2 := HO.out.span g eg
      omega
     ·exact fun ad e => by
       have h1 := HE3.out.span ad e
       simp only [World.size_setCell]
       omega
     ·exact fun ad e => by
       have h1 := HF.out.span ad e
       have := HNN.out
       simp only [World.size_setCell]
       omega
  ·skip
   go_simp
   refine hK.out _ _ ⟨cell_stay C.out.1 (HBC.out), cell_stay C.out.2.1 (HBC.out), cell_stay C.out.2.2.1 (HBC.out)⟩ (fun hHeld => ?_)
   clear hK K
   try simp only [Act.put, set9]
   refine wpAnyH_ready (rs := [5]) (by kernel_rfl) (by simp) (AllReadyH.cons (by simp only [get9]; rfl) (fun K hK => ?_) AllReadyH.nil)
   refine step_app_someI _ blEnc_len (by omega) blEnc_one (by rfl) (.tmp 8) (.tmp 10) 24 (by rfl) 4 i0 (.bool false) 1 Tryz.underlying24 HI.out.1 HI.out.2.1 HI.out.2.2.1 HI.out.2.2.2 rfl (by rfl) HOC.out (by rfl) (H1.out.same HBC.out) (by omega) (by omega) HBC.out.size ?_
   intro g4 c4 w4 ho4 hg4 hgg
   rw [Nat.zero_add, List.nil_append] at ho4
   have HO4 := Lib.hid ho4
   have HB4 : Hid (Below W0.heap.size W0 w4) := Lib.hid (grown_to (b := some ⟨W0.heap.size, 0, none⟩) (m := 0) (d := 0) hg4 HBC.out HOC.out.span (Nat.le_refl _) HBC.out.size)
   have HS4 : Hid (Span (some ⟨g4, 0, none⟩) W0.heap.size w4.heap.size) := Lib.hid ho4.span
   have HGN : Hid (g4 ≠ W0.heap.size + 1) := Lib.hid (by rcases hgg with e | e <;> (try simp at e) <;> omega)
   have HM4 : Hid (w4.heap[W0.heap.size + 1]? = some (.cells #[.int .i64 0, .slice none 0 0, .slice none 0 0] 27 (0, 0))) := Lib.hid ((hg4.block _ (by simp; try omega) (by simp; try omega)).trans HMC.out)
   obtain ⟨m0, m1, m2, f0, f1, f2⟩ := three_cells HM4.out
   have HP4 := Lib.hid (three_put HM4.out (.int .i64 x.st) (.slice (some ⟨g4, 0, none⟩) n c4) (.slice none 0 0))
   clear ho4 hg4 hgg
   refine hK.out _ _ ⟨cell_stay C.out.1 (HB4.out), cell_stay C.out.2.1 (HB4.out), cell_stay C.out.2.2.1 (HB4.out)⟩ (fun hHeld => ?_)
   clear hK K
   try simp only [Act.put, set9]
   refine wpAnyH_take (i := 6) (v := ?v6) (by simp only [get9]; rfl) (by kernel_rfl) (by kernel_rfl) (by kernel_rfl) (by exact fun _ _ _ h => h) (Or.inl ⟨by rfl, fun w9 hS9 => ?hy6⟩) hHeld ?rest6
   case hy6 =>
    dsimp only at hS9
    obtain ⟨q0, q1, q2⟩ := hS9
    go_simp
    try with_reducible rfl
   try simp only [Act.put, set9]
   refine wpAnyH_ready (rs := [8]) (by kernel_rfl) (by simp) (AllReadyH.cons (by simp only [get9]; rfl) (fun K hK => ?_) AllReadyH.nil)
   go_simp
   refine hK.out _ _ ⟨cell_apart (cell_stay C.out.1 HB4.out) (((put_grown _ _ _ _).trans (put_grown _ _ _ _)).trans (put_grown _ _ _ _)) (by have := HZ.out; simp; try omega), cell_apart (cell_stay C.out.2.1 HB4.out) (((put_grown _ _ _ _).trans (put_grown _ _ _ _)).trans (put_grown _ _ _ _)) (by have := HZ.out; simp; try omega), cell_apart (cell_stay C.out.2.2.1 HB4.out) (((put_grown _ _ _ _).trans (put_grown _ _ _ _)).trans (put_grown _ _ _ _)) (by have := HZ.out; simp; try omega)⟩ (fun hHeld => ?_)
   clear hK K
   try simp only [Act.put, set9]
   refine wpAnyH_done (by kernel_rfl) ?_ _
   have hGoal := trivial
   clear hGoal
   have HU : Hid (OwnBl 4 (((w4.setCell ⟨W0.heap.size + 1, 0, none⟩ (.int .i64 x.st)).setCell ⟨W0.heap.size + 1, 1, none⟩ (.slice (some ⟨g4, 0, none⟩) n c4)).setCell ⟨W0.heap.size + 1, 2, none⟩ (.slice none 0 0)) W0.heap.size (some ⟨g4, 0, none⟩) n c4 x.ends) := Lib.hid (((HO4.out.set (fun ad e => by cases e; exact HGN.out) _).set (fun ad e => by cases e; exact HGN.out) _).set (fun ad e => by cases e; exact HGN.out) _)
   have HV : Hid (Below W0.heap.size W0 (((w4.setCell ⟨W0.heap.size + 1, 0, none⟩ (.int .i64 x.st)).setCell ⟨W0.heap.size + 1, 1, none⟩ (.slice (some ⟨g4, 0, none⟩) n c4)).setCell ⟨W0.heap.size + 1, 2, none⟩ (.slice none 0 0))) := Lib.hid (((HB4.out.setCell (by dsimp only; omega) _).setCell (by dsimp only; omega) _).setCell (by dsimp only; omega) _)
   have HP5 := Lib.hid HP4.out.2.2.2
   have hs9 : (((w4.setCell ⟨W0.heap.size + 1, 0, none⟩ (.int .i64 x.st)).setCell ⟨W0.heap.size + 1, 1, none⟩ (.slice (some ⟨g4, 0, none⟩) n c4)).setCell ⟨W0.heap.size + 1, 2, none⟩ (.slice none 0 0)).heap.size = w4.heap.size := by simp
   clear m0 m1 m2 f0 f1 f2 HP4
   generalize ((w4.setCell ⟨W0.heap.size + 1, 0, none⟩ (.int .i64 x.st)).setCell ⟨W0.heap.size + 1, 1, none⟩ (.slice (some ⟨g4, 0, none⟩) n c4)).setCell ⟨W0.heap.size + 1, 2, none⟩ (.slice none 0 0) = W1 at *
   obtain ⟨G, hGe⟩ : ∃ G, G = W0.heap.size + 1 := ⟨_, rfl⟩
   have HT : Hid (W1.heap[G]? = some (.cells #[.int .i64 x.st, .slice (some ⟨g4, 0, none⟩) n c4, .slice none 0 0] 27 (0, 0))) := Lib.hid (by rw [hGe]; exact HP5.out)
   have HBW : Hid (Below W0.heap.size W0 W1) := Lib.hid HV.out
   have HEW : Hid (OwnBl 4 W1 W0.heap.size (some ⟨g4, 0, none⟩) n c4 x.ends) := Lib.hid HU.out
   have HNN : Hid (g4 ≠ G ∧ W0.heap.size ≤ G ∧ G < W1.heap.size) := Lib.hid (by
    have h1 := HGN.out
    have h2 := HM4.out
    have h3 : W0.heap.size + 1 < w4.heap.size := (Array.getElem?_eq_some_iff.1 h2).1
    omega)
   rw [← hGe]
   clear hGe HM4 HGN HP5 HU HV hs9
   go_wp2
   go_loopw [4] (fun i wr => ∃ j : Nat, j ≤ m ∧ i = .int .i64 j ∧ (∃ q y, wr.heap[G]? = some (.cells #[.int .i64 x.st, .slice (some ⟨g4, 0, none⟩) n c4, .slice q j y] 27 (0, 0)) ∧ OwnM 43 wr W1.heap.size q j y ((x.moves.map Mv.neg).take j)) ∧ Inside G (G + 1) W1 wr) (fun i _ => m - (intOf i).toNat)
   case atStart => exact ⟨0, Nat.zero_le _, rfl, ⟨none, 0, HT.out, by simpa using OwnI.nil⟩, Inside.refl _ _ _⟩
   case round =>
    obtain ⟨j, hj, rfl, ⟨q, y, hT1, ho⟩, hi⟩ := hrel
    have HB9 : Hid (Below W0.heap.size W0 wr) := Lib.hid (hi.to HBW.out HNN.out.2.1 HBW.out.size)
    have hX1 : wr.heap[w.heap.size]? = some (.cells #[.int .i64 x.st, .slice a n c, .slice b m d] 27 (0, 0)) := (HB9.out.block _ (by have := HZ.out; omega)).trans HX.out
    have hM1 : wr.heap[w.heap.size + 1]? = some (.cells #[.int .i64 0, .slice none 0 0, .slice none 0 0] 27 (0, 0)) := (HB9.out.block _ (by have := HZ.out; omega)).trans HM.out
    obtain ⟨t0, t1, t2, tf0, tf1, tf2⟩ := three_cells hT1
    obtain ⟨_, _, b2, _, _, _⟩ := three_cells hX1
    have HO := Lib.hid ho
    have HJ := Lib.hid hi
    have HT1 := Lib.hid hT1
    have HM1 := Lib.hid hM1
    clear ho hi hT1 hX1 hM1
    by_cases hlt : j < m
    ·obtain ⟨b1, o1, z, rfl, hx, hc0, hc1, hc2, hc3⟩ := mvs_at (H2.out.same HB9.out) hlt
     have HXJ := Lib.hid hx
     have t3 := cell_stay t2 (alloc_same wr (.cells #[.int .i64 z.frm, .bool (!z.send), .int .i64 z.msg, .int .i64 z.to] 43))
     have HOA2 : Hid (OwnM 43 ((wr.alloc (.cells #[.int .i64 z.frm, .bool (!z.send), .int .i64 z.msg, .int .i64 z.to] 43)).alloc (.cells z.neg.enc.toArray 43)) W1.heap.size q j y ((x.moves.map Mv.neg).take j)) := Lib.hid ((HO.out.alloc _).alloc _)
     have HN2 : Hid (Mvs ((wr.alloc (.cells #[.int .i64 z.frm, .bool (!z.send), .int .i64 z.msg, .int .i64 z.to] 43)).alloc (.cells z.neg.enc.toArray 43)) (some ⟨wr.heap.size + 1, 0, none⟩) 1 [z.neg]) := by
      have := items_new (enc := Mv.enc) (s := 4) Mv.enc_len (wr.alloc (.cells #[.int .i64 z.frm, .bool (!z.send), .int .i64 z.msg, .int .i64 z.to] 43)) z.neg 43
      rw [World.size_alloc] at this
      exact Lib.hid this
     have hsW := HJ.out.size
     clear hx
     go_wp2_with (at_builtin; refine wpl_appI _ Mv.enc_len (by omega) Mv.cells rfl (.tmp 30) (.tmp 32) 25 rfl 43 i1 (.agg #[.int .i64 0, .bool false, .int .i64 0, .int .i64 0]) 32 Tryz.underlying25 HI1.out.1 HI1.out.2.1 HI1.out.2.2.1 HI1.out.2.2.2 rfl rfl HOA2.out rfl HN2.out (by omega) ?c6 ?c7 ?_)
     case c6 => omega
     case c7 => simp; omega
     intro q5 y5 w5 ho5 hb5
     have HB5 : Hid (Below W1.heap.size wr w5) := Lib.hid ((((Below.refl _ wr).alloc (by omega) _).alloc (by simp; omega) _).trans hb5)
     have hT5 : w5.heap[G]? = some (.cells #[.int .i64 x.st, .slice (some ⟨g4, 0, none⟩) n c4, .slice q j y] 27 (0, 0)) := (HB5.out.block _ HNN.out.2.2).trans HT1.out
     have HO5 : Hid (OwnM 43 (w5.setCell ⟨G, 2, none⟩ (.slice q5 (j + 1 : Nat) y5)) W1.heap.size q5 (j + 1) y5 ((x.moves.map Mv.neg).take (j + 1))) := Lib.hid (by
      have e9 : (x.moves.map Mv.neg).take (j + 1) = (x.moves.map Mv.neg).take j ++ [z.neg] := by rw [List.take_add_one, List.getElem?_map, HXJ.out]; rfl
      rw [e9]
      exact ho5.set (p := ⟨G, 2, none⟩) (fun ad e => by have := (ho5.span ad e).1; have := HNN.out.2.2; dsimp only; omega) _)
     have HT6 := Lib.hid (heap_setCell_same w5 G 2 _ _ (.slice q5 (j + 1 : Nat) y5) hT5)
     have HJ6 : Hid (Inside G (G + 1) W1 (w5.setCell ⟨G, 2, none⟩ (.slice q5 (j + 1 : Nat) y5))) := Lib.hid ((HJ.out.below HB5.out).trans (Inside.row (put_grown _ _ _ _) (fun r e => by cases e; omega)))
     obtain ⟨_, _, s2, _, _, sf2⟩ := three_cells hT5
     clear ho5 hb5 hT5 t0 t1 t2 t3 tf0 tf1 tf2 b2 hc0 hc1 hc2 hc3
     go_wp2_with fail
     go_roundw
     case rel => exact ⟨j + 1, by omega, by go_num, ⟨q5, y5, HT6.out, HO5.out⟩, HJ6.out⟩
     case measure => simp [intOf]; omega
    ·obtain rfl : j = m := by omega
     obtain ⟨m0, m1, m2, f0, f1, f2⟩ := three_cells HM1.out
     obtain ⟨z0, z1, z2, hZ⟩ := three_put HM1.out (.int .i64 x.st) (.slice (some ⟨g4, 0, none⟩) n c4) (.slice q j y)
     have hq : ∀ ad, (some ⟨g4, 0, none⟩ : Option Addr) = some ad → ad.block ≠ w.heap.size + 1 := fun ad e => by
      have h1 := (HEW.out.span ad e).1
      have := HZ.out
      omega
     have hp : ∀ ad, q = some ad → ad.block ≠ w.heap.size + 1 := fun ad e => by
      have h1 := (HO.out.span ad e).1
      have := HZ.out
      have := HNN.out
      omega
     have HF : Hid (OwnM 43 wr W1.heap.size q j y (x.moves.map Mv.neg)) := Lib.hid (by
      have h1 := HO.out
      rw [List.take_of_length_le (by rw [List.length_map]; have := HE.out.2; omega)] at h1
      exact h1)
     have HE3 : Hid (OwnBl 4 wr W0.heap.size (some ⟨g4, 0, none⟩) n c4 x.ends) := Lib.hid (by
      have hn9 := HNN.out
      exact HEW.out.aside HJ.out (lo' := g4) (hi' := g4 + 1) (fun ad e => by cases e; exact ⟨Nat.le_refl _, Nat.lt_succ_self _⟩) (by omega))
     have HW9 := Lib.hid (HB.out.trans (HB9.out.mono HB.out.size))
     have hsr := HB9.out.size
     have hsW := HJ.out.size
     have hsb := HB.out.size
     clear hZ
     go_wp2_with fail
     (try simp only [Exit.inBlock, Exit.then])
     refine bodyPost_ret (by simp [results, Tryz.results61, go_sem, z0, z1, z2]; try rfl) rfl ?_
     refine ⟨_, rfl, ⟨_, n, c4, q, j, y, rfl, (((HE3.out.set hq _).set hq _).set hq _).lower hsb, (((HF.out.set hp _).set hp _).set hp _).lower (by have := HNN.out; omega), fun f g ef eg => ?_, ?_, ?_, Nat.le_refl _, HE3.out.room, HF.out.room⟩, ((HW9.out.setCell (by dsimp only; omega) _).setCell (by dsimp only; omega) _).setCell (by dsimp only; omega) _⟩
     ·have h1 := HEW.out.span f ef
      have h2 := HO.out.span g eg
      omega
     ·exact fun ad e => by
       have h1 := HE3.out.span ad e
       simp only [World.size_setCell]
       omega
     ·exact fun ad e => by
       have h1 := HF.out.span ad e
       have := HNN.out
       simp only [World.size_setCell]
       omega
 ·skip
  go_simp
  refine hK.out _ _ ⟨cell_stay C.out.1 (HBZ.out), cell_stay C.out.2.1 (HBZ.out), cell_stay C.out.2.2.1 (HBZ.out)⟩ (fun hHeld => ?_)
  clear hK K
  try simp only [Act.put, set9]
  refine wpAnyH_ready (rs := [2]) (by kernel_rfl) (by simp) (AllReadyH.cons (by simp only [get9]; rfl) (fun K hK => ?_) AllReadyH.nil)
  go_simp
  refine hK.out _ _ ⟨cell_stay C.out.1 (HBA.out), cell_stay C.out.2.1 (HBA.out), cell_stay C.out.2.2.1 (HBA.out)⟩ (fun hHeld => ?_)
  clear hK K
  try simp only [Act.put, set9]
  refine wpAnyH_ready (rs := [5]) (by kernel_rfl) (by simp) (AllReadyH.cons (by simp only [get9]; rfl) (fun K hK => ?_) AllReadyH.nil)
  refine step_app_someI _ blEnc_len (by omega) blEnc_one (by rfl) (.tmp 8) (.tmp 10) 24 (by rfl) 4 i0 (.bool false) 1 Tryz.underlying24 HI.out.1 HI.out.2.1 HI.out.2.2.1 HI.out.2.2.2 rfl (by rfl) HOA.out (by rfl) (H1.out.same HBA.out) (by omega) (by omega) HBA.out.size ?_
  intro g4 c4 w4 ho4 hg4 hgg
  rw [Nat.zero_add, List.nil_append] at ho4
  have HO4 := Lib.hid ho4
  have HB4 : Hid (Below W0.heap.size W0 w4) := Lib.hid (grown_to (b := some ⟨W0.heap.size + 1, 0, none⟩) (m := 0) (d := 0) hg4 HBA.out HOA.out.span (Nat.le_refl _) HBA.out.size)
  have HS4 : Hid (Span (some ⟨g4, 0, none⟩) W0.heap.size w4.heap.size) := Lib.hid ho4.span
  have HGN : Hid (g4 ≠ W0.heap.size) := Lib.hid (by rcases hgg with e | e <;> (try simp at e) <;> omega)
  have HM4 : Hid (w4.heap[W0.heap.size]? = some (.cells #[.int .i64 0, .slice none 0 0, .slice none 0 0] 27 (0, 0))) := Lib.hid ((hg4.block _ (by simp; try omega) (by simp; try omega)).trans HMA.out)
  obtain ⟨m0, m1, m2, f0, f1, f2⟩ := three_cells HM4.out
  have HP4 := Lib.hid (three_put HM4.out (.int .i64 x.st) (.slice (some ⟨g4, 0, none⟩) n c4) (.slice none 0 0))
  clear ho4 hg4 hgg
  refine hK.out _ _ ⟨cell_stay C.out.1 (HB4.out), cell_stay C.out.2.1 (HB4.out), cell_stay C.out.2.2.1 (HB4.out)⟩ (fun hHeld => ?_)
  clear hK K
  try simp only [Act.put, set9]
  refine wpAnyH_take (i := 6) (v := ?v7) (by simp only [get9]; rfl) (by kernel_rfl) (by kernel_rfl) (by kernel_rfl) (by exact fun _ _ _ h => h) (Or.inl ⟨by rfl, fun w9 hS9 => ?hy7⟩) hHeld ?rest7
  case hy7 =>
   dsimp only at hS9
   obtain ⟨q0, q1, q2⟩ := hS9
   go_simp
   try with_reducible rfl
  try simp only [Act.put, set9]
  refine wpAnyH_ready (rs := [8]) (by kernel_rfl) (by simp) (AllReadyH.cons (by simp only [get9]; rfl) (fun K hK => ?_) AllReadyH.nil)
  go_simp
  refine hK.out _ _ ⟨cell_apart (cell_stay C.out.1 HB4.out) (((put_grown _ _ _ _).trans (put_grown _ _ _ _)).trans (put_grown _ _ _ _)) (by have := HZ.out; simp; try omega), cell_apart (cell_stay C.out.2.1 HB4.out) (((put_grown _ _ _ _).trans (put_grown _ _ _ _)).trans (put_grown _ _ _ _)) (by have := HZ.out; simp; try omega), cell_apart (cell_stay C.out.2.2.1 HB4.out) (((put_grown _ _ _ _).trans (put_grown _ _ _ _)).trans (put_grown _ _ _ _)) (by have := HZ.out; simp; try omega)⟩ (fun hHeld => ?_)
  clear hK K
  try simp only [Act.put, set9]
  refine wpAnyH_done (by kernel_rfl) ?_ _
  have hGoal := trivial
  clear hGoal
  have HU : Hid (OwnBl 4 (((w4.setCell ⟨W0.heap.size, 0, none⟩ (.int .i64 x.st)).setCell ⟨W0.heap.size, 1, none⟩ (.slice (some ⟨g4, 0, none⟩) n c4)).setCell ⟨W0.heap.size, 2, none⟩ (.slice none 0 0)) W0.heap.size (some ⟨g4, 0, none⟩) n c4 x.ends) := Lib.hid (((HO4.out.set (fun ad e => by cases e; exact HGN.out) _).set (fun ad e => by cases e; exact HGN.out) _).set (fun ad e => by cases e; exact HGN.out) _)
  have HV : Hid (Below W0.heap.size W0 (((w4.setCell ⟨W0.heap.size, 0, none⟩ (.int .i64 x.st)).setCell ⟨W0.heap.size, 1, none⟩ (.slice (some ⟨g4, 0, none⟩) n c4)).setCell ⟨W0.heap.size, 2, none⟩ (.slice none 0 0))) := Lib.hid (((HB4.out.setCell (by dsimp only; omega) _).setCell (by dsimp only; omega) _).setCell (by dsimp only; omega) _)
  have HP5 := Lib.hid HP4.out.2.2.2
  have hs9 : (((w4.setCell ⟨W0.heap.size, 0, none⟩ (.int .i64 x.st)).setCell ⟨W0.heap.size, 1, none⟩ (.slice (some ⟨g4, 0, none⟩) n c4)).setCell ⟨W0.heap.size, 2, none⟩ (.slice none 0 0)).heap.size = w4.heap.size := by simp
  clear m0 m1 m2 f0 f1 f2 HP4
  generalize ((w4.setCell ⟨W0.heap.size, 0, none⟩ (.int .i64 x.st)).setCell ⟨W0.heap.size, 1, none⟩ (.slice (some ⟨g4, 0, none⟩) n c4)).setCell ⟨W0.heap.size, 2, none⟩ (.slice none 0 0) = W1 at *
  obtain ⟨G, hGe⟩ : ∃ G, G = W0.heap.size := ⟨_, rfl⟩
  have HT : Hid (W1.heap[G]? = some (.cells #[.int .i64 x.st, .slice (some ⟨g4, 0, none⟩) n c4, .slice none 0 0] 27 (0, 0))) := Lib.hid (by rw [hGe]; exact HP5.out)
  have HBW : Hid (Below W0.heap.size W0 W1) := Lib.hid HV.out
  have HEW : Hid (OwnBl 4 W1 W0.heap.size (some ⟨g4, 0, none⟩) n c4 x.ends) := Lib.hid HU.out
  have HNN : Hid (g4 ≠ G ∧ W0.heap.size ≤ G ∧ G < W1.heap.size) := Lib.hid (by
   have h1 := HGN.out
   have h2 := HM4.out
   have h3 : W0.heap.size < w4.heap.size := (Array.getElem?_eq_some_iff.1 h2).1
   omega)
  rw [← hGe]
  clear hGe HM4 HGN HP5 HU HV hs9
  go_wp2
  go_loopw [4] (fun i wr => ∃ j : Nat, j ≤ m ∧ i = .int .i64 j ∧ (∃ q y, wr.heap[G]? = some (.cells #[.int .i64 x.st, .slice (some ⟨g4, 0, none⟩) n c4, .slice q j y] 27 (0, 0)) ∧ OwnM 43 wr W1.heap.size q j y ((x.moves.map Mv.neg).take j)) ∧ Inside G (G + 1) W1 wr) (fun i _ => m - (intOf i).toNat)
  case atStart => exact ⟨0, Nat.zero_le _, rfl, ⟨none, 0, HT.out, by simpa using OwnI.nil⟩, Inside.refl _ _ _⟩
  case round =>
   obtain ⟨j, hj, rfl, ⟨q, y, hT1, ho⟩, hi⟩ := hrel
   have HB9 : Hid (Below W0.heap.size W0 wr) := Lib.hid (hi.to HBW.out HNN.out.2.1 HBW.out.size)
   have hX1 : wr.heap[w.heap.size]? = some (.cells #[.int .i64 x.st, .slice a n c, .slice b m d] 27 (0, 0)) := (HB9.out.block _ (by have := HZ.out; omega)).trans HX.out
   have hM1 : wr.heap[w.heap.size + 1]? = some (.cells #[.int .i64 0, .slice none 0 0, .slice none 0 0] 27 (0, 0)) := (HB9.out.block _ (by have := HZ.out; omega)).trans HM.out
   obtain ⟨t0, t1, t2, tf0, tf1, tf2⟩ := three_cells hT1
   obtain ⟨_, _, b2, _, _, _⟩ := three_cells hX1
   have HO := Lib.hid ho
   have HJ := Lib.hid hi
   have HT1 := Lib.hid hT1
   have HM1 := Lib.hid hM1
   clear ho hi hT1 hX1 hM1
   by_cases hlt : j < m
   ·obtain ⟨b1, o1, z, rfl, hx, hc0, hc1, hc2, hc3⟩ := mvs_at (H2.out.same HB9.out) hlt
    have HXJ := Lib.hid hx
    have t3 := cell_stay t2 (alloc_same wr (.cells #[.int .i64 z.frm, .bool (!z.send), .int .i64 z.msg, .int .i64 z.to] 43))
    have HOA2 : Hid (OwnM 43 ((wr.alloc (.cells #[.int .i64 z.frm, .bool (!z.send), .int .i64 z.msg, .int .i64 z.to] 43)).alloc (.cells z.neg.enc.toArray 43)) W1.heap.size q j y ((x.moves.map Mv.neg).take j)) := Lib.hid ((HO.out.alloc _).alloc _)
    have HN2 : Hid (Mvs ((wr.alloc (.cells #[.int .i64 z.frm, .bool (!z.send), .int .i64 z.msg, .int .i64 z.to] 43)).alloc (.cells z.neg.enc.toArray 43)) (some ⟨wr.heap.size + 1, 0, none⟩) 1 [z.neg]) := by
     have := items_new (enc := Mv.enc) (s := 4) Mv.enc_len (wr.alloc (.cells #[.int .i64 z.frm, .bool (!z.send), .int .i64 z.msg, .int .i64 z.to] 43)) z.neg 43
     rw [World.size_alloc] at this
     exact Lib.hid this
    have hsW := HJ.out.size
    clear hx
    go_wp2_with (at_builtin; refine wpl_appI _ Mv.enc_len (by omega) Mv.cells rfl (.tmp 30) (.tmp 32) 25 rfl 43 i1 (.agg #[.int .i64 0, .bool false, .int .i64 0, .int .i64 0]) 32 Tryz.underlying25 HI1.out.1 HI1.out.2.1 HI1.out.2.2.1 HI1.out.2.2.2 rfl rfl HOA2.out rfl HN2.out (by omega) ?c6 ?c7 ?_)
    case c6 => omega
    case c7 => simp; omega
    intro q5 y5 w5 ho5 hb5
    have HB5 : Hid (Below W1.heap.size wr w5) := Lib.hid ((((Below.refl _ wr).alloc (by omega) _).alloc (by simp; omega) _).trans hb5)
    have hT5 : w5.heap[G]? = some (.cells #[.int .i64 x.st, .slice (some ⟨g4, 0, none⟩) n c4, .slice q j y] 27 (0, 0)) := (HB5.out.block _ HNN.out.2.2).trans HT1.out
    have HO5 : Hid (OwnM 43 (w5.setCell ⟨G, 2, none⟩ (.slice q5 (j + 1 : Nat) y5)) W1.heap.size q5 (j + 1) y5 ((x.moves.map Mv.neg).take (j + 1))) := Lib.hid (by
     have e9 : (x.moves.map Mv.neg).take (j + 1) = (x.moves.map Mv.neg).take j ++ [z.neg] := by rw [List.take_add_one, List.getElem?_map, HXJ.out]; rfl
     rw [e9]
     exact ho5.set (p := ⟨G, 2, none⟩) (fun ad e => by have := (ho5.span ad e).1; have := HNN.out.2.2; dsimp only; omega) _)
    have HT6 := Lib.hid (heap_setCell_same w5 G 2 _ _ (.slice q5 (j + 1 : Nat) y5) hT5)
    have HJ6 : Hid (Inside G (G + 1) W1 (w5.setCell ⟨G, 2, none⟩ (.slice q5 (j + 1 : Nat) y5))) := Lib.hid ((HJ.out.below HB5.out).trans (Inside.row (put_grown _ _ _ _) (fun r e => by cases e; omega)))
    obtain ⟨_, _, s2, _, _, sf2⟩ := three_cells hT5
    clear ho5 hb5 hT5 t0 t1 t2 t3 tf0 tf1 tf2 b2 hc0 hc1 hc2 hc3
    go_wp2_with fail
    go_roundw
    case rel => exact ⟨j + 1, by omega, by go_num, ⟨q5, y5, HT6.out, HO5.out⟩, HJ6.out⟩
    case measure => simp [intOf]; omega
   ·obtain rfl : j = m := by omega
    obtain ⟨m0, m1, m2, f0, f1, f2⟩ := three_cells HM1.out
    obtain ⟨z0, z1, z2, hZ⟩ := three_put HM1.out (.int .i64 x.st) (.slice (some ⟨g4, 0, none⟩) n c4) (.slice q j y)
    have hq : ∀ ad, (some ⟨g4, 0, none⟩ : Option Addr) = some ad → ad.block ≠ w.heap.size + 1 := fun ad e => by
     have h1 := (HEW.out.span ad e).1
     have := HZ.out
     omega
    have hp : ∀ ad, q = some ad → ad.block ≠ w.heap.size + 1 := fun ad e => by
     have h1 := (HO.out.span ad e).1
     have := HZ.out
     have := HNN.out
     omega
    have HF : Hid (OwnM 43 wr W1.heap.size q j y (x.moves.map Mv.neg)) := Lib.hid (by
     have h1 := HO.out
     rw [List.take_of_length_le (by rw [List.length_map]; have := HE.out.2; omega)] at h1
     exact h1)
    have HE3 : Hid (OwnBl 4 wr W0.heap.size (some ⟨g4, 0, none⟩) n c4 x.ends) := Lib.hid (by
     have hn9 := HNN.out
     exact HEW.out.aside HJ.out (lo' := g4) (hi' := g4 + 1) (fun ad e => by cases e; exact ⟨Nat.le_refl _, Nat.lt_succ_self _⟩) (by omega))
    have HW9 := Lib.hid (HB.out.trans (HB9.out.mono HB.out.size))
    have hsr := HB9.out.size
    have hsW := HJ.out.size
    have hsb := HB.out.size
    clear hZ
    go_wp2_with fail
    (try simp only [Exit.inBlock, Exit.then])
    refine bodyPost_ret (by simp [results, Tryz.results61, go_sem, z0, z1, z2]; try rfl) rfl ?_
    refine ⟨_, rfl, ⟨_, n, c4, q, j, y, rfl, (((HE3.out.set hq _).set hq _).set hq _).lower hsb, (((HF.out.set hp _).set hp _).set hp _).lower (by have := HNN.out; omega), fun f g ef eg => ?_, ?_, ?_, Nat.le_refl _, HE3.out.room, HF.out.room⟩, ((HW9.out.setCell (by dsimp only; omega) _).setCell (by dsimp only; omega) _).setCell (by dsimp only; omega) _⟩
    ·have h1 := HEW.out.span f ef
     have h2 := HO.out.span g eg
     omega
    ·exact fun ad e => by
      have h1 := HE3.out.span ad e
      simp only [World.size_setCell]
      omega
    ·exact fun ad e => by
      have h1 := HF.out.span ad e
      have := HNN.out
      simp only [World.size_setCell]
      omega

end Go.Proofs.YtckmgbobkffabaaGreat
