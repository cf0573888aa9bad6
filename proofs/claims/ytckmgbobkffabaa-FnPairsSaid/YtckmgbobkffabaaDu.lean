/- The dual of a machine, by the program. -/
import Derived.Test.YtckmgbobkffabaaAp
import Derived.Test.YtckmgbobkffabaaPm
import Derived.Test.YtckmgbobkffabaaMvT
import Derived.Test.YtckmgbobkffabaaBl
import Derived.Deep.RegionHeld3
namespace Go.Proofs.Ytckmgbobkffabaa
open Go.ChangeShapes Go.WideShapes Go.ChangeAt Go.RowKit
set_option linter.unusedVariables false
set_option linter.unusedSimpArgs false

set_option maxRecDepth 100000 in
theorem copyBools_any {a : Option Addr} {n c : Nat} {l : List Bool} {w : World} (h : Bls w a n l) (hn : n ≤ 1048576000) :
    Calls Try.prog 91 #[.slice a n c] w (MadeI blEnc 1 4 w.heap.size l w) := by
  have H := Lib.hid h
  clear h
  obtain ⟨i0, hi, hz0, hz1, hz2⟩ := info_parts infoBoolS
  have HI := Lib.hid (And.intro hi (And.intro hz0 (And.intro hz1 hz2)))
  clear hi hz0 hz1 hz2
  unfold MadeI
  go_enter Try.func91, Try.ntmps91
  go_wp2_with (at_builtin; refine wpl_app_someI _ blEnc_len (by omega) blEnc_one rfl (.tmp 3) (.tmp 4) 24 rfl 4 i0 (.bool false) 1 Try.underlying24 HI.out.1 HI.out.2.1 HI.out.2.2.1 HI.out.2.2.2 rfl rfl (own_emptyI 4 (Nat.le_refl _)) rfl (H.out.same (alloc_same w _)) (by omega) ?c1 ?c2 ?_)
  case c1 => omega
  case c2 => simp
  intro g3 c3 w3 ho3 hb3
  have HO3 := Lib.hid ho3
  have HB3 : Hid (Below w.heap.size w w3) := Lib.hid ((alloc_same w _).trans hb3)
  clear ho3 hb3
  go_wp2_with fail
  go_ret
  refine ⟨_, _, _, rfl, ?_, HB3.out⟩
  simpa using HO3.out
set_option maxRecDepth 100000 in
theorem copyMoves_any {a : Option Addr} {n c : Nat} {l : List Mv} {w : World} (h : Mvs w a n l) (hn : n ≤ 1048576000) :
    Calls Try.prog 92 #[.slice a n c] w (MadeI Mv.enc 4 63 w.heap.size l w) := by
  have H := Lib.hid h
  clear h
  obtain ⟨i0, hi, hz0, hz1, hz2⟩ := info_parts infoMoveS
  have HI := Lib.hid (And.intro hi (And.intro hz0 (And.intro hz1 hz2)))
  clear hi hz0 hz1 hz2
  unfold MadeI
  go_enter Try.func92, Try.ntmps92
  go_wp2_with (at_builtin; refine wpl_app_someI _ Mv.enc_len (by omega) Mv.cells rfl (.tmp 3) (.tmp 4) 25 rfl 63 i0 (.agg #[.int .i64 0, .bool false, .int .i64 0, .int .i64 0]) 32 Try.underlying25 HI.out.1 HI.out.2.1 HI.out.2.2.1 HI.out.2.2.2 rfl rfl (own_emptyI 63 (Nat.le_refl _)) rfl (H.out.same (alloc_same w _)) (by omega) ?c1 ?c2 ?_)
  case c1 => omega
  case c2 => simp
  intro g3 c3 w3 ho3 hb3
  have HO3 := Lib.hid ho3
  have HB3 : Hid (Below w.heap.size w w3) := Lib.hid ((alloc_same w _).trans hb3)
  clear ho3 hb3
  go_wp2_with fail
  go_ret
  refine ⟨_, _, _, rfl, ?_, HB3.out⟩
  simpa using HO3.out

set_option maxHeartbeats 4000000 in
set_option maxRecDepth 100000 in
theorem copyMachine_any {w : World} {v : Value} {x : Mac} (h : MacW w v x) (hn : x.parts ≤ 1048576000) : Calls Try.prog 58 #[v] w (MadeMac w.heap.size x w) := by
  obtain ⟨a, n, c, b, m, d, rfl, h1, h2, h3, h4⟩ := h
  have e1 := h1.len
  have e2 := h2.len
  unfold Mac.parts at hn
  rw [e1, e2] at hn
  obtain ⟨hB, hX, hM, hsz⟩ := twice w #[.int .i64 x.st, .slice a n c, .slice b m d] #[.int .i64 0, .slice none 0 0, .slice none 0 0] 27 27
  have H1 := Lib.hid (h1.same hB)
  have H2 := Lib.hid (h2.same hB)
  have HE := Lib.hid (And.intro e1 e2)
  have HB := Lib.hid hB
  clear h1 h2 h3 h4 hB e1 e2
  unfold MadeMac
  go_enter Try.func58, Try.ntmps58
  go_wp2_with fail
  generalize (w.alloc (.cells #[.int .i64 x.st, .slice a n c, .slice b m d] 27)).alloc (.cells #[.int .i64 0, .slice none 0 0, .slice none 0 0] 27) = W0 at *
  have C := Lib.hid (three_cells hX)
  have HM := Lib.hid hM
  have hszB := HB.out.size
  clear hX hM
  have H1d : Hid (Bls W0.drew a n x.ends) := Lib.hid (H1.out.same (Below.refl _ _).drew)
  go_region_held3 (fun w9 => w9.cell? ⟨w.heap.size, 0, none⟩ = some (.int .i64 x.st) ∧ w9.cell? ⟨w.heap.size, 1, none⟩ = some (.slice a n c) ∧ w9.cell? ⟨w.heap.size, 2, none⟩ = some (.slice b m d)) (first | exact ⟨cell_stay C.out.1 (Below.refl _ _).drew, cell_stay C.out.2.1 (Below.refl _ _).drew, cell_stay C.out.2.2.1 (Below.refl _ _).drew⟩ | exact ⟨cell_stay C.out.1 HB3.out, cell_stay C.out.2.1 HB3.out, cell_stay C.out.2.2.1 HB3.out⟩ | exact ⟨cell_stay C.out.1 HB4.out, cell_stay C.out.2.1 HB4.out, cell_stay C.out.2.2.1 HB4.out⟩ | exact ⟨cell_apart (cell_stay C.out.1 HB4.out) (((put_grown _ _ _ _).trans (put_grown _ _ _ _)).trans (put_grown _ _ _ _)) (by simp), cell_apart (cell_stay C.out.2.1 HB4.out) (((put_grown _ _ _ _).trans (put_grown _ _ _ _)).trans (put_grown _ _ _ _)) (by simp), cell_apart (cell_stay C.out.2.2.1 HB4.out) (((put_grown _ _ _ _).trans (put_grown _ _ _ _)).trans (put_grown _ _ _ _)) (by simp)⟩) ((first | (go_at_call 91; refine (copyBools_any H1d.out (by omega)).mono ?_; rintro e w3 ⟨a3, m3, c3, rfl, ho3, hb3⟩; obtain rfl : n = m3 := (by rw [← ho3.len]; exact HE.out.1.symm); have HO3 : Hid (OwnBl 4 w3 W0.heap.size a3 n c3 x.ends) := Lib.hid ho3; have HB3 : Hid (Below W0.heap.size W0 w3) := Lib.hid ((Below.refl _ _).drew.trans hb3); clear ho3 hb3) | (go_at_call 92; refine (copyMoves_any (H2.out.same HB3.out) (by omega)).mono ?_; rintro e w4 ⟨a4, m4, c4, rfl, ho4, hb4⟩; obtain rfl : m = m4 := (by rw [← ho4.len]; exact HE.out.2.symm); have HO4 : Hid (OwnM 63 w4 w3.heap.size a4 m c4 x.moves) := Lib.hid ho4; have HO3' : Hid (OwnBl 4 w4 W0.heap.size a3 n c3 x.ends) := Lib.hid (HO3.out.same hb4); have HB4 : Hid (Below W0.heap.size W0 w4) := Lib.hid (HB3.out.trans (hb4.mono HB3.out.size)); have hs4 := hb4.size; have hM4 : w4.heap[w.heap.size + 1]? = some (.cells #[.int .i64 0, .slice none 0 0, .slice none 0 0] 27 (0, 0)) := (HB4.out.block _ (by omega)).trans HM.out; obtain ⟨m0, m1, m2, g0, g1, g2⟩ := three_cells hM4; clear ho4 hb4)))
  obtain ⟨z0, z1, z2, hZ⟩ := three_put hM4 (.int .i64 x.st) (.slice a3 n c3) (.slice a4 m c4)
  have HS3 := Lib.hid HO3.out.span
  have HS4 := Lib.hid HO4.out.span
  have HG4 : Hid (Below w.heap.size w w4) := Lib.hid (HB.out.trans (HB4.out.mono hszB))
  have hs3 := HB3.out.size
  clear hM4 m0 m1 m2 g0 g1 g2 hZ
  go_wp2_with fail
  (try simp only [Exit.inBlock, Exit.then])
  refine bodyPost_ret (by simp [results, Try.results58, go_sem, z0, z1, z2]; try rfl) rfl ?_
  have hq : ∀ ad, a3 = some ad → ad.block ≠ w.heap.size + 1 := fun ad e => by
    have := (HS3.out ad e).1
    omega
  have hp : ∀ ad, a4 = some ad → ad.block ≠ w.heap.size + 1 := fun ad e => by
    have := (HS4.out ad e).1
    omega
  refine ⟨_, rfl, ⟨a3, n, c3, a4, m, c4, rfl, (((HO3'.out.set hq _).set hq _).set hq _).lower (by omega), (((HO4.out.set hp _).set hp _).set hp _).lower (by omega), fun f g ef eg => ?_, ?_, ?_, Nat.le_refl _, HO3.out.room, HO4.out.room⟩, ((HG4.out.setCell (by dsimp only; omega) _).setCell (by dsimp only; omega) _).setCell (by dsimp only; omega) _⟩
  · have h1 := HS3.out f ef
    have h2 := HS4.out g eg
    omega
  · exact fun ad e => by
      have := HS3.out ad e
      simp only [World.size_setCell]
      omega
  · exact fun ad e => by
      have := HS4.out ad e
      simp only [World.size_setCell]
      omega

set_option maxRecDepth 100000 in
theorem turnRound_any {g o : Nat} {z : Bool} {w : World} (h : w.cell? ⟨g, o + 1, none⟩ = some (.bool z)) (hf : w.frozen? ⟨g, o + 1, none⟩ = false) :
    Calls Try.prog 59 #[.pointer (some ⟨g, o, none⟩)] w fun e w' => e = .returned (.tuple #[]) ∧ w' = w.setCell ⟨g, o + 1, none⟩ (.bool (!z)) := by
  go_enter Try.func59, Try.ntmps59
  go_wp2
  go_returns
  exact ⟨rfl, rfl⟩

set_option maxHeartbeats 4000000 in
set_option maxRecDepth 100000 in
theorem dualOf_any {w : World} {v : Value} {x : Mac} (h : MacW w v x) (hn : x.parts ≤ 1000000000) : Calls Try.prog 20 #[v] w (MadeMac w.heap.size (dualM x) w) := by
  obtain ⟨a, n, c, b, m, d, rfl, h1, h2, h3, h4⟩ := h
  obtain ⟨hB, hX, hM, hsz⟩ := twice w #[.int .i64 x.st, .slice a n c, .slice b m d] #[.int .i64 0, .slice none 0 0, .slice none 0 0] 27 27
  have HM0 : Hid (MacW ((w.alloc (.cells #[.int .i64 x.st, .slice a n c, .slice b m d] 27)).alloc (.cells #[.int .i64 0, .slice none 0 0, .slice none 0 0] 27)) (.agg #[.int .i64 x.st, .slice a n c, .slice b m d]) x) := Lib.hid (MacW.same ⟨a, n, c, b, m, d, rfl, h1, h2, h3, h4⟩ hB)
  have HB := Lib.hid hB
  clear h1 h2 h3 h4 hB
  unfold MadeMac
  go_enter Try.func20, Try.ntmps20
  go_wp2_with fail
  generalize (w.alloc (.cells #[.int .i64 x.st, .slice a n c, .slice b m d] 27)).alloc (.cells #[.int .i64 0, .slice none 0 0, .slice none 0 0] 27) = W0 at *
  have HM := Lib.hid hM
  have C := Lib.hid (three_cells hX)
  clear hX hM
  refine (copyMachine_any HM0.out (by omega)).mono ?_
  rintro e w1 ⟨v1, rfl, ⟨p, k, r, q, u, y, rfl, ho1, ho2, hsep, hs1, hs2, _, hr1, hr2⟩, hb⟩
  have HO1 := Lib.hid ho1
  have HO2 := Lib.hid ho2
  have HS := Lib.hid (And.intro hsep (And.intro hs1 (And.intro hs2 (And.intro hr1 hr2))))
  have hM1 := (hb.block (w.heap.size + 1) (by omega)).trans HM.out
  have HB1 := Lib.hid (HB.out.trans (hb.mono HB.out.size))
  have hsz1 := hb.size
  clear ho1 ho2 hsep hs1 hs2 hr1 hr2 hb
  go_wp2_with fail
  have HK := Lib.hid (And.intro hM1 HB1.out.size)
  clear hM1
  generalize hW1 : w1.alloc (.cells #[.int .i64 x.st, .slice p k r, .slice q u y] 27) = W1 at *
  have hBW : Below w1.heap.size w1 W1 := hW1 ▸ alloc_same w1 _
  have hT : W1.heap[w1.heap.size]? = some (.cells #[.int .i64 x.st, .slice p k r, .slice q u y] 27 (0, 0)) := by rw [← hW1]; exact heap_alloc_new w1 _
  have hG : W1.heap[w.heap.size + 1]? = some (.cells #[.int .i64 0, .slice none 0 0, .slice none 0 0] 27 (0, 0)) := (hBW.block _ (by omega)).trans HK.out.1
  have hz1 : W1.heap.size = w1.heap.size + 1 := by rw [← hW1]; simp
  have HT := Lib.hid (And.intro hT hG)
  have HE := Lib.hid (HO1.out.same hBW)
  have HV := Lib.hid (HO2.out.same hBW)
  have HL := Lib.hid HO2.out.len
  have hu : (u : Int) ≤ 9223372036854775807 := by have := HS.out.2.2.2.2; omega
  have HBW := Lib.hid (HB1.out.trans (hBW.mono HB1.out.size))
  clear hT hG hBW hW1
  go_loopw [10] (fun i wr => ∃ j : Nat, j ≤ u ∧ i = .int .i64 j ∧ OwnM 63 wr W0.heap.size q u y (turned x.moves j) ∧ W1.grownBy wr (Value.ownBlock (.slice q u y))) (fun i _ => u - (intOf i).toNat)
  case atStart => exact ⟨0, Nat.zero_le _, rfl, by rw [turned_zero]; exact HV.out, grown_below (Below.refl _ _) _⟩
  case round =>
    obtain ⟨j, hj, rfl, ho, hg⟩ := hrel
    have hT1 : wr.heap[w1.heap.size]? = some (.cells #[.int .i64 x.st, .slice p k r, .slice q u y] 27 (0, 0)) := (hg.block _ (by omega) (fun e => by
      obtain ⟨ad, e1, e2⟩ := block_of e.symm
      have := HS.out.2.2.1 ad e1
      omega)).trans HT.out.1
    have hG1 : wr.heap[w.heap.size + 1]? = some (.cells #[.int .i64 0, .slice none 0 0, .slice none 0 0] 27 (0, 0)) := (hg.block _ (by omega) (fun e => by
      obtain ⟨ad, e1, e2⟩ := block_of e.symm
      have := HS.out.2.2.1 ad e1
      omega)).trans HT.out.2
    have HO := Lib.hid ho
    have HG := Lib.hid hg
    clear ho hg
    obtain ⟨t0, t1, t2, tf0, tf1, tf2⟩ := three_cells hT1
    by_cases hlt : j < u
    · obtain ⟨g, e, hg0, hg1⟩ := HO.out.head (by omega)
      subst e
      obtain ⟨b1, o1, z, e, hx, hc0, hc1, hc2, hc3⟩ := mvs_at (HO.out.items Mv.enc_len) hlt
      cases e
      rw [Nat.zero_add] at hc0 hc1 hc2 hc3
      obtain ⟨z', hz'⟩ : ∃ z', x.moves[j]? = some z' := ⟨_, List.getElem?_eq_getElem (by rw [HL.out]; exact hlt)⟩
      have hzz := turned_at hz'
      rw [hx] at hzz
      cases hzz
      have HX := Lib.hid (And.intro hx hz')
      have hf1 := HO.out.row.frozenAt (j * 4 + 1)
      clear hx hz' hc0 hc2 hc3
      go_wp2_with fail
      refine (turnRound_any hc1 hf1).mono ?_
      rintro e w2 ⟨rfl, rfl⟩
      have hs := own_putI Mv.enc_len (i := 1) (y := z.neg) (v := .bool (!z.send)) HO.out HX.out.1 (by omega) rfl
      rw [turned_step HX.out.2] at hs
      have HO9 := Lib.hid hs.1
      have HG9 := Lib.hid (HG.out.trans hs.2)
      clear hs hc1 hf1 t0 t1 t2 tf0 tf1 tf2 hT1 hG1
      go_wp2_with fail
      go_roundw
      case rel => exact ⟨j + 1, by omega, by go_num, HO9.out, HG9.out⟩
      case measure => simp [intOf]; omega
    · obtain rfl : j = u := by omega
      obtain ⟨m0, m1, m2, g0, g1, g2⟩ := three_cells hG1
      obtain ⟨z0, z1, z2, hZ⟩ := three_put hG1 (.int .i64 x.st) (.slice p k r) (.slice q j y)
      clear hZ hG1 hT1
      have HO3 := Lib.hid (OwnI.sep HE.out HG.out HS.out.1)
      have HS2 := Lib.hid (grown_to HG.out HBW.out (HS.out.2.2.1) (by omega) (by omega))
      have hsr := HG.out.size
      go_wp2_with fail
      (try simp only [Exit.inBlock, Exit.then])
      refine bodyPost_ret (by simp [results, Try.results20, go_sem, z0, z1, z2]; try rfl) rfl ?_
      have hq : ∀ ad, p = some ad → ad.block ≠ w.heap.size + 1 := fun ad e => by
        have := (HS.out.2.1 ad e).1
        omega
      have hp : ∀ ad, q = some ad → ad.block ≠ w.heap.size + 1 := fun ad e => by
        have := (HS.out.2.2.1 ad e).1
        omega
      have HF := HO.out
      rw [turned_all _ _ HL.out] at HF
      refine ⟨_, rfl, ⟨p, k, r, q, j, y, rfl, (((HO3.out.set hq _).set hq _).set hq _).lower (by omega), (((HF.set hp _).set hp _).set hp _).lower (by omega), HS.out.1, ?_, ?_, Nat.le_refl _, HS.out.2.2.2.1, HS.out.2.2.2.2⟩, ((HS2.out.setCell (by dsimp only; omega) _).setCell (by dsimp only; omega) _).setCell (by dsimp only; omega) _⟩
      · exact fun ad e => by
          have := HS.out.2.1 ad e
          simp only [World.size_setCell]
          omega
      · exact fun ad e => by
          have := HS.out.2.2.1 ad e
          simp only [World.size_setCell]
          omega
end Go.Proofs.Ytckmgbobkffabaa
