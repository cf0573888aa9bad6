/- The dual of a machine, by the model. A machine that may follow another one is drawn. -/
import Derived.Test.YtckmgbobkffabaaG39
import Derived.Test.YtckmgbobkffabaaG38
import Derived.Test.YtckmgbobkffabaaG26
import Derived.Test.YtckmgbobkffabaaG1
namespace Go.Proofs.Ytckmgbobkffabaa
open Go.ChangeShapes Go.WideShapes Go.ChangeAt Go.RowKit
set_option linter.unusedVariables false
set_option linter.unusedSimpArgs false

set_option maxHeartbeats 4000000 in
set_option maxRecDepth 100000 in
theorem specDualOf_any {w : World} {v : Value} {x : Mac} (h : MacW w v x) (hn : x.parts ≤ 1000000000) : Calls Try.prog 99 #[v] w (MadeMac w.heap.size (dualM x) w) := by
 obtain ⟨a, n, c, b, m, d, rfl, h1, h2, h3, h4⟩ := h
 have e1 := h1.len
 have e2 := h2.len
 unfold Mac.parts at hn
 rw [e1, e2] at hn
 obtain ⟨hB, hX, hM, hsz⟩ := twice w #[.int .i64 x.st, .slice a n c, .slice b m d] #[.int .i64 0, .slice none 0 0, .slice none 0 0] 27 27
 have H1 := Lib.hid (h1.same hB)
 have H2 := Lib.hid (h2.same hB)
 have HE := Lib.hid (And.intro e1 e2)
 have HB := Lib.hid hB
 have hm64 : (m : Int) ≤ 9223372036854775807 := by omega
 clear h1 h2 h3 h4 hB e1 e2
 unfold MadeMac
 go_enter Try.func99, Try.ntmps99
 go_wp2_with fail
 generalize (w.alloc (.cells #[.int .i64 x.st, .slice a n c, .slice b m d] 27)).alloc (.cells #[.int .i64 0, .slice none 0 0, .slice none 0 0] 27) = W0 at *
 have HX := Lib.hid hX
 have C := Lib.hid (three_cells hX)
 have HM := Lib.hid hM
 have HZ := Lib.hid hsz
 clear hX hM hsz
 obtain ⟨i0, hi, hz0, hz1, hz2⟩ := info_parts infoBoolS
 have HI := Lib.hid (And.intro hi (And.intro hz0 (And.intro hz1 hz2)))
 clear hi hz0 hz1 hz2
 obtain ⟨i1, hi, hz0, hz1, hz2⟩ := info_parts infoMoveS
 have HI1 := Lib.hid (And.intro hi (And.intro hz0 (And.intro hz1 hz2)))
 clear hi hz0 hz1 hz2
 have HOA : Hid (OwnBl 4 ((W0.drew.alloc (.cells #[.int .i64 0, .slice none 0 0, .slice none 0 0] 27)).alloc (.cells #[] 4)) W0.heap.size (some ⟨W0.heap.size + 1, 0, none⟩) 0 0 []) := by
  have := own_emptyI (enc := blEnc) (s := 1) (w := W0.drew.alloc (.cells #[.int .i64 0, .slice none 0 0, .slice none 0 0] 27)) (B := W0.heap.size) 4 (by simp)
  rw [World.size_alloc] at this
  exact Lib.hid this
 have HOB : Hid (OwnBl 4 (W0.drew.alloc (.cells #[] 4)) W0.heap.size (some ⟨W0.heap.size, 0, none⟩) 0 0 []) := Lib.hid (own_emptyI (enc := blEnc) (s := 1) (w := W0.drew) (B := W0.heap.size) 4 (Nat.le_refl _))
 have HOC : Hid (OwnBl 4 ((W0.drew.alloc (.cells #[] 4)).alloc (.cells #[.int .i64 0, .slice none 0 0, .slice none 0 0] 27)) W0.heap.size (some ⟨W0.heap.size, 0, none⟩) 0 0 []) := Lib.hid (HOB.out.alloc _)
 have HBA : Hid (Below W0.heap.size W0 ((W0.drew.alloc (.cells #[.int .i64 0, .slice none 0 0, .slice none 0 0] 27)).alloc (.cells #[] 4))) := Lib.hid (((Below.refl _ W0).drew.alloc (Nat.le_refl _) _).alloc (by simp) _)
 have HBB : Hid (Below W0.heap.size W0 (W0.drew.alloc (.cells #[] 4))) := Lib.hid ((Below.refl _ W0).drew.alloc (Nat.le_refl _) _)
 have HBC : Hid (Below W0.heap.size W0 ((W0.drew.alloc (.cells #[] 4)).alloc (.cells #[.int .i64 0, .slice none 0 0, .slice none 0 0] 27))) := Lib.hid (((Below.refl _ W0).drew.alloc (Nat.le_refl _) _).alloc (by simp) _)
 have HBZ : Hid (Below W0.heap.size W0 (W0.drew.alloc (.cells #[.int .i64 0, .slice none 0 0, .slice none 0 0] 27))) := Lib.hid ((Below.refl _ W0).drew.alloc (Nat.le_refl _) _)
 have HMA : Hid (((W0.drew.alloc (.cells #[.int .i64 0, .slice none 0 0, .slice none 0 0] 27)).alloc (.cells #[] 4)).heap[W0.heap.size]? = some (.cells #[.int .i64 0, .slice none 0 0, .slice none 0 0] 27 (0, 0))) := by
  refine Lib.hid ?_
  rw [Below.heap_alloc _ _ _ (by simp)]
  exact heap_alloc_new W0.drew (.cells #[.int .i64 0, .slice none 0 0, .slice none 0 0] 27 (0, 0))
 have HMC : Hid (((W0.drew.alloc (.cells #[] 4)).alloc (.cells #[.int .i64 0, .slice none 0 0, .slice none 0 0] 27)).heap[W0.heap.size + 1]? = some (.cells #[.int .i64 0, .slice none 0 0, .slice none 0 0] 27 (0, 0))) := by
  refine Lib.hid ?_
  have := heap_alloc_new (W0.drew.alloc (.cells #[] 4)) (.cells #[.int .i64 0, .slice none 0 0, .slice none 0 0] 27 (0, 0))
  rw [World.size_alloc] at this
  exact this
 refine wp_region_held_drew (S := fun w9 => w9.cell? ⟨w.heap.size, 0, none⟩ = some (.int .i64 x.st) ∧ w9.cell? ⟨w.heap.size, 1, none⟩ = some (.slice a n c) ∧ w9.cell? ⟨w.heap.size, 2, none⟩ = some (.slice b m d)) (by kernel_rfl) ⟨cell_stay C.out.1 ((Below.refl _ W0).drew), cell_stay C.out.2.1 ((Below.refl _ W0).drew), cell_stay C.out.2.2.1 ((Below.refl _ W0).drew)⟩ (fun hHeld => ?_)
 refine wpAnyH_take (i := 0) (v := ?v1) (by simp only [get9]; rfl) (by kernel_rfl) (by kernel_rfl) (by kernel_rfl) (by exact fun _ _ _ h => h) (Or.inl ⟨by rfl, fun w9 hS9 => ?hy1⟩) hHeld ?rest1
 case hy1 =>
  dsimp only at hS9
  obtain ⟨q0, q1, q2⟩ := hS9
  go_simp
  try with_reducible rfl
 try simp only [Act.put, set9]
 refine wpAnyH_take (i := 1) (v := ?v2) (by simp only [get9]; rfl) (by kernel_rfl) (by kernel_rfl) (by kernel_rfl) (by exact fun _ _ _ h => h) (Or.inl ⟨by rfl, fun w9 hS9 => ?hy2⟩) hHeld ?rest2
 case hy2 =>
  dsimp only at hS9
  obtain ⟨q0, q1, q2⟩ := hS9
  go_simp
  try with_reducible rfl
 try simp only [Act.put, set9]
 refine wpAnyH_take (i := 3) (v := ?v3) (by simp only [get9]; rfl) (by kernel_rfl) (by kernel_rfl) (by kernel_rfl) (by exact fun _ _ _ h => h) (Or.inl ⟨by rfl, fun w9 hS9 => ?hy3⟩) hHeld ?rest3
 case hy3 =>
  dsimp only at hS9
  obtain ⟨q0, q1, q2⟩ := hS9
  go_simp
  try with_reducible rfl
 try simp only [Act.put, set9]
 refine wpAnyH_take (i := 4) (v := ?v4) (by simp only [get9]; rfl) (by kernel_rfl) (by kernel_rfl) (by kernel_rfl) (by exact fun _ _ _ h => h) (Or.inl ⟨by rfl, fun w9 hS9 => ?hy4⟩) hHeld ?rest4
 case hy4 =>
  dsimp only at hS9
  obtain ⟨q0, q1, q2⟩ := hS9
  go_simp
  try with_reducible rfl
 try simp only [Act.put, set9]
 refine wpAnyH_ready (rs := [2, 7]) (by kernel_rfl) (by simp) (AllReadyH.cons (by simp only [get9]; rfl) (fun K hK => ?_) (AllReadyH.cons (by simp only [get9]; rfl) (fun K hK => ?_) AllReadyH.nil))
 ·skip
  go_simp
  refine hK.out _ _ ⟨cell_stay C.out.1 (HBB.out), cell_stay C.out.2.1 (HBB.out), cell_stay C.out.2.2.1 (HBB.out)⟩ (fun hHeld => ?_)
  clear hK K
  try simp only [Act.put, set9]
  refine wpAnyH_ready (rs := [5, 7]) (by kernel_rfl) (by simp) (AllReadyH.cons (by simp only [get9]; rfl) (fun K hK => ?_) (AllReadyH.cons (by simp only [get9]; rfl) (fun K hK => ?_) AllReadyH.nil))
  ·skip
   refine step_app_someI _ blEnc_len (by omega) blEnc_one (by rfl) (.tmp 8) (.tmp 10) 24 (by rfl) 4 i0 (.bool false) 1 Try.underlying24 HI.out.1 HI.out.2.1 HI.out.2.2.1 HI.out.2.2.2 rfl (by rfl) HOB.out (by rfl) (H1.out.same HBB.out) (by omega) (by omega) HBB.out.size ?_
   intro g4 c4 w4 ho4 hg4 hgg
   rw [Nat.zero_add, List.nil_append] at ho4
   have HO4 := Lib.hid ho4
   have HB4 : Hid (Below W0.heap.size W0 w4) := Lib.hid (grown_to (b := some ⟨W0.heap.size, 0, none⟩) (m := 0) (d := 0) hg4 HBB.out HOB.out.span (Nat.le_refl _) HBB.out.size)
   have HS4 : Hid (Span (some ⟨g4, 0, none⟩) W0.heap.size w4.heap.size) := Lib.hid ho4.span
   clear ho4 hg4 hgg
   refine hK.out _ _ ⟨cell_stay C.out.1 (HB4.out), cell_stay C.out.2.1 (HB4.out), cell_stay C.out.2.2.1 (HB4.out)⟩ (fun hHeld => ?_)
   clear hK K
   try simp only [Act.put, set9]
   refine wpAnyH_take (i := 6) (v := ?v5) (by simp only [get9]; rfl) (by kernel_rfl) (by kernel_rfl) (by kernel_rfl) (by exact fun _ _ _ h => h) (Or.inl ⟨by rfl, fun w9 hS9 => ?hy5⟩) hHeld ?rest5
   case hy5 =>
    dsimp only at hS9
    obtain ⟨q0, q1, q2⟩ := hS9
    go_simp
    try with_reducible rfl
   try simp only [Act.put, set9]
   refine wpAnyH_ready (rs := [7]) (by kernel_rfl) (by simp) (AllReadyH.cons (by simp only [get9]; rfl) (fun K hK => ?_) AllReadyH.nil)
   go_simp
   have HB5 : Hid (Below W0.heap.size W0 (w4.alloc (.cells #[.int .i64 0, .slice none 0 0, .slice none 0 0] 27))) := Lib.hid (HB4.out.alloc HB4.out.size _)
   refine hK.out _ _ ⟨cell_stay C.out.1 (HB5.out), cell_stay C.out.2.1 (HB5.out), cell_stay C.out.2.2.1 (HB5.out)⟩ (fun hHeld => ?_)
   clear hK K
   try simp only [Act.put, set9]
   refine wpAnyH_ready (rs := [8]) (by kernel_rfl) (by simp) (AllReadyH.cons (by simp only [get9]; rfl) (fun K hK => ?_) AllReadyH.nil)
   go_simp
   have HB6 : Hid (Below W0.heap.size W0 (w4.alloc (.cells #[.int .i64 x.st, .slice (some ⟨g4, 0, none⟩) n c4, .slice none 0 0] 27))) := Lib.hid (HB4.out.alloc HB4.out.size _)
   refine hK.out _ _ ⟨cell_stay C.out.1 (HB6.out), cell_stay C.out.2.1 (HB6.out), cell_stay C.out.2.2.1 (HB6.out)⟩ (fun hHeld => ?_)
   clear hK K
   try simp only [Act.put, set9]
   refine wpAnyH_done (by kernel_rfl) ?_ _
   have hGoal := trivial
   clear hGoal
   obtain ⟨G, hGe⟩ : ∃ G, G = w4.heap.size := ⟨_, rfl⟩
   generalize hW1 : w4.alloc (.cells #[.int .i64 x.st, .slice (some ⟨g4, 0, none⟩) n c4, .slice none 0 0] 27) = W1 at *
   have HT : Hid (W1.heap[G]? = some (.cells #[.int .i64 x.st, .slice (some ⟨g4, 0, none⟩) n c4, .slice none 0 0] 27 (0, 0))) := Lib.hid (by rw [← hW1, hGe]; exact heap_alloc_new w4 _)
   have HBW : Hid (Below W0.heap.size W0 W1) := Lib.hid HB6.out
   have HEW : Hid (OwnBl 4 W1 W0.heap.size (some ⟨g4, 0, none⟩) n c4 x.ends) := Lib.hid (by rw [← hW1]; exact HO4.out.alloc _)
   have HNN : Hid (g4 ≠ G ∧ W0.heap.size ≤ G ∧ G < W1.heap.size) := Lib.hid (by
    have h1 := HS4.out _ rfl
    have h2 := HB4.out.size
    have h3 : W1.heap.size = w4.heap.size + 1 := by rw [← hW1]; simp
    dsimp only at h1
    omega)
   rw [← hGe]
   clear hW1 hGe HB6 HB5
   go_wp2
   go_loopw [4] (fun i wr => ∃ j : Nat, j ≤ m ∧ i = .int .i64 j ∧ (∃ q y, wr.heap[G]? = some (.cells #[.int .i64 x.st, .slice (some ⟨g4, 0, none⟩) n c4, .slice q j y] 27 (0, 0)) ∧ OwnM 63 wr W1.heap.size q j y ((x.moves.map Mv.neg).take j)) ∧ Inside G (G + 1) W1 wr) (fun i _ => m - (intOf i).toNat)
   case atStart => exact ⟨0, Nat.zero_le _, rfl, ⟨none, 0, HT.out, by simpa using OwnI.nil⟩, Inside.refl _ _ _⟩
   case round =>
    obtain ⟨j, hj, rfl, ⟨q, y, hT1, ho⟩, hi⟩ := hrel
    have HB9 : Hid (Below W0.heap.size W0 wr) := Lib.hid (hi.to HBW.out HNN.out.2.1 HBW.out.size)
    have hX1 : wr.heap[w.heap.size]? = some (.cells #[.int .i64 x.st, .slice a n c, .slice b m d] 27 (0, 0)) := (HB9.out.block _ (by have := HZ.out; omega)).trans HX.out
    have hM1 : wr.heap[w.heap.size + 1]? = some (.cells #[.int .i64 0, .slice none 0 0, .slice none 0 0] 27 (0, 0)) := (HB9.out.block _ (by have := HZ.out; omega)).trans HM.out
    obtain ⟨t0, t1, t2, tf0, tf1, tf2⟩ := three_cells hT1
    obtain ⟨_, _, b2, _, _, _⟩ := three_cells hX1
    have HO := Lib.hid ho
    have HJ := Lib.hid hi
    have HT1 := Lib.hid hT1
    have HM1 := Lib.hid hM1
    clear ho hi hT1 hX1 hM1
    by_cases hlt : j < m
    ·obtain ⟨b1, o1, z, rfl, hx, hc0, hc1, hc2, hc3⟩ := mvs_at (H2.out.same HB9.out) hlt
     have HXJ := Lib.hid hx
     have t3 := cell_stay t2 (alloc_same wr (.cells #[.int .i64 z.frm, .bool (!z.send), .int .i64 z.msg, .int .i64 z.to] 63))
     have HOA2 : Hid (OwnM 63 ((wr.alloc (.cells #[.int .i64 z.frm, .bool (!z.send), .int .i64 z.msg, .int .i64 z.to] 63)).alloc (.cells z.neg.enc.toArray 63)) W1.heap.size q j y ((x.moves.map Mv.neg).take j)) := Lib.hid ((HO.out.alloc _).alloc _)
     have HN2 : Hid (Mvs ((wr.alloc (.cells #[.int .i64 z.frm, .bool (!z.send), .int .i64 z.msg, .int .i64 z.to] 63)).alloc (.cells z.neg.enc.toArray 63)) (some ⟨wr.heap.size + 1, 0, none⟩) 1 [z.neg]) := by
      have := items_new (enc := Mv.enc) (s := 4) Mv.enc_len (wr.alloc (.cells #[.int .i64 z.frm, .bool (!z.send), .int .i64 z.msg, .int .i64 z.to] 63)) z.neg 63
      rw [World.size_alloc] at this
      exact Lib.hid this
     have hsW := HJ.out.size
     clear hx
     go_wp2_with (at_builtin; refine wpl_appI _ Mv.enc_len (by omega) Mv.cells rfl (.tmp 30) (.tmp 32) 25 rfl 63 i1 (.agg #[.int .i64 0, .bool false, .int .i64 0, .int .i64 0]) 32 Try.underlying25 HI1.out.1 HI1.out.2.1 HI1.out.2.2.1 HI1.out.2.2.2 rfl rfl HOA2.out rfl HN2.out (by omega) ?c6 ?c7 ?_)
     case c6 => omega
     case c7 => simp; omega
     intro q5 y5 w5 ho5 hb5
     have HB5 : Hid (Below W1.heap.size wr w5) := Lib.hid ((((Below.refl _ wr).alloc (by omega) _).alloc (by simp; omega) _).trans hb5)
     have hT5 : w5.heap[G]? = some (.cells #[.int .i64 x.st, .slice (some ⟨g4, 0, none⟩) n c4, .slice q j y] 27 (0, 0)) := (HB5.out.block _ HNN.out.2.2).trans HT1.out
     have HO5 : Hid (OwnM 63 (w5.setCell ⟨G, 2, none⟩ (.slice q5 (j + 1 : Nat) y5)) W1.heap.size q5 (j + 1) y5 ((x.moves.map Mv.neg).take (j + 1))) := Lib.hid (by
      have e9 : (x.moves.map Mv.neg).take (j + 1) = (x.moves.map Mv.neg).take j ++ [z.neg] := by rw [List.take_add_one, List.getElem?_map, HXJ.out]; rfl
      rw [e9]
      exact ho5.set (p := ⟨G, 2, none⟩) (fun ad e => by have := (ho5.span ad e).1; have := HNN.out.2.2; dsimp only; omega) _)
     have HT6 := Lib.hid (heap_setCell_same w5 G 2 _ _ (.slice q5 (j + 1 : Nat) y5) hT5)
     have HJ6 : Hid (Inside G (G + 1) W1 (w5.setCell ⟨G, 2, none⟩ (.slice q5 (j + 1 : Nat) y5))) := Lib.hid ((HJ.out.below HB5.out).trans (Inside.row (put_grown _ _ _ _) (fun r e => by cases e; omega)))
     obtain ⟨_, _, s2, _, _, sf2⟩ := three_cells hT5
     clear ho5 hb5 hT5 t0 t1 t2 t3 tf0 tf1 tf2 b2 hc0 hc1 hc2 hc3
     go_wp2_with fail
     go_roundw
     case rel => exact ⟨j + 1, by omega, by go_num, ⟨q5, y5, HT6.out, HO5.out⟩, HJ6.out⟩
     case measure => simp [intOf]; omega
    ·obtain rfl : j = m := by omega
     obtain ⟨m0, m1, m2, f0, f1, f2⟩ := three_cells HM1.out
     obtain ⟨z0, z1, z2, hZ⟩ := three_put HM1.out (.int .i64 x.st) (.slice (some ⟨g4, 0, none⟩) n c4) (.slice q j y)
     have hq : ∀ ad, (some ⟨g4, 0, none⟩ : Option Addr) = some ad → ad.block ≠ w.heap.size + 1 := fun ad e => by
      have h1 := (HEW.out.span ad e).1
      have := HZ.out
      omega
     have hp : ∀ ad, q = some ad → ad.block ≠ w.heap.size + 1 := fun ad e => by
      have h1 := (HO.out.span ad e).1
      have := HZ.out
      have := HNN.out
      omega
     have HF : Hid (OwnM 63 wr W1.heap.size q j y (x.moves.map Mv.neg)) := Lib.hid (by
      have h1 := HO.out
      rw [List.take_of_length_le (by rw [List.length_map]; have := HE.out.2; omega)] at h1
      exact h1)
     have HE3 : Hid (OwnBl 4 wr W0.heap.size (some ⟨g4, 0, none⟩) n c4 x.ends) := Lib.hid (by
      have hn9 := HNN.out
      exact HEW.out.aside HJ.out (lo' := g4) (hi' := g4 + 1) (fun ad e => by cases e; exact ⟨Nat.le_refl _, Nat.lt_succ_self _⟩) (by omega))
     have HW9 := Lib.hid (HB.out.trans (HB9.out.mono HB.out.size))
     have hsr := HB9.out.size
     have hsW := HJ.out.size
     have hsb := HB.out.size
     clear hZ
     go_wp2_with fail
     (try simp only [Exit.inBlock, Exit.then])
     refine bodyPost_ret (by simp [results, Try.results99, go_sem, z0, z1, z2]; try rfl) rfl ?_
     refine ⟨_, rfl, ⟨_, n, c4, q, j, y, rfl, (((HE3.out.set hq _).set hq _).set hq _).lower hsb, (((HF.out.set hp _).set hp _).set hp _).lower (by have := HNN.out; omega), fun f g ef eg => ?_, ?_, ?_, Nat.le_refl _, HE3.out.room, HF.out.room⟩, ((HW9.out.setCell (by dsimp only; omega) _).setCell (by dsimp only; omega) _).setCell (by dsimp only; omega) _⟩
     ·have h1 := HEW.out.span f ef
      have h2 := HO.out.span g eg
      omega
     ·exact fun ad e => by
       have h1 := HE3.out.span ad e
       simp only [World.size_setCell]
       omega
     ·exact fun ad e => by
       have h1 := HF.out.span ad e
       have := HNN.out
       simp only [World.size_setCell]
       omega
  ·skip
   go_simp
   refine hK.out _ _ ⟨cell_stay C.out.1 (HBC.out), cell_stay C.out.2.1 (HBC.out), cell_stay C.out.2.2.1 (HBC.out)⟩ (fun hHeld => ?_)
   clear hK K
   try simp only [Act.put, set9]
   refine wpAnyH_ready (rs := [5]) (by kernel_rfl) (by simp) (AllReadyH.cons (by simp only [get9]; rfl) (fun K hK => ?_) AllReadyH.nil)
   refine step_app_someI _ blEnc_len (by omega) blEnc_one (by rfl) (.tmp 8) (.tmp 10) 24 (by rfl) 4 i0 (.bool false) 1 Try.underlying24 HI.out.1 HI.out.2.1 HI.out.2.2.1 HI.out.2.2.2 rfl (by rfl) HOC.out (by rfl) (H1.out.same HBC.out) (by omega) (by omega) HBC.out.size ?_
   intro g4 c4 w4 ho4 hg4 hgg
   rw [Nat.zero_add, List.nil_append] at ho4
   have HO4 := Lib.hid ho4
   have HB4 : Hid (Below W0.heap.size W0 w4) := Lib.hid (grown_to (b := some ⟨W0.heap.size, 0, none⟩) (m := 0) (d := 0) hg4 HBC.out HOC.out.span (Nat.le_refl _) HBC.out.size)
   have HS4 : Hid (Span (some ⟨g4, 0, none⟩) W0.heap.size w4.heap.size) := Lib.hid ho4.span
   have HGN : Hid (g4 ≠ W0.heap.size + 1) := Lib.hid (by rcases hgg with e | e <;> (try simp at e) <;> omega)
   have HM4 : Hid (w4.heap[W0.heap.size + 1]? = some (.cells #[.int .i64 0, .slice none 0 0, .slice none 0 0] 27 (0, 0))) := Lib.hid ((hg4.block _ (by simp; try omega) (by simp; try omega)).trans HMC.out)
   obtain ⟨m0, m1, m2, f0, f1, f2⟩ := three_cells HM4.out
   have HP4 := Lib.hid (three_put HM4.out (.int .i64 x.st) (.slice (some ⟨g4, 0, none⟩) n c4) (.slice none 0 0))
   clear ho4 hg4 hgg
   refine hK.out _ _ ⟨cell_stay C.out.1 (HB4.out), cell_stay C.out.2.1 (HB4.out), cell_stay C.out.2.2.1 (HB4.out)⟩ (fun hHeld => ?_)
   clear hK K
   try simp only [Act.put, set9]
   refine wpAnyH_take (i := 6) (v := ?v6) (by simp only [get9]; rfl) (by kernel_rfl) (by kernel_rfl) (by kernel_rfl) (by exact fun _ _ _ h => h) (Or.inl ⟨by rfl, fun w9 hS9 => ?hy6⟩) hHeld ?rest6
   case hy6 =>
    dsimp only at hS9
    obtain ⟨q0, q1, q2⟩ := hS9
    go_simp
    try with_reducible rfl
   try simp only [Act.put, set9]
   refine wpAnyH_ready (rs := [8]) (by kernel_rfl) (by simp) (AllReadyH.cons (by simp only [get9]; rfl) (fun K hK => ?_) AllReadyH.nil)
   go_simp
   refine hK.out _ _ ⟨cell_apart (cell_stay C.out.1 HB4.out) (((put_grown _ _ _ _).trans (put_grown _ _ _ _)).trans (put_grown _ _ _ _)) (by have := HZ.out; simp; try omega), cell_apart (cell_stay C.out.2.1 HB4.out) (((put_grown _ _ _ _).trans (put_grown _ _ _ _)).trans (put_grown _ _ _ _)) (by have := HZ.out; simp; try omega), cell_apart (cell_stay C.out.2.2.1 HB4.out) (((put_grown _ _ _ _).trans (put_grown _ _ _ _)).trans (put_grown _ _ _ _)) (by have := HZ.out; simp; try omega)⟩ (fun hHeld => ?_)
   clear hK K
   try simp only [Act.put, set9]
   refine wpAnyH_done (by kernel_rfl) ?_ _
   have hGoal := trivial
   clear hGoal
   have HU : Hid (OwnBl 4 (((w4.setCell ⟨W0.heap.size + 1, 0, none⟩ (.int .i64 x.st)).setCell ⟨W0.heap.size + 1, 1, none⟩ (.slice (some ⟨g4, 0, none⟩) n c4)).setCell ⟨W0.heap.size + 1, 2, none⟩ (.slice none 0 0)) W0.heap.size (some ⟨g4, 0, none⟩) n c4 x.ends) := Lib.hid (((HO4.out.set (fun ad e => by cases e; exact HGN.out) _).set (fun ad e => by cases e; exact HGN.out) _).set (fun ad e => by cases e; exact HGN.out) _)
   have HV : Hid (Below W0.heap.size W0 (((w4.setCell ⟨W0.heap.size + 1, 0, none⟩ (.int .i64 x.st)).setCell ⟨W0.heap.size + 1, 1, none⟩ (.slice (some ⟨g4, 0, none⟩) n c4)).setCell ⟨W0.heap.size + 1, 2, none⟩ (.slice none 0 0))) := Lib.hid (((HB4.out.setCell (by dsimp only; omega) _).setCell (by dsimp only; omega) _).setCell (by dsimp only; omega) _)
   have HP5 := Lib.hid HP4.out.2.2.2
   have hs9 : (((w4.setCell ⟨W0.heap.size + 1, 0, none⟩ (.int .i64 x.st)).setCell ⟨W0.heap.size + 1, 1, none⟩ (.slice (some ⟨g4, 0, none⟩) n c4)).setCell ⟨W0.heap.size + 1, 2, none⟩ (.slice none 0 0)).heap.size = w4.heap.size := by simp
   clear m0 m1 m2 f0 f1 f2 HP4
   generalize ((w4.setCell ⟨W0.heap.size + 1, 0, none⟩ (.int .i64 x.st)).setCell ⟨W0.heap.size + 1, 1, none⟩ (.slice (some ⟨g4, 0, none⟩) n c4)).setCell ⟨W0.heap.size + 1, 2, none⟩ (.slice none 0 0) = W1 at *
   obtain ⟨G, hGe⟩ : ∃ G, G = W0.heap.size + 1 := ⟨_, rfl⟩
   have HT : Hid (W1.heap[G]? = some (.cells #[.int .i64 x.st, .slice (some ⟨g4, 0, none⟩) n c4, .slice none 0 0] 27 (0, 0))) := Lib.hid (by rw [hGe]; exact HP5.out)
   have HBW : Hid (Below W0.heap.size W0 W1) := Lib.hid HV.out
   have HEW : Hid (OwnBl 4 W1 W0.heap.size (some ⟨g4, 0, none⟩) n c4 x.ends) := Lib.hid HU.out
   have HNN : Hid (g4 ≠ G ∧ W0.heap.size ≤ G ∧ G < W1.heap.size) := Lib.hid (by
    have h1 := HGN.out
    have h2 := HM4.out
    have h3 : W0.heap.size + 1 < w4.heap.size := (Array.getElem?_eq_some_iff.1 h2).1
    omega)
   rw [← hGe]
   clear hGe HM4 HGN HP5 HU HV hs9
   go_wp2
   go_loopw [4] (fun i wr => ∃ j : Nat, j ≤ m ∧ i = .int .i64 j ∧ (∃ q y, wr.heap[G]? = some (.cells #[.int .i64 x.st, .slice (some ⟨g4, 0, none⟩) n c4, .slice q j y] 27 (0, 0)) ∧ OwnM 63 wr W1.heap.size q j y ((x.moves.map Mv.neg).take j)) ∧ Inside G (G + 1) W1 wr) (fun i _ => m - (intOf i).toNat)
   case atStart => exact ⟨0, Nat.zero_le _, rfl, ⟨none, 0, HT.out, by simpa using OwnI.nil⟩, Inside.refl _ _ _⟩
   case round =>
    obtain ⟨j, hj, rfl, ⟨q, y, hT1, ho⟩, hi⟩ := hrel
    have HB9 : Hid (Below W0.heap.size W0 wr) := Lib.hid (hi.to HBW.out HNN.out.2.1 HBW.out.size)
    have hX1 : wr.heap[w.heap.size]? = some (.cells #[.int .i64 x.st, .slice a n c, .slice b m d] 27 (0, 0)) := (HB9.out.block _ (by have := HZ.out; omega)).trans HX.out
    have hM1 : wr.heap[w.heap.size + 1]? = some (.cells #[.int .i64 0, .slice none 0 0, .slice none 0 0] 27 (0, 0)) := (HB9.out.block _ (by have := HZ.out; omega)).trans HM.out
    obtain ⟨t0, t1, t2, tf0, tf1, tf2⟩ := three_cells hT1
    obtain ⟨_, _, b2, _, _, _⟩ := three_cells hX1
    have HO := Lib.hid ho
    have HJ := Lib.hid hi
    have HT1 := Lib.hid hT1
    have HM1 := Lib.hid hM1
    clear ho hi hT1 hX1 hM1
    by_cases hlt : j < m
    ·obtain ⟨b1, o1, z, rfl, hx, hc0, hc1, hc2, hc3⟩ := mvs_at (H2.out.same HB9.out) hlt
     have HXJ := Lib.hid hx
     have t3 := cell_stay t2 (alloc_same wr (.cells #[.int .i64 z.frm, .bool (!z.send), .int .i64 z.msg, .int .i64 z.to] 63))
     have HOA2 : Hid (OwnM 63 ((wr.alloc (.cells #[.int .i64 z.frm, .bool (!z.send), .int .i64 z.msg, .int .i64 z.to] 63)).alloc (.cells z.neg.enc.toArray 63)) W1.heap.size q j y ((x.moves.map Mv.neg).take j)) := Lib.hid ((HO.out.alloc _).alloc _)
     have HN2 : Hid (Mvs ((wr.alloc (.cells #[.int .i64 z.frm, .bool (!z.send), .int .i64 z.msg, .int .i64 z.to] 63)).alloc (.cells z.neg.enc.toArray 63)) (some ⟨wr.heap.size + 1, 0, none⟩) 1 [z.neg]) := by
      have := items_new (enc := Mv.enc) (s := 4) Mv.enc_len (wr.alloc (.cells #[.int .i64 z.frm, .bool (!z.send), .int .i64 z.msg, .int .i64 z.to] 63)) z.neg 63
      rw [World.size_alloc] at this
      exact Lib.hid this
     have hsW := HJ.out.size
     clear hx
     go_wp2_with (at_builtin; refine wpl_appI _ Mv.enc_len (by omega) Mv.cells rfl (.tmp 30) (.tmp 32) 25 rfl 63 i1 (.agg #[.int .i64 0, .bool false, .int .i64 0, .int .i64 0]) 32 Try.underlying25 HI1.out.1 HI1.out.2.1 HI1.out.2.2.1 HI1.out.2.2.2 rfl rfl HOA2.out rfl HN2.out (by omega) ?c6 ?c7 ?_)
     case c6 => omega
     case c7 => simp; omega
     intro q5 y5 w5 ho5 hb5
     have HB5 : Hid (Below W1.heap.size wr w5) := Lib.hid ((((Below.refl _ wr).alloc (by omega) _).alloc (by simp; omega) _).trans hb5)
     have hT5 : w5.heap[G]? = some (.cells #[.int .i64 x.st, .slice (some ⟨g4, 0, none⟩) n c4, .slice q j y] 27 (0, 0)) := (HB5.out.block _ HNN.out.2.2).trans HT1.out
     have HO5 : Hid (OwnM 63 (w5.setCell ⟨G, 2, none⟩ (.slice q5 (j + 1 : Nat) y5)) W1.heap.size q5 (j + 1) y5 ((x.moves.map Mv.neg).take (j + 1))) := Lib.hid (by
      have e9 : (x.moves.map Mv.neg).take (j + 1) = (x.moves.map Mv.neg).take j ++ [z.neg] := by rw [List.take_add_one, List.getElem?_map, HXJ.out]; rfl
      rw [e9]
      exact ho5.set (p := ⟨G, 2, none⟩) (fun ad e => by have := (ho5.span ad e).1; have := HNN.out.2.2; dsimp only; omega) _)
     have HT6 := Lib.hid (heap_setCell_same w5 G 2 _ _ (.slice q5 (j + 1 : Nat) y5) hT5)
     have HJ6 : Hid (Inside G (G + 1) W1 (w5.setCell ⟨G, 2, none⟩ (.slice q5 (j + 1 : Nat) y5))) := Lib.hid ((HJ.out.below HB5.out).trans (Inside.row (put_grown _ _ _ _) (fun r e => by cases e; omega)))
     obtain ⟨_, _, s2, _, _, sf2⟩ := three_cells hT5
     clear ho5 hb5 hT5 t0 t1 t2 t3 tf0 tf1 tf2 b2 hc0 hc1 hc2 hc3
     go_wp2_with fail
     go_roundw
     case rel => exact ⟨j + 1, by omega, by go_num, ⟨q5, y5, HT6.out, HO5.out⟩, HJ6.out⟩
     case measure => simp [intOf]; omega
    ·obtain rfl : j = m := by omega
     obtain ⟨m0, m1, m2, f0, f1, f2⟩ := three_cells HM1.out
     obtain ⟨z0, z1, z2, hZ⟩ := three_put HM1.out (.int .i64 x.st) (.slice (some ⟨g4, 0, none⟩) n c4) (.slice q j y)
     have hq : ∀ ad, (some ⟨g4, 0, none⟩ : Option Addr) = some ad → ad.block ≠ w.heap.size + 1 := fun ad e => by
      have h1 := (HEW.out.span ad e).1
      have := HZ.out
      omega
     have hp : ∀ ad, q = some ad → ad.block ≠ w.heap.size + 1 := fun ad e => by
      have h1 := (HO.out.span ad e).1
      have := HZ.out
      have := HNN.out
      omega
     have HF : Hid (OwnM 63 wr W1.heap.size q j y (x.moves.map Mv.neg)) := Lib.hid (by
      have h1 := HO.out
      rw [List.take_of_length_le (by rw [List.length_map]; have := HE.out.2; omega)] at h1
      exact h1)
     have HE3 : Hid (OwnBl 4 wr W0.heap.size (some ⟨g4, 0, none⟩) n c4 x.ends) := Lib.hid (by
      have hn9 := HNN.out
      exact HEW.out.aside HJ.out (lo' := g4) (hi' := g4 + 1) (fun ad e => by cases e; exact ⟨Nat.le_refl _, Nat.lt_succ_self _⟩) (by omega))
     have HW9 := Lib.hid (HB.out.trans (HB9.out.mono HB.out.size))
     have hsr := HB9.out.size
     have hsW := HJ.out.size
     have hsb := HB.out.size
     clear hZ
     go_wp2_with fail
     (try simp only [Exit.inBlock, Exit.then])
     refine bodyPost_ret (by simp [results, Try.results99, go_sem, z0, z1, z2]; try rfl) rfl ?_
     refine ⟨_, rfl, ⟨_, n, c4, q, j, y, rfl, (((HE3.out.set hq _).set hq _).set hq _).lower hsb, (((HF.out.set hp _).set hp _).set hp _).lower (by have := HNN.out; omega), fun f g ef eg => ?_, ?_, ?_, Nat.le_refl _, HE3.out.room, HF.out.room⟩, ((HW9.out.setCell (by dsimp only; omega) _).setCell (by dsimp only; omega) _).setCell (by dsimp only; omega) _⟩
     ·have h1 := HEW.out.span f ef
      have h2 := HO.out.span g eg
      omega
     ·exact fun ad e => by
       have h1 := HE3.out.span ad e
       simp only [World.size_setCell]
       omega
     ·exact fun ad e => by
       have h1 := HF.out.span ad e
       have := HNN.out
       simp only [World.size_setCell]
       omega
 ·skip
  go_simp
  refine hK.out _ _ ⟨cell_stay C.out.1 (HBZ.out), cell_stay C.out.2.1 (HBZ.out), cell_stay C.out.2.2.1 (HBZ.out)⟩ (fun hHeld => ?_)
  clear hK K
  try simp only [Act.put, set9]
  refine wpAnyH_ready (rs := [2]) (by kernel_rfl) (by simp) (AllReadyH.cons (by simp only [get9]; rfl) (fun K hK => ?_) AllReadyH.nil)
  go_simp
  refine hK.out _ _ ⟨cell_stay C.out.1 (HBA.out), cell_stay C.out.2.1 (HBA.out), cell_stay C.out.2.2.1 (HBA.out)⟩ (fun hHeld => ?_)
  clear hK K
  try simp only [Act.put, set9]
  refine wpAnyH_ready (rs := [5]) (by kernel_rfl) (by simp) (AllReadyH.cons (by simp only [get9]; rfl) (fun K hK => ?_) AllReadyH.nil)
  refine step_app_someI _ blEnc_len (by omega) blEnc_one (by rfl) (.tmp 8) (.tmp 10) 24 (by rfl) 4 i0 (.bool false) 1 Try.underlying24 HI.out.1 HI.out.2.1 HI.out.2.2.1 HI.out.2.2.2 rfl (by rfl) HOA.out (by rfl) (H1.out.same HBA.out) (by omega) (by omega) HBA.out.size ?_
  intro g4 c4 w4 ho4 hg4 hgg
  rw [Nat.zero_add, List.nil_append] at ho4
  have HO4 := Lib.hid ho4
  have HB4 : Hid (Below W0.heap.size W0 w4) := Lib.hid (grown_to (b := some ⟨W0.heap.size + 1, 0, none⟩) (m := 0) (d := 0) hg4 HBA.out HOA.out.span (Nat.le_refl _) HBA.out.size)
  have HS4 : Hid (Span (some ⟨g4, 0, none⟩) W0.heap.size w4.heap.size) := Lib.hid ho4.span
  have HGN : Hid (g4 ≠ W0.heap.size) := Lib.hid (by rcases hgg with e | e <;> (try simp at e) <;> omega)
  have HM4 : Hid (w4.heap[W0.heap.size]? = some (.cells #[.int .i64 0, .slice none 0 0, .slice none 0 0] 27 (0, 0))) := Lib.hid ((hg4.block _ (by simp; try omega) (by simp; try omega)).trans HMA.out)
  obtain ⟨m0, m1, m2, f0, f1, f2⟩ := three_cells HM4.out
  have HP4 := Lib.hid (three_put HM4.out (.int .i64 x.st) (.slice (some ⟨g4, 0, none⟩) n c4) (.slice none 0 0))
  clear ho4 hg4 hgg
  refine hK.out _ _ ⟨cell_stay C.out.1 (HB4.out), cell_stay C.out.2.1 (HB4.out), cell_stay C.out.2.2.1 (HB4.out)⟩ (fun hHeld => ?_)
  clear hK K
  try simp only [Act.put, set9]
  refine wpAnyH_take (i := 6) (v := ?v7) (by simp only [get9]; rfl) (by kernel_rfl) (by kernel_rfl) (by kernel_rfl) (by exact fun _ _ _ h => h) (Or.inl ⟨by rfl, fun w9 hS9 => ?hy7⟩) hHeld ?rest7
  case hy7 =>
   dsimp only at hS9
   obtain ⟨q0, q1, q2⟩ := hS9
   go_simp
   try with_reducible rfl
  try simp only [Act.put, set9]
  refine wpAnyH_ready (rs := [8]) (by kernel_rfl) (by simp) (AllReadyH.cons (by simp only [get9]; rfl) (fun K hK => ?_) AllReadyH.nil)
  go_simp
  refine hK.out _ _ ⟨cell_apart (cell_stay C.out.1 HB4.out) (((put_grown _ _ _ _).trans (put_grown _ _ _ _)).trans (put_grown _ _ _ _)) (by have := HZ.out; simp; try omega), cell_apart (cell_stay C.out.2.1 HB4.out) (((put_grown _ _ _ _).trans (put_grown _ _ _ _)).trans (put_grown _ _ _ _)) (by have := HZ.out; simp; try omega), cell_apart (cell_stay C.out.2.2.1 HB4.out) (((put_grown _ _ _ _).trans (put_grown _ _ _ _)).trans (put_grown _ _ _ _)) (by have := HZ.out; simp; try omega)⟩ (fun hHeld => ?_)
  clear hK K
  try simp only [Act.put, set9]
  refine wpAnyH_done (by kernel_rfl) ?_ _
  have hGoal := trivial
  clear hGoal
  have HU : Hid (OwnBl 4 (((w4.setCell ⟨W0.heap.size, 0, none⟩ (.int .i64 x.st)).setCell ⟨W0.heap.size, 1, none⟩ (.slice (some ⟨g4, 0, none⟩) n c4)).setCell ⟨W0.heap.size, 2, none⟩ (.slice none 0 0)) W0.heap.size (some ⟨g4, 0, none⟩) n c4 x.ends) := Lib.hid (((HO4.out.set (fun ad e => by cases e; exact HGN.out) _).set (fun ad e => by cases e; exact HGN.out) _).set (fun ad e => by cases e; exact HGN.out) _)
  have HV : Hid (Below W0.heap.size W0 (((w4.setCell ⟨W0.heap.size, 0, none⟩ (.int .i64 x.st)).setCell ⟨W0.heap.size, 1, none⟩ (.slice (some ⟨g4, 0, none⟩) n c4)).setCell ⟨W0.heap.size, 2, none⟩ (.slice none 0 0))) := Lib.hid (((HB4.out.setCell (by dsimp only; omega) _).setCell (by dsimp only; omega) _).setCell (by dsimp only; omega) _)
  have HP5 := Lib.hid HP4.out.2.2.2
  have hs9 : (((w4.setCell ⟨W0.heap.size, 0, none⟩ (.int .i64 x.st)).setCell ⟨W0.heap.size, 1, none⟩ (.slice (some ⟨g4, 0, none⟩) n c4)).setCell ⟨W0.heap.size, 2, none⟩ (.slice none 0 0)).heap.size = w4.heap.size := by simp
  clear m0 m1 m2 f0 f1 f2 HP4
  generalize ((w4.setCell ⟨W0.heap.size, 0, none⟩ (.int .i64 x.st)).setCell ⟨W0.heap.size, 1, none⟩ (.slice (some ⟨g4, 0, none⟩) n c4)).setCell ⟨W0.heap.size, 2, none⟩ (.slice none 0 0) = W1 at *
  obtain ⟨G, hGe⟩ : ∃ G, G = W0.heap.size := ⟨_, rfl⟩
  have HT : Hid (W1.heap[G]? = some (.cells #[.int .i64 x.st, .slice (some ⟨g4, 0, none⟩) n c4, .slice none 0 0] 27 (0, 0))) := Lib.hid (by rw [hGe]; exact HP5.out)
  have HBW : Hid (Below W0.heap.size W0 W1) := Lib.hid HV.out
  have HEW : Hid (OwnBl 4 W1 W0.heap.size (some ⟨g4, 0, none⟩) n c4 x.ends) := Lib.hid HU.out
  have HNN : Hid (g4 ≠ G ∧ W0.heap.size ≤ G ∧ G < W1.heap.size) := Lib.hid (by
   have h1 := HGN.out
   have h2 := HM4.out
   have h3 : W0.heap.size < w4.heap.size := (Array.getElem?_eq_some_iff.1 h2).1
   omega)
  rw [← hGe]
  clear hGe HM4 HGN HP5 HU HV hs9
  go_wp2
  go_loopw [4] (fun i wr => ∃ j : Nat, j ≤ m ∧ i = .int .i64 j ∧ (∃ q y, wr.heap[G]? = some (.cells #[.int .i64 x.st, .slice (some ⟨g4, 0, none⟩) n c4, .slice q j y] 27 (0, 0)) ∧ OwnM 63 wr W1.heap.size q j y ((x.moves.map Mv.neg).take j)) ∧ Inside G (G + 1) W1 wr) (fun i _ => m - (intOf i).toNat)
  case atStart => exact ⟨0, Nat.zero_le _, rfl, ⟨none, 0, HT.out, by simpa using OwnI.nil⟩, Inside.refl _ _ _⟩
  case round =>
   obtain ⟨j, hj, rfl, ⟨q, y, hT1, ho⟩, hi⟩ := hrel
   have HB9 : Hid (Below W0.heap.size W0 wr) := Lib.hid (hi.to HBW.out HNN.out.2.1 HBW.out.size)
   have hX1 : wr.heap[w.heap.size]? = some (.cells #[.int .i64 x.st, .slice a n c, .slice b m d] 27 (0, 0)) := (HB9.out.block _ (by have := HZ.out; omega)).trans HX.out
   have hM1 : wr.heap[w.heap.size + 1]? = some (.cells #[.int .i64 0, .slice none 0 0, .slice none 0 0] 27 (0, 0)) := (HB9.out.block _ (by have := HZ.out; omega)).trans HM.out
   obtain ⟨t0, t1, t2, tf0, tf1, tf2⟩ := three_cells hT1
   obtain ⟨_, _, b2, _, _, _⟩ := three_cells hX1
   have HO := Lib.hid ho
   have HJ := Lib.hid hi
   have HT1 := Lib.hid hT1
   have HM1 := Lib.hid hM1
   clear ho hi hT1 hX1 hM1
   by_cases hlt : j < m
   ·obtain ⟨b1, o1, z, rfl, hx, hc0, hc1, hc2, hc3⟩ := mvs_at (H2.out.same HB9.out) hlt
    have HXJ := Lib.hid hx
    have t3 := cell_stay t2 (alloc_same wr (.cells #[.int .i64 z.frm, .bool (!z.send), .int .i64 z.msg, .int .i64 z.to] 63))
    have HOA2 : Hid (OwnM 63 ((wr.alloc (.cells #[.int .i64 z.frm, .bool (!z.send), .int .i64 z.msg, .int .i64 z.to] 63)).alloc (.cells z.neg.enc.toArray 63)) W1.heap.size q j y ((x.moves.map Mv.neg).take j)) := Lib.hid ((HO.out.alloc _).alloc _)
    have HN2 : Hid (Mvs ((wr.alloc (.cells #[.int .i64 z.frm, .bool (!z.send), .int .i64 z.msg, .int .i64 z.to] 63)).alloc (.cells z.neg.enc.toArray 63)) (some ⟨wr.heap.size + 1, 0, none⟩) 1 [z.neg]) := by
     have := items_new (enc := Mv.enc) (s := 4) Mv.enc_len (wr.alloc (.cells #[.int .i64 z.frm, .bool (!z.send), .int .i64 z.msg, .int .i64 z.to] 63)) z.neg 63
     rw [World.size_alloc] at this
     exact Lib.hid this
    have hsW := HJ.out.size
    clear hx
    go_wp2_with (at_builtin; refine wpl_appI _ Mv.enc_len (by omega) Mv.cells rfl (.tmp 30) (.tmp 32) 25 rfl 63 i1 (.agg #[.int .i64 0, .bool false, .int .i64 0, .int .i64 0]) 32 Try.underlying25 HI1.out.1 HI1.out.2.1 HI1.out.2.2.1 HI1.out.2.2.2 rfl rfl HOA2.out rfl HN2.out (by omega) ?c6 ?c7 ?_)
    case c6 => omega
    case c7 => simp; omega
    intro q5 y5 w5 ho5 hb5
    have HB5 : Hid (Below W1.heap.size wr w5) := Lib.hid ((((Below.refl _ wr).alloc (by omega) _).alloc (by simp; omega) _).trans hb5)
    have hT5 : w5.heap[G]? = some (.cells #[.int .i64 x.st, .slice (some ⟨g4, 0, none⟩) n c4, .slice q j y] 27 (0, 0)) := (HB5.out.block _ HNN.out.2.2).trans HT1.out
    have HO5 : Hid (OwnM 63 (w5.setCell ⟨G, 2, none⟩ (.slice q5 (j + 1 : Nat) y5)) W1.heap.size q5 (j + 1) y5 ((x.moves.map Mv.neg).take (j + 1))) := Lib.hid (by
     have e9 : (x.moves.map Mv.neg).take (j + 1) = (x.moves.map Mv.neg).take j ++ [z.neg] := by rw [List.take_add_one, List.getElem?_map, HXJ.out]; rfl
     rw [e9]
     exact ho5.set (p := ⟨G, 2, none⟩) (fun ad e => by have := (ho5.span ad e).1; have := HNN.out.2.2; dsimp only; omega) _)
    have HT6 := Lib.hid (heap_setCell_same w5 G 2 _ _ (.slice q5 (j + 1 : Nat) y5) hT5)
    have HJ6 : Hid (Inside G (G + 1) W1 (w5.setCell ⟨G, 2, none⟩ (.slice q5 (j + 1 : Nat) y5))) := Lib.hid ((HJ.out.below HB5.out).trans (Inside.row (put_grown _ _ _ _) (fun r e => by cases e; omega)))
    obtain ⟨_, _, s2, _, _, sf2⟩ := three_cells hT5
    clear ho5 hb5 hT5 t0 t1 t2 t3 tf0 tf1 tf2 b2 hc0 hc1 hc2 hc3
    go_wp2_with fail
    go_roundw
    case rel => exact ⟨j + 1, by omega, by go_num, ⟨q5, y5, HT6.out, HO5.out⟩, HJ6.out⟩
    case measure => simp [intOf]; omega
   ·obtain rfl : j = m := by omega
    obtain ⟨m0, m1, m2, f0, f1, f2⟩ := three_cells HM1.out
    obtain ⟨z0, z1, z2, hZ⟩ := three_put HM1.out (.int .i64 x.st) (.slice (some ⟨g4, 0, none⟩) n c4) (.slice q j y)
    have hq : ∀ ad, (some ⟨g4, 0, none⟩ : Option Addr) = some ad → ad.block ≠ w.heap.size + 1 := fun ad e => by
     have h1 := (HEW.out.span ad e).1
     have := HZ.out
     omega
    have hp : ∀ ad, q = some ad → ad.block ≠ w.heap.size + 1 := fun ad e => by
     have h1 := (HO.out.span ad e).1
     have := HZ.out
     have := HNN.out
     omega
    have HF : Hid (OwnM 63 wr W1.heap.size q j y (x.moves.map Mv.neg)) := Lib.hid (by
     have h1 := HO.out
     rw [List.take_of_length_le (by rw [List.length_map]; have := HE.out.2; omega)] at h1
     exact h1)
    have HE3 : Hid (OwnBl 4 wr W0.heap.size (some ⟨g4, 0, none⟩) n c4 x.ends) := Lib.hid (by
     have hn9 := HNN.out
     exact HEW.out.aside HJ.out (lo' := g4) (hi' := g4 + 1) (fun ad e => by cases e; exact ⟨Nat.le_refl _, Nat.lt_succ_self _⟩) (by omega))
    have HW9 := Lib.hid (HB.out.trans (HB9.out.mono HB.out.size))
    have hsr := HB9.out.size
    have hsW := HJ.out.size
    have hsb := HB.out.size
    clear hZ
    go_wp2_with fail
    (try simp only [Exit.inBlock, Exit.then])
    refine bodyPost_ret (by simp [results, Try.results99, go_sem, z0, z1, z2]; try rfl) rfl ?_
    refine ⟨_, rfl, ⟨_, n, c4, q, j, y, rfl, (((HE3.out.set hq _).set hq _).set hq _).lower hsb, (((HF.out.set hp _).set hp _).set hp _).lower (by have := HNN.out; omega), fun f g ef eg => ?_, ?_, ?_, Nat.le_refl _, HE3.out.room, HF.out.room⟩, ((HW9.out.setCell (by dsimp only; omega) _).setCell (by dsimp only; omega) _).setCell (by dsimp only; omega) _⟩
    ·have h1 := HEW.out.span f ef
     have h2 := HO.out.span g eg
     omega
    ·exact fun ad e => by
      have h1 := HE3.out.span ad e
      simp only [World.size_setCell]
      omega
    ·exact fun ad e => by
      have h1 := HF.out.span ad e
      have := HNN.out
      simp only [World.size_setCell]
      omega

end Go.Proofs.Ytckmgbobkffabaa
namespace Go.Proofs.Ytckmgbobkffabaa
open Go.ChangeShapes Go.WideShapes Go.ChangeAt Go.RowKit
set_option linter.unusedVariables false
set_option linter.unusedSimpArgs false

/-- What every machine is that is drawn for a line of them. -/
def OnN (x : Mac) : Prop := (1 ≤ x.st ∧ x.st ≤ 4) ∧ x.ends.length ≤ 4 ∧ x.moves.length ≤ 12 ∧ ∀ z ∈ x.moves, I64 z.msg ∧ I64 z.to
theorem OnN.push {x : Mac} (h : OnN x) (h12 : x.moves.length < 12) {y : Mv} (hy : I64 y.msg ∧ I64 y.to) : OnN ⟨x.st, x.ends, x.moves ++ [y]⟩ :=
 ⟨h.1, h.2.1, by rw [List.length_append]; simp; omega, fun z hz => by
  rcases List.mem_append.1 hz with q | q
  ·exact h.2.2.2 z q
  ·rw [List.mem_singleton.1 q]; exact hy⟩
theorem OnN.cut {x : Mac} (h : OnN x) (i : Nat) : OnN ⟨x.st, x.ends, x.moves.take i ++ x.moves.drop (i + 1)⟩ :=
 ⟨h.1, h.2.1, by have := h.2.2.1; rw [List.length_append, List.length_take, List.length_drop]; omega, fun z hz => by
  rcases List.mem_append.1 hz with q | q
  ·exact h.2.2.2 z (List.mem_of_mem_take q)
  ·exact h.2.2.2 z (List.mem_of_mem_drop q)⟩
theorem OnN.half {x : Mac} (h : OnN x) (i : Nat) : OnN ⟨x.st, x.ends, x.moves.take i⟩ :=
 ⟨h.1, h.2.1, by have := h.2.2.1; rw [List.length_take]; omega, fun z hz => h.2.2.2 z (List.mem_of_mem_take hz)⟩
theorem OnN.dual {x : Mac} (h : OnN x) : OnN (dualM x) :=
 ⟨h.1, h.2.1, by have := h.2.2.1; unfold dualM; rw [List.length_map]; exact this, fun z hz => by
  obtain ⟨u, hu, rfl⟩ := List.mem_map.1 hz
  exact h.2.2.2 u hu⟩
theorem OnN.p {x : Mac} (h : OnN x) : OkP x := ⟨by have := h.2.1; omega, h.2.2.1, h.2.2.2⟩
theorem OnN.parts {x : Mac} (h : OnN x) : x.parts ≤ 16 := by have h1 := h.2.1; have h2 := h.2.2.1; unfold Mac.parts; omega
/-- What a function leaves that draws such a machine. -/
def DrewN (b : Nat) (a : Option Addr) (n c : Nat) (w : World) (e : Ending) (w' : World) : Prop :=
 ∃ v x, e = .returned v ∧ OwnMac w'.heap.size w' w.heap.size v x ∧ OnN x ∧ Drawn b a n c w w'
theorem OwnI.shrink {α : Type} {enc : α → List Value} {s : Nat} {t : TypeId} {w : World} {B n c : Nat} {a : Option Addr} {l : List α} (hs : ∀ x, (enc x).length = s) (h : OwnI enc s t w B a n c l) {i : Nat} (hi : i ≤ n) : OwnI enc s t w B a i c (l.take i) := by
 obtain ⟨h1, h2, h3⟩ := h
 have hl : (flatOf enc (l.take i)).length = i * s := by rw [flatOf_len hs, List.length_take]; congr 1; omega
 refine ⟨by rw [List.length_take]; omega, hl, ?_⟩
 rcases h3 with ⟨e, h0⟩ | ⟨g, cap, cur, e, hB, hh, hn, hm, hc, ht⟩
 ·cases e
  obtain rfl : i = 0 := by omega
  exact Or.inl ⟨rfl, rfl⟩
 ·cases e
  refine Or.inr ⟨g, _, cur, rfl, hB, hh, by omega, hm, hc, ?_⟩
  have e2 : flatOf enc l = flatOf enc (l.take i) ++ flatOf enc (l.drop i) := by rw [← flatOf_app, List.take_append_drop]
  rw [e2] at ht
  have := congrArg (List.take (i * s)) ht
  rw [List.take_take, Nat.min_eq_left (Nat.mul_le_mul_right s hi), List.take_left' hl] at this
  exact this
/-- The first moves take the place of all of them. -/
theorem BoxM.half {B G : Nat} {w : World} {x : Mac} {p q : Option Addr} {k r m d : Nat} (h : BoxM B w G x p k r q m d) {i : Nat} (hi : i ≤ m) :
  BoxM B (w.setCell ⟨G, 2, none⟩ (.slice q i d)) G ⟨x.st, x.ends, x.moves.take i⟩ p k r q i d ∧ Below B w (w.setCell ⟨G, 2, none⟩ (.slice q i d)) :=
 ⟨⟨h.base, heap_setCell_same w G 2 _ _ _ h.heap, h.ends.set (fun ad e => h.pG ad e) _, (OwnI.shrink Mv.enc_len h.moves hi).set (fun ad e => h.qG ad e) _, h.sep, h.pG, h.qG⟩, (Below.refl B w).setCell (by dsimp only; exact h.base) _⟩
/-- The machine that is being drawn. -/
structure StN (b : Nat) (a : Option Addr) (n c : Nat) (WA : World) (SB GB : Nat) (wr : World) (x : Mac) (p : Option Addr) (k r : Nat) (q : Option Addr) (m d : Nat) : Prop where
 box : BoxM SB wr GB x p k r q m d
 dr : Drawn b a n c WA wr
 cu : Curs WA b a n c
 c1 : b < WA.heap.size
 c2 : WA.heap.size ≤ SB
section
variable {b : Nat} {a : Option Addr} {n c : Nat} {WA : World} {SB GB : Nat} {wr w' : World} {x : Mac} {p : Option Addr} {k r : Nat} {q : Option Addr} {m d : Nat}
theorem StN.only (h : StN b a n c WA SB GB wr x p k r q m d) (hd : Drawn b a n c wr w') : StN b a n c WA SB GB w' x p k r q m d := by
 have h1 := h.c1
 have h2 := h.c2
 exact ⟨h.box.only hd.2 (by omega), h.dr.trans hd, h.cu, h1, h2⟩
theorem StN.same (h : StN b a n c WA SB GB wr x p k r q m d) (hb : Below wr.heap.size wr w') : StN b a n c WA SB GB w' x p k r q m d :=
 ⟨h.box.same hb, h.dr.same hb, h.cu, h.c1, h.c2⟩
theorem StN.mod (h : StN b a n c WA SB GB wr x p k r q m d) {x' : Mac} {p' : Option Addr} {k' r' : Nat} {q' : Option Addr} {m' d' : Nat} (hX : BoxM SB w' GB x' p' k' r' q' m' d') (hb : Below SB wr w') : StN b a n c WA SB GB w' x' p' k' r' q' m' d' := by
 have h1 := h.c1
 have h2 := h.c2
 exact ⟨hX, h.dr.under h.cu hb (by omega), h.cu, h1, h2⟩
theorem StN.put1 {Gm : Nat} (h : StN b a n c WA SB GB wr x p k r q m d) (hp : ∀ ad, p = some ad → ad.block ≠ Gm) (hq : ∀ ad, q = some ad → ad.block ≠ Gm) (hG : GB ≠ Gm) (hS : SB ≤ Gm) (o : Nat) (v : Value) : StN b a n c WA SB GB (wr.setCell ⟨Gm, o, none⟩ v) x p k r q m d :=
 h.mod ⟨h.box.base, (Below.heap_setCell _ _ _ _ (by dsimp only; omega)).trans h.box.heap, h.box.ends.set (fun ad e => hp ad e) _, h.box.moves.set (fun ad e => hq ad e) _, h.box.sep, h.box.pG, h.box.qG⟩ ((Below.refl SB wr).setCell (by dsimp only; omega) _)
/-- The result's box is written to. -/
theorem StN.leave {w : World} (h : StN b a n c WA SB GB wr x p k r q m d) (hc : Curs w b a n c) (hal : Below w.heap.size w WA) (hA : w.heap.size + 2 ≤ WA.heap.size) (hi : Inside w.heap.size (w.heap.size + 2) wr w') (hx : OnN x) :
  DrewN b a n c w (.returned (.agg #[.int .i64 x.st, .slice p k r, .slice q m d])) w' := by
 have h1 := h.c1
 have h2 := h.c2
 have hsz := hi.size
 have hw := h.dr.2.size
 have hb9 : Below w.heap.size wr w' := ⟨hi.os, hi.tape, hi.output, hi.size, fun k hk => hi.block k (by omega) (Or.inl hk)⟩
 refine ⟨_, x, rfl, (((h.box.out rfl (Nat.le_refl SB)).aside hi (Or.inl (by omega))).lower (by omega)).upper hsz (Nat.le_refl _), hx, ?_⟩
 exact (((Drawn.refl hc).same hal).trans h.dr).under hc hb9 (Nat.le_refl _)
end
theorem OwnI.shape9 {α : Type} {enc : α → List Value} {s : Nat} {t : TypeId} {w : World} {B n c : Nat} {a : Option Addr} {l : List α} (h : OwnI enc s t w B a n c l) : (a = none ∧ n = 0 ∧ c = 0) ∨ ∃ g, a = some ⟨g, 0, none⟩ := by
 rcases h.2.2 with ⟨e, h0⟩ | ⟨g, cap, cur, e, _⟩
 ·cases e
  exact Or.inl ⟨rfl, h0, rfl⟩
 ·cases e
  exact Or.inr ⟨g, rfl⟩
set_option maxHeartbeats 8000000 in
set_option maxRecDepth 100000 in
theorem l15Next_any (b : Nat) (a : Option Addr) (n c : Nat) (w : World) (hc : Curs w b a n c) {va : Value} {xa : Mac} (hm : MacW w va xa) (hok : OnN xa) :
  Calls Try.prog 69 #[.pointer (some ⟨b, 0, none⟩), va] w (DrewN b a n c w) := by
 have hblt := hc.lt
 obtain ⟨pa, ka, ra, qa, ma, da, rfl⟩ := hm.shape
 obtain ⟨hAL, hR0, hR1, hS⟩ := twice w #[.int .i64 xa.st, .slice pa ka ra, .slice qa ma da] #[.int .i64 0, .slice none 0 0, .slice none 0 0] 27 27
 have HAL := Lib.hid hAL
 have HR1 := Lib.hid hR1
 have HC := Lib.hid (hc.same hAL)
 have HCW := Lib.hid hc
 have HMA := Lib.hid (hm.same hAL)
 have HXA := Lib.hid hok
 have hpx := hok.parts
 have hsA : w.heap.size + 2 ≤ ((w.alloc (.cells #[.int .i64 xa.st, .slice pa ka ra, .slice qa ma da] 27)).alloc (.cells #[.int .i64 0, .slice none 0 0, .slice none 0 0] 27)).heap.size := by omega
 obtain ⟨i1, hi, hz0, hz1, hz2⟩ := info_parts infoMoveS
 have HI1 := Lib.hid (And.intro hi (And.intro hz0 (And.intro hz1 hz2)))
 obtain ⟨x0, x1, x2, -, -, -⟩ := three_cells hR0
 clear hi hz0 hz1 hz2 hc hAL hR0 hR1 hS hm hok
 go_enter Try.func69, Try.ntmps69
 go_wp2_with fail
 clear x0 x1 x2
 generalize (w.alloc (.cells #[.int .i64 xa.st, .slice pa ka ra, .slice qa ma da] 27)).alloc (.cells #[.int .i64 0, .slice none 0 0, .slice none 0 0] 27) = WA at *
 refine (specDualOf_any HMA.out (by omega)).mono ?_
 rintro e w1 ⟨v1, rfl, hod, hb1⟩
 have HOD1 := Lib.hid hod
 have HB1 := Lib.hid hb1
 have hs1 := hb1.size
 clear hod hb1
 go_wp2_with fail
 refine (specDualOf_any HOD1.out.mac (by have := HXA.out.dual.parts; omega)).mono ?_
 rintro e w2 ⟨v2, rfl, hod, hb2⟩
 obtain ⟨p0, k0, r0, q0, m0, d0, rfl⟩ := hod.shape
 have HOD := Lib.hid hod
 have HB2 := Lib.hid hb2
 have hs2 := hb2.size
 have HG2 := Lib.hid (heap_alloc_new w2 (.cells #[.int .i64 (dualM (dualM xa)).st, .slice p0 k0 r0, .slice q0 m0 d0] 27 (0, 0)))
 change Hid ((w2.alloc (.cells #[.int .i64 (dualM (dualM xa)).st, .slice p0 k0 r0, .slice q0 m0 d0] 27)).heap[w2.heap.size]? = _) at HG2
 have HA2 := Lib.hid (alloc_same w2 (.cells #[.int .i64 (dualM (dualM xa)).st, .slice p0 k0 r0, .slice q0 m0 d0] 27))
 have hblA : b < WA.heap.size := by omega
 have HS2 : Hid (StN b a n c WA w1.heap.size w2.heap.size (w2.alloc (.cells #[.int .i64 (dualM (dualM xa)).st, .slice p0 k0 r0, .slice q0 m0 d0] 27)) (dualM (dualM xa)) p0 k0 r0 q0 m0 d0) := by
  obtain ⟨_, _, _, _, _, _, ee, g1, g2, g3, g4, g5, g6, g7⟩ := HOD.out
  injection ee with ee
  simp only [Array.mk.injEq, List.cons.injEq, Value.slice.injEq, and_true] at ee
  obtain ⟨_, ⟨rfl, rfl, rfl⟩, rfl, rfl, rfl⟩ := ee
  have hbb := (HB1.out.trans (HB2.out.mono HB1.out.size)).trans (HA2.out.mono (Nat.le_trans hs1 hs2))
  refine Lib.hid ⟨⟨hs2, HG2.out, g1.alloc _, g2.alloc _, g3, fun ad e => ?_, fun ad e => ?_⟩, (Drawn.refl HC.out).same hbb, HC.out, hblA, hs1⟩
  ·have := (g4 ad e).2; omega
  ·have := (g5 ad e).2; omega
 have HO2 : Hid (OnN (dualM (dualM xa))) := Lib.hid HXA.out.dual.dual
 clear hod hb2 HG2 HOD HOD1 HB1 HMA
 go_wp2_with fail
 obtain ⟨GB, hGB⟩ : ∃ u, u = w2.heap.size := ⟨_, rfl⟩
 obtain ⟨SB, hSB⟩ : ∃ u, u = w1.heap.size := ⟨_, rfl⟩
 rw [← hGB, ← hSB] at HS2
 rw [← hGB]
 clear HB2 HA2 hs2 hSB hGB hs1
 generalize w2.alloc (.cells #[.int .i64 (dualM (dualM xa)).st, .slice p0 k0 r0, .slice q0 m0 d0] 27) = W2 at *
 refine (below_any b a n c 3 (by omega) (by omega) _ HS2.out.dr.1).mono ?_
 rintro e w3 ⟨y0, hy0, hy1, rfl, hd3⟩
 obtain ⟨j0, rfl⟩ : ∃ u : Nat, y0 = u := ⟨y0.toNat, by omega⟩
 have HS3 := Lib.hid (HS2.out.only hd3)
 clear hd3 HS2
 go_wp2_with fail
 go_loopw [6] (fun t wr => ∃ (j : Nat) (x : Mac) (p : Option Addr) (k r : Nat) (q : Option Addr) (m d : Nat), t = .int .i64 j ∧ j ≤ 2 ∧ StN b a n c WA SB GB wr x p k r q m d ∧ Hid (OnN x)) (fun t _ => (intOf t).toNat)
 case atStart => exact ⟨j0, _, _, _, _, _, _, _, rfl, by omega, HS3.out, HO2⟩
 case round =>
  clear HS3 HO2
  obtain ⟨j, x, p, k, r, q, m, d, rfl, hj, hst, HO⟩ := hrel
  have HS := Lib.hid hst
  have hml : x.moves.length = m := hst.box.moves.len
  have hm12 : m ≤ 12 := by have := HO.out.2.2.1; omega
  have hpx2 := HO.out.parts
  clear hst
  have hsw := HS.out.dr.2.size
  have hgb := HS.out.box.lt
  rcases Nat.eq_zero_or_pos j with hj0 | hj0
  ·subst hj0
   rcases OwnI.shape9 HS.out.box.moves with ⟨rfl, rfl, rfl⟩ | ⟨g, rfl⟩
   ·obtain ⟨e0, e1, e2, -, -, -⟩ := three_cells HS.out.box.heap
    go_wp2_with fail
    clear e0 e1 e2
    refine (once_any b a n c 6 (by omega) (by omega) _ HS.out.dr.1).mono ?_
    rintro e w3 ⟨t, rfl, hd3⟩
    have S3 := Lib.hid (HS.out.only hd3)
    have hs3 := S3.out.dr.2.size
    have hb3 := S3.out.c1
    clear hd3
    cases t with
    | false =>
     have hzz : w3.heap[w.heap.size + 1]? = some (.cells #[.int .i64 0, .slice none 0 0, .slice none 0 0] 27 (0, 0)) := (S3.out.dr.2.block (w.heap.size + 1) (by omega) (by omega)).trans HR1.out
     obtain ⟨m0, m1, m2, f0, f1, f2⟩ := three_cells hzz
     obtain ⟨z0, z1, z2, hZ⟩ := three_put hzz (.int .i64 x.st) (.slice p k r) (.slice none 0 0)
     have hh : w3.heap[GB]? = some (.cells #[.int .i64 x.st, .slice p k r, .slice none 0 0] 27 (0, 0)) := S3.out.box.heap
     obtain ⟨e0, e1, e2, -, -, -⟩ := three_cells hh
     clear hZ hzz hh
     go_wp2_with fail
     (try simp only [Exit.inBlock, Exit.then])
     refine bodyPost_ret (by simp [results, Try.results69, go_sem, z0, z1, z2]; try rfl) rfl ?_
     exact S3.out.leave HCW.out HAL.out hsA (Inside.row (((put_grown _ _ _ _).trans (put_grown _ _ _ _)).trans (put_grown _ _ _ _)) (fun r' e' => by cases e'; omega)) HO.out
    | true =>
     have hgb3 := S3.out.box.lt
     have hroom3 : 0 ≤ 0 ∧ ((0 : Nat) : Int) ≤ 9223372036854775807 := S3.out.box.moves.room
     have HH := Lib.hid (S3.out.box.half (i := 0) (Nat.zero_le _))
     have S4 := Lib.hid (S3.out.mod HH.out.1 HH.out.2)
     clear HH
     obtain ⟨e0, e1, e2, g0, g1, g2⟩ := three_cells S3.out.box.heap
     have hs4 := S4.out.dr.2.size
     have hzz : (w3.setCell ⟨GB, 2, none⟩ (.slice none 0 0)).heap[w.heap.size + 1]? = some (.cells #[.int .i64 0, .slice none 0 0, .slice none 0 0] 27 (0, 0)) := (S4.out.dr.2.block (w.heap.size + 1) (by omega) (by omega)).trans HR1.out
     obtain ⟨m0, m1, m2, f0, f1, f2⟩ := three_cells hzz
     obtain ⟨z0, z1, z2, hZ⟩ := three_put hzz (.int .i64 x.st) (.slice p k r) (.slice none 0 0)
     have hh : (w3.setCell ⟨GB, 2, none⟩ (.slice none 0 0)).heap[GB]? = some (.cells #[.int .i64 x.st, .slice p k r, .slice none 0 0] 27 (0, 0)) := S4.out.box.heap
     obtain ⟨d0, d1, d2, -, -, -⟩ := three_cells hh
     clear hZ hzz hh
     go_wp2_with fail
     (try simp only [Exit.inBlock, Exit.then])
     refine bodyPost_ret (by simp [results, Try.results69, go_sem, z0, z1, z2]; try rfl) rfl ?_
     exact S4.out.leave HCW.out HAL.out hsA (Inside.row (((put_grown _ _ _ _).trans (put_grown _ _ _ _)).trans (put_grown _ _ _ _)) (fun r' e' => by cases e'; omega)) (HO.out.half 0)
   ·obtain ⟨e0, e1, e2, -, -, -⟩ := three_cells HS.out.box.heap
    go_wp2_with fail
    clear e0 e1 e2
    refine (once_any b a n c 6 (by omega) (by omega) _ HS.out.dr.1).mono ?_
    rintro e w3 ⟨t, rfl, hd3⟩
    have S3 := Lib.hid (HS.out.only hd3)
    have hs3 := S3.out.dr.2.size
    have hb3 := S3.out.c1
    clear hd3
    cases t with
    | false =>
     have hzz : w3.heap[w.heap.size + 1]? = some (.cells #[.int .i64 0, .slice none 0 0, .slice none 0 0] 27 (0, 0)) := (S3.out.dr.2.block (w.heap.size + 1) (by omega) (by omega)).trans HR1.out
     obtain ⟨m0, m1, m2, f0, f1, f2⟩ := three_cells hzz
     obtain ⟨z0, z1, z2, hZ⟩ := three_put hzz (.int .i64 x.st) (.slice p k r) (.slice (some ⟨g, 0, none⟩) m d)
     have hh : w3.heap[GB]? = some (.cells #[.int .i64 x.st, .slice p k r, .slice (some ⟨g, 0, none⟩) m d] 27 (0, 0)) := S3.out.box.heap
     obtain ⟨e0, e1, e2, -, -, -⟩ := three_cells hh
     clear hZ hzz hh
     go_wp2_with fail
     (try simp only [Exit.inBlock, Exit.then])
     refine bodyPost_ret (by simp [results, Try.results69, go_sem, z0, z1, z2]; try rfl) rfl ?_
     exact S3.out.leave HCW.out HAL.out hsA (Inside.row (((put_grown _ _ _ _).trans (put_grown _ _ _ _)).trans (put_grown _ _ _ _)) (fun r' e' => by cases e'; omega)) HO.out
    | true =>
     have hgb3 := S3.out.box.lt
     have hroom3 : m ≤ d ∧ ((d : Nat) : Int) ≤ 9223372036854775807 := S3.out.box.moves.room
     obtain ⟨h, hh2⟩ : ∃ h : Nat, h = m / 2 := ⟨_, rfl⟩
     have hq1 : ((m : Nat) : Int).tdiv 2 = (h : Int) := by rw [Int.tdiv_eq_ediv_of_nonneg (by omega)]; omega
     have hq2 : ((m : Nat) : Int) / 2 = (h : Int) := by omega
     have hq3 : h ≤ m := by omega
     have hq4 : h ≤ d := by omega
     have HH := Lib.hid (S3.out.box.half hq3)
     have S4 := Lib.hid (S3.out.mod HH.out.1 HH.out.2)
     clear hh2 HH
     obtain ⟨e0, e1, e2, g0, g1, g2⟩ := three_cells S3.out.box.heap
     have hs4 := S4.out.dr.2.size
     have hzz : (w3.setCell ⟨GB, 2, none⟩ (.slice (some ⟨g, 0, none⟩) h d)).heap[w.heap.size + 1]? = some (.cells #[.int .i64 0, .slice none 0 0, .slice none 0 0] 27 (0, 0)) := (S4.out.dr.2.block (w.heap.size + 1) (by omega) (by omega)).trans HR1.out
     obtain ⟨m0, m1, m2, f0, f1, f2⟩ := three_cells hzz
     obtain ⟨z0, z1, z2, hZ⟩ := three_put hzz (.int .i64 x.st) (.slice p k r) (.slice (some ⟨g, 0, none⟩) h d)
     have hh : (w3.setCell ⟨GB, 2, none⟩ (.slice (some ⟨g, 0, none⟩) h d)).heap[GB]? = some (.cells #[.int .i64 x.st, .slice p k r, .slice (some ⟨g, 0, none⟩) h d] 27 (0, 0)) := S4.out.box.heap
     obtain ⟨d0, d1, d2, -, -, -⟩ := three_cells hh
     clear hZ hzz hh
     go_wp2_with fail
     (try simp only [Exit.inBlock, Exit.then])
     refine bodyPost_ret (by simp [results, Try.results69, go_sem, z0, z1, z2]; try rfl) rfl ?_
     exact S4.out.leave HCW.out HAL.out hsA (Inside.row (((put_grown _ _ _ _).trans (put_grown _ _ _ _)).trans (put_grown _ _ _ _)) (fun r' e' => by cases e'; omega)) (HO.out.half h)
  ·obtain ⟨j', rfl⟩ : ∃ u, j = u + 1 := ⟨j - 1, by omega⟩
   rcases Nat.eq_zero_or_pos m with hm0 | hm0
   ·subst hm0
    rcases OwnI.shape9 HS.out.box.moves with ⟨rfl, -, rfl⟩ | ⟨g, rfl⟩
    ·obtain ⟨e0, e1, e2, -, -, -⟩ := three_cells HS.out.box.heap
     go_wp2_with fail
     clear e0 e1 e2
     refine (once_any b a n c 6 (by omega) (by omega) _ HS.out.dr.1).mono ?_
     rintro e w3 ⟨t, rfl, hd3⟩
     have S3 := Lib.hid (HS.out.only hd3)
     have hs3 := S3.out.dr.2.size
     have hb3 := S3.out.c1
     clear hd3
     cases t with
     | false =>
      have hzz : w3.heap[w.heap.size + 1]? = some (.cells #[.int .i64 0, .slice none 0 0, .slice none 0 0] 27 (0, 0)) := (S3.out.dr.2.block (w.heap.size + 1) (by omega) (by omega)).trans HR1.out
      obtain ⟨m0, m1, m2, f0, f1, f2⟩ := three_cells hzz
      obtain ⟨z0, z1, z2, hZ⟩ := three_put hzz (.int .i64 x.st) (.slice p k r) (.slice none 0 0)
      have hh : w3.heap[GB]? = some (.cells #[.int .i64 x.st, .slice p k r, .slice none 0 0] 27 (0, 0)) := S3.out.box.heap
      obtain ⟨e0, e1, e2, -, -, -⟩ := three_cells hh
      clear hZ hzz hh
      go_wp2_with fail
      (try simp only [Exit.inBlock, Exit.then])
      refine bodyPost_ret (by simp [results, Try.results69, go_sem, z0, z1, z2]; try rfl) rfl ?_
      exact S3.out.leave HCW.out HAL.out hsA (Inside.row (((put_grown _ _ _ _).trans (put_grown _ _ _ _)).trans (put_grown _ _ _ _)) (fun r' e' => by cases e'; omega)) HO.out
     | true =>
      have hgb3 := S3.out.box.lt
      have hroom3 : 0 ≤ 0 ∧ ((0 : Nat) : Int) ≤ 9223372036854775807 := S3.out.box.moves.room
      have HH := Lib.hid (S3.out.box.half (i := 0) (Nat.zero_le _))
      have S4 := Lib.hid (S3.out.mod HH.out.1 HH.out.2)
      clear HH
      obtain ⟨e0, e1, e2, g0, g1, g2⟩ := three_cells S3.out.box.heap
      have hs4 := S4.out.dr.2.size
      have hzz : (w3.setCell ⟨GB, 2, none⟩ (.slice none 0 0)).heap[w.heap.size + 1]? = some (.cells #[.int .i64 0, .slice none 0 0, .slice none 0 0] 27 (0, 0)) := (S4.out.dr.2.block (w.heap.size + 1) (by omega) (by omega)).trans HR1.out
      obtain ⟨m0, m1, m2, f0, f1, f2⟩ := three_cells hzz
      obtain ⟨z0, z1, z2, hZ⟩ := three_put hzz (.int .i64 x.st) (.slice p k r) (.slice none 0 0)
      have hh : (w3.setCell ⟨GB, 2, none⟩ (.slice none 0 0)).heap[GB]? = some (.cells #[.int .i64 x.st, .slice p k r, .slice none 0 0] 27 (0, 0)) := S4.out.box.heap
      obtain ⟨d0, d1, d2, -, -, -⟩ := three_cells hh
      clear hZ hzz hh
      go_wp2_with fail
      (try simp only [Exit.inBlock, Exit.then])
      refine bodyPost_ret (by simp [results, Try.results69, go_sem, z0, z1, z2]; try rfl) rfl ?_
      exact S4.out.leave HCW.out HAL.out hsA (Inside.row (((put_grown _ _ _ _).trans (put_grown _ _ _ _)).trans (put_grown _ _ _ _)) (fun r' e' => by cases e'; omega)) (HO.out.half 0)
    ·obtain ⟨e0, e1, e2, -, -, -⟩ := three_cells HS.out.box.heap
     go_wp2_with fail
     clear e0 e1 e2
     refine (once_any b a n c 6 (by omega) (by omega) _ HS.out.dr.1).mono ?_
     rintro e w3 ⟨t, rfl, hd3⟩
     have S3 := Lib.hid (HS.out.only hd3)
     have hs3 := S3.out.dr.2.size
     have hb3 := S3.out.c1
     clear hd3
     cases t with
     | false =>
      have hzz : w3.heap[w.heap.size + 1]? = some (.cells #[.int .i64 0, .slice none 0 0, .slice none 0 0] 27 (0, 0)) := (S3.out.dr.2.block (w.heap.size + 1) (by omega) (by omega)).trans HR1.out
      obtain ⟨m0, m1, m2, f0, f1, f2⟩ := three_cells hzz
      obtain ⟨z0, z1, z2, hZ⟩ := three_put hzz (.int .i64 x.st) (.slice p k r) (.slice (some ⟨g, 0, none⟩) 0 d)
      have hh : w3.heap[GB]? = some (.cells #[.int .i64 x.st, .slice p k r, .slice (some ⟨g, 0, none⟩) 0 d] 27 (0, 0)) := S3.out.box.heap
      obtain ⟨e0, e1, e2, -, -, -⟩ := three_cells hh
      clear hZ hzz hh
      go_wp2_with fail
      (try simp only [Exit.inBlock, Exit.then])
      refine bodyPost_ret (by simp [results, Try.results69, go_sem, z0, z1, z2]; try rfl) rfl ?_
      exact S3.out.leave HCW.out HAL.out hsA (Inside.row (((put_grown _ _ _ _).trans (put_grown _ _ _ _)).trans (put_grown _ _ _ _)) (fun r' e' => by cases e'; omega)) HO.out
     | true =>
      have hgb3 := S3.out.box.lt
      have hroom3 : 0 ≤ d ∧ ((d : Nat) : Int) ≤ 9223372036854775807 := S3.out.box.moves.room
      have HH := Lib.hid (S3.out.box.half (i := 0) (Nat.zero_le _))
      have S4 := Lib.hid (S3.out.mod HH.out.1 HH.out.2)
      clear HH
      obtain ⟨e0, e1, e2, g0, g1, g2⟩ := three_cells S3.out.box.heap
      have hs4 := S4.out.dr.2.size
      have hzz : (w3.setCell ⟨GB, 2, none⟩ (.slice (some ⟨g, 0, none⟩) 0 d)).heap[w.heap.size + 1]? = some (.cells #[.int .i64 0, .slice none 0 0, .slice none 0 0] 27 (0, 0)) := (S4.out.dr.2.block (w.heap.size + 1) (by omega) (by omega)).trans HR1.out
      obtain ⟨m0, m1, m2, f0, f1, f2⟩ := three_cells hzz
      obtain ⟨z0, z1, z2, hZ⟩ := three_put hzz (.int .i64 x.st) (.slice p k r) (.slice (some ⟨g, 0, none⟩) 0 d)
      have hh : (w3.setCell ⟨GB, 2, none⟩ (.slice (some ⟨g, 0, none⟩) 0 d)).heap[GB]? = some (.cells #[.int .i64 x.st, .slice p k r, .slice (some ⟨g, 0, none⟩) 0 d] 27 (0, 0)) := S4.out.box.heap
      obtain ⟨d0, d1, d2, -, -, -⟩ := three_cells hh
      clear hZ hzz hh
      go_wp2_with fail
      (try simp only [Exit.inBlock, Exit.then])
      refine bodyPost_ret (by simp [results, Try.results69, go_sem, z0, z1, z2]; try rfl) rfl ?_
      exact S4.out.leave HCW.out HAL.out hsA (Inside.row (((put_grown _ _ _ _).trans (put_grown _ _ _ _)).trans (put_grown _ _ _ _)) (fun r' e' => by cases e'; omega)) (HO.out.half 0)
   ·obtain ⟨g, eg, -, -⟩ := HS.out.box.moves.head hm0
    subst eg
    have hm0I : (0 : Int) < (m : Int) := by omega
    have hm0B : decide ((m : Int) > 0) = true := decide_eq_true hm0I
    obtain ⟨e0, e1, e2, -, -, -⟩ := three_cells HS.out.box.heap
    go_wp2_with fail
    clear e0 e1 e2 hm0B
    refine (below_any b a n c m (by omega) (by omega) _ HS.out.dr.1).mono ?_
    rintro e W3 ⟨y3, hy0, hy1, rfl, hd3⟩
    obtain ⟨i, rfl⟩ : ∃ u : Nat, y3 = u := ⟨y3.toNat, by omega⟩
    have HS3 := Lib.hid (HS.out.only hd3)
    have hil : i < m := by omega
    have hiI : (i : Int) < (m : Int) := by omega
    clear hd3 hy0 hy1 HS
    obtain ⟨⟨zf, zs, zm, zt⟩, hz⟩ : ∃ z, x.moves[i]? = some z := ⟨_, List.getElem?_eq_getElem (by omega)⟩
    obtain ⟨b5, o5, z', e5, hz', c0, c1, c2, c3⟩ := mvs_at (HS3.out.box.moves.items Mv.enc_len) hil
    cases e5
    rw [hz] at hz'
    cases hz'
    simp only [Nat.zero_add] at c0 c1 c2 c3
    have CZ := Lib.hid (And.intro c0 (And.intro c1 (And.intro c2 c3)))
    have hroom : m ≤ d ∧ (d : Int) ≤ 9223372036854775807 := HS3.out.box.moves.room
    have hst1 : 1 ≤ x.st ∧ x.st ≤ 4 := HO.out.1
    have hsw4 := HS3.out.dr.2.size
    have hgb4 := HS3.out.box.lt
    have hbx1 := HS3.out.c1
    have hbx2 := HS3.out.c2
    have hbx6 := HS3.out.box.base
    clear c0 c1 c2 c3
    cases zs with
    | true =>
     have HZ := Lib.hid hz
     have HZM := Lib.hid (HO.out.2.2.2 _ (List.mem_of_getElem? hz))
     obtain ⟨c0, c1, c2, c3⟩ := CZ.out
     obtain ⟨e0, e1, e2, -, -, -⟩ := three_cells HS3.out.box.heap
     have G5 := Lib.hid (heap_alloc_new W3 (.cells #[.int .i64 zf, .bool true, .int .i64 zm, .int .i64 zt] 63 (0, 0)))
     change Hid ((W3.alloc (.cells #[.int .i64 zf, .bool true, .int .i64 zm, .int .i64 zt] 63)).heap[W3.heap.size]? = _) at G5
     have S5 := Lib.hid (HS3.out.same (alloc_same W3 (.cells #[.int .i64 zf, .bool true, .int .i64 zm, .int .i64 zt] 63)))
     have hs45 : W3.heap.size < (W3.alloc (.cells #[.int .i64 zf, .bool true, .int .i64 zm, .int .i64 zt] 63)).heap.size := by simp
     obtain ⟨d0, d1, d2, d3⟩ := four_at9 G5.out
     obtain ⟨g0, g1, g2, -, -, -⟩ := three_cells S5.out.box.heap
     go_wp2_with fail
     clear c0 c1 c2 c3 e0 e1 e2 d0 d1 d2 d3 g0 g1 g2
     obtain ⟨Gm, hGm⟩ : ∃ u, u = W3.heap.size := ⟨_, rfl⟩
     have hpG : Hid (∀ ad, p = some ad → ad.block ≠ Gm) := Lib.hid fun ad e => by have := (HS3.out.box.ends.span ad e).2; omega
     have hqG : Hid (∀ ad, some (⟨g, 0, none⟩ : Addr) = some ad → ad.block ≠ Gm) := Lib.hid fun ad e => by have := (HS3.out.box.moves.span ad e).2; omega
     rw [← hGm] at G5
     rw [← hGm]
     have hGm2 : GB < Gm := by omega
     have hGm3 : W3.heap.size ≤ Gm := by omega
     clear hGm
     generalize W3.alloc (.cells #[.int .i64 zf, .bool true, .int .i64 zm, .int .i64 zt] 63) = W5 at *
     refine (specMovesFrom_any zf true S5.out.box.mac (by omega)).mono ?_
     rintro e W4 ⟨a7, n7, c7, rfl, ho7, hb7⟩
     have HS4 := Lib.hid (S5.out.same hb7)
     have G7 := Lib.hid ((hb7.block Gm (Array.getElem?_eq_some_iff.1 G5.out).1).trans G5.out)
     have hsw44 := HS4.out.dr.2.size
     have hgb44 := HS4.out.box.lt
     have hr7 := ho7.room
     clear ho7 hb7 S5
     by_cases hn7 : 1 < n7
     ·have hle1 : (i : Int) + 1 ≤ (m : Int) := by omega
      have hle0 : (0 : Int) ≤ (i : Int) + 1 := by omega
      have hii : (i : Int) ≤ (i : Int) + 1 := by omega
      have hw1 : IntKind.i64.wrap ((i : Int) + 1) = (i : Int) + 1 := by rw [IntKind.wrap_i64]; omega
      have htn : ((i : Int) + 1).toNat = i + 1 := by omega
      have hle4 : i + 1 ≤ m := by omega
      have hle5 : i ≤ d := by omega
      have hle2 : (m : Int) ≤ (d : Int) := by omega
      have hle3 : (i : Int) ≤ (d : Int) := by omega
      go_wp2_with fail
      by_cases hlast : i + 1 < d
      ·have hdn : ¬ d = i + 1 := by omega
       refine wp_region_held_drew (S := fun w9 => True) (by kernel_rfl) trivial (fun hHeld => ?_)
       refine wpAnyH_take (i := 1) (v := ?v63) (by simp only [get9]; rfl) (by kernel_rfl) (by kernel_rfl) (by kernel_rfl) (by exact fun _ _ _ h => h) (Or.inl ⟨by rfl, fun w9 hS9 => ?hy63⟩) hHeld ?rest63
       case hy63 =>
        dsimp only at hS9
        skip
        go_simp
        try with_reducible rfl
       try simp only [Act.put, set9]
       refine wpAnyH_take (i := 3) (v := ?v64) (by simp only [get9]; rfl) (by kernel_rfl) (by kernel_rfl) (by kernel_rfl) (by exact fun _ _ _ h => h) (Or.inl ⟨by rfl, fun w9 hS9 => ?hy64⟩) hHeld ?rest64
       case hy64 =>
        dsimp only at hS9
        skip
        go_simp
        try with_reducible rfl
       try simp only [Act.put, set9]
       refine wpAnyH_take (i := 6) (v := ?v65) (by simp only [get9]; rfl) (by kernel_rfl) (by kernel_rfl) (by kernel_rfl) (by exact fun _ _ _ h => h) (Or.inl ⟨by rfl, fun w9 hS9 => ?hy65⟩) hHeld ?rest65
       case hy65 =>
        dsimp only at hS9
        skip
        go_simp
        try with_reducible rfl
       try simp only [Act.put, set9]
       refine wpAnyH_take (i := 8) (v := ?v66) (by simp only [get9]; rfl) (by kernel_rfl) (by kernel_rfl) (by kernel_rfl) (by exact fun _ _ _ h => h) (Or.inl ⟨by rfl, fun w9 hS9 => ?hy66⟩) hHeld ?rest66
       case hy66 =>
        dsimp only at hS9
        skip
        go_simp
        try with_reducible rfl
       try simp only [Act.put, set9]
       refine wpAnyH_take (i := 9) (v := ?v67) (by simp only [get9]; rfl) (by kernel_rfl) (by kernel_rfl) (by kernel_rfl) (by exact fun _ _ _ h => h) (Or.inl ⟨by rfl, fun w9 hS9 => ?hy67⟩) hHeld ?rest67
       case hy67 =>
        dsimp only at hS9
        skip
        go_simp
        try with_reducible rfl
       try simp only [Act.put, set9]
       refine wpAnyH_ready (rs := [0, 2, 7]) (by kernel_rfl) (by simp) (AllReadyH.cons (by simp only [get9]; rfl) (fun K hK => ?_) (AllReadyH.cons (by simp only [get9]; rfl) (fun K hK => ?_) (AllReadyH.cons (by simp only [get9]; rfl) (fun K hK => ?_) AllReadyH.nil)))
       ·skip
        go_simp
        have SB0 : Hid (StN b a n c WA SB GB (World.drew (World.alloc W4 (.cells #[] 63))) x p k r (some ⟨g, 0, none⟩) m d) := Lib.hid ((HS4.out.same (alloc_same W4 _)).same (Below.refl _ _).drew)
        have OE : Hid (OwnM 63 (World.drew (World.alloc W4 (.cells #[] 63))) W4.heap.size (some ⟨W4.heap.size, 0, none⟩) 0 0 []) := Lib.hid ((own_emptyI (enc := Mv.enc) (s := 4) (w := W4) (B := W4.heap.size) 63 (Nat.le_refl _)).same (Below.refl _ _).drew)
        have BE : Hid (Below W4.heap.size W4 (World.drew (World.alloc W4 (.cells #[] 63)))) := Lib.hid ((alloc_same W4 _).drew)
        refine hK.out _ _ trivial (fun hHeld => ?_)
        clear hK K
        try simp only [Act.put, set9]
        refine wpAnyH_ready (rs := [2, 7]) (by kernel_rfl) (by simp) (AllReadyH.cons (by simp only [get9]; rfl) (fun K hK => ?_) (AllReadyH.cons (by simp only [get9]; rfl) (fun K hK => ?_) AllReadyH.nil))
        ·skip
         have ec : (World.alloc W4 (.cells #[] 63)).cell? ⟨GB, 2, none⟩ = some (.slice (some ⟨g, 0, none⟩) m d) := (three_cells SB0.out.box.heap).2.2.1
         go_simp
         clear ec
         refine hK.out _ _ trivial (fun hHeld => ?_)
         clear hK K
         try simp only [Act.put, set9]
         refine wpAnyH_take (i := 4) (v := ?v68) (by simp only [get9]; rfl) (by kernel_rfl) (by kernel_rfl) (by kernel_rfl) (by exact fun _ _ _ h => h) (Or.inl ⟨by rfl, fun w9 hS9 => ?hy68⟩) hHeld ?rest68
         case hy68 =>
          dsimp only at hS9
          skip
          go_simp
          try with_reducible rfl
         try simp only [Act.put, set9]
         refine wpAnyH_ready (rs := [5, 7]) (by kernel_rfl) (by simp) (AllReadyH.cons (by simp only [get9]; rfl) (fun K hK => ?_) (AllReadyH.cons (by simp only [get9]; rfl) (fun K hK => ?_) AllReadyH.nil))
         ·skip
          have T1 : Hid (Mvs (World.drew (World.alloc W4 (.cells #[] 63))) (some ⟨g, 0, none⟩) i (x.moves.take i)) := Lib.hid ((SB0.out.box.moves.items Mv.enc_len).take9 (by omega))
          refine step_app_someI _ Mv.enc_len (by omega) Mv.cells (by rfl) (.tmp 44) (.tmp 48) 25 (by rfl) 63 i1 (.agg #[.int .i64 0, .bool false, .int .i64 0, .int .i64 0]) 32 Try.underlying25 HI1.out.1 HI1.out.2.1 HI1.out.2.2.1 HI1.out.2.2.2 rfl (by rfl) OE.out (by rfl) T1.out (by omega) (by omega) BE.out.size ?_
          intro g7 y7 w7 ho7 hg7 hw7
          have B7 : Hid (Below W4.heap.size W4 w7) := Lib.hid (BE.out.grown hg7 BE.out.size (fun r' e' => by cases e'; exact Nat.le_refl _))
          have O7 : Hid (OwnM 63 w7 W4.heap.size (some ⟨g7, 0, none⟩) i y7 (x.moves.take i)) := Lib.hid (by rw [Nat.zero_add, List.nil_append] at ho7; exact ho7)
          have S7 := Lib.hid (HS4.out.same B7.out)
          have N7 : 0 + i = i := Nat.zero_add i
          clear ho7 hg7 hw7
          simp only [N7]
          clear N7
          refine hK.out _ _ trivial (fun hHeld => ?_)
          clear hK K
          try simp only [Act.put, set9]
          refine wpAnyH_ready (rs := [7]) (by kernel_rfl) (by simp) (AllReadyH.cons (by simp only [get9]; rfl) (fun K hK => ?_) AllReadyH.nil)
          have ec : w7.cell? ⟨GB, 2, none⟩ = some (.slice (some ⟨g, 0, none⟩) m d) := (three_cells S7.out.box.heap).2.2.1
          go_simp
          clear ec
          refine hK.out _ _ trivial (fun hHeld => ?_)
          clear hK K
          try simp only [Act.put, set9]
          refine wpAnyH_take (i := 10) (v := ?v69) (by simp only [get9]; rfl) (by kernel_rfl) (by kernel_rfl) (by kernel_rfl) (by exact fun _ _ _ h => h) (Or.inl ⟨by rfl, fun w9 hS9 => ?hy69⟩) hHeld ?rest69
          case hy69 =>
           dsimp only at hS9
           skip
           go_simp
           try with_reducible rfl
          try simp only [Act.put, set9]
          refine wpAnyH_ready (rs := [11]) (by kernel_rfl) (by simp) (AllReadyH.cons (by simp only [get9]; rfl) (fun K hK => ?_) AllReadyH.nil)
          have T2 : Hid (Mvs w7 (some ⟨g, (i + 1) * 4, none⟩) (m - (i + 1)) (x.moves.drop (i + 1))) := Lib.hid ((S7.out.box.moves.items Mv.enc_len).drop9 (by omega))
          refine step_app_someI _ Mv.enc_len (by omega) Mv.cells (by rfl) (.tmp 49) (.tmp 54) 25 (by rfl) 63 i1 (.agg #[.int .i64 0, .bool false, .int .i64 0, .int .i64 0]) 32 Try.underlying25 HI1.out.1 HI1.out.2.1 HI1.out.2.2.1 HI1.out.2.2.2 rfl (by rfl) O7.out (by rfl) T2.out (by omega) (by omega) B7.out.size ?_
          intro g8 y8 w8 ho8 hg8 hw8
          have hg7s := (O7.out.span _ rfl).1
          have B8 : Hid (Below W4.heap.size W4 w8) := Lib.hid (B7.out.grown hg8 B7.out.size (fun r' e' => by cases e'; exact hg7s))
          have hg8w : W4.heap.size ≤ g8 := (ho8.span _ rfl).1
          have HNM := Lib.hid (HS4.out.box.newM B8.out (ho8.lower (by omega)) hg8w)
          have SF := Lib.hid (HS4.out.mod HNM.out.1 HNM.out.2)
          have h8 : w8.heap[GB]? = some (.cells #[.int .i64 x.st, .slice p k r, .slice (some ⟨g, 0, none⟩) m d] 27 (0, 0)) := (B8.out.block GB HS4.out.box.lt).trans HS4.out.box.heap
          obtain ⟨h80, h81, h82, k80, k81, k82⟩ := three_cells h8
          clear ho8 hg8 hw8 h8
          refine hK.out _ _ trivial (fun hHeld => ?_)
          clear hK K
          try simp only [Act.put, set9]
          refine wpAnyH_take (i := 12) (v := ?v70) (by simp only [get9]; rfl) (by kernel_rfl) (by kernel_rfl) (by kernel_rfl) (by exact fun _ _ _ h => h) (Or.inl ⟨by rfl, fun w9 hS9 => ?hy70⟩) hHeld ?rest70
          case hy70 =>
           dsimp only at hS9
           skip
           go_simp
           try with_reducible rfl
          try simp only [Act.put, set9]
          refine wpAnyH_ready (rs := [13]) (by kernel_rfl) (by simp) (AllReadyH.cons (by simp only [get9]; rfl) (fun K hK => ?_) AllReadyH.nil)
          go_simp
          refine hK.out _ _ trivial (fun hHeld => ?_)
          clear hK K
          try simp only [Act.put, set9]
          refine wpAnyH_done (by kernel_rfl) ?_ _
          clear h80 h81 h82 k80 k81 k82
          go_wp2_with fail
          go_roundw
          case rel => exact ⟨j', _, p, k, r, _, _, _, by go_num, by omega, SF.out, Lib.hid (HO.out.cut i)⟩
          case measure => simp [intOf]
         ·skip
          have ec : (World.alloc W4 (.cells #[] 63)).cell? ⟨GB, 2, none⟩ = some (.slice (some ⟨g, 0, none⟩) m d) := (three_cells SB0.out.box.heap).2.2.1
          go_simp
          clear ec
          refine hK.out _ _ trivial (fun hHeld => ?_)
          clear hK K
          try simp only [Act.put, set9]
          refine wpAnyH_take (i := 10) (v := ?v71) (by simp only [get9]; rfl) (by kernel_rfl) (by kernel_rfl) (by kernel_rfl) (by exact fun _ _ _ h => h) (Or.inl ⟨by rfl, fun w9 hS9 => ?hy71⟩) hHeld ?rest71
          case hy71 =>
           dsimp only at hS9
           skip
           go_simp
           try with_reducible rfl
          try simp only [Act.put, set9]
          refine wpAnyH_ready (rs := [5]) (by kernel_rfl) (by simp) (AllReadyH.cons (by simp only [get9]; rfl) (fun K hK => ?_) AllReadyH.nil)
          have T1 : Hid (Mvs (World.drew (World.alloc W4 (.cells #[] 63))) (some ⟨g, 0, none⟩) i (x.moves.take i)) := Lib.hid ((SB0.out.box.moves.items Mv.enc_len).take9 (by omega))
          refine step_app_someI _ Mv.enc_len (by omega) Mv.cells (by rfl) (.tmp 44) (.tmp 48) 25 (by rfl) 63 i1 (.agg #[.int .i64 0, .bool false, .int .i64 0, .int .i64 0]) 32 Try.underlying25 HI1.out.1 HI1.out.2.1 HI1.out.2.2.1 HI1.out.2.2.2 rfl (by rfl) OE.out (by rfl) T1.out (by omega) (by omega) BE.out.size ?_
          intro g7 y7 w7 ho7 hg7 hw7
          have B7 : Hid (Below W4.heap.size W4 w7) := Lib.hid (BE.out.grown hg7 BE.out.size (fun r' e' => by cases e'; exact Nat.le_refl _))
          have O7 : Hid (OwnM 63 w7 W4.heap.size (some ⟨g7, 0, none⟩) i y7 (x.moves.take i)) := Lib.hid (by rw [Nat.zero_add, List.nil_append] at ho7; exact ho7)
          have S7 := Lib.hid (HS4.out.same B7.out)
          have N7 : 0 + i = i := Nat.zero_add i
          clear ho7 hg7 hw7
          simp only [N7]
          clear N7
          refine hK.out _ _ trivial (fun hHeld => ?_)
          clear hK K
          try simp only [Act.put, set9]
          refine wpAnyH_ready (rs := [11]) (by kernel_rfl) (by simp) (AllReadyH.cons (by simp only [get9]; rfl) (fun K hK => ?_) AllReadyH.nil)
          have T2 : Hid (Mvs w7 (some ⟨g, (i + 1) * 4, none⟩) (m - (i + 1)) (x.moves.drop (i + 1))) := Lib.hid ((S7.out.box.moves.items Mv.enc_len).drop9 (by omega))
          refine step_app_someI _ Mv.enc_len (by omega) Mv.cells (by rfl) (.tmp 49) (.tmp 54) 25 (by rfl) 63 i1 (.agg #[.int .i64 0, .bool false, .int .i64 0, .int .i64 0]) 32 Try.underlying25 HI1.out.1 HI1.out.2.1 HI1.out.2.2.1 HI1.out.2.2.2 rfl (by rfl) O7.out (by rfl) T2.out (by omega) (by omega) B7.out.size ?_
          intro g8 y8 w8 ho8 hg8 hw8
          have hg7s := (O7.out.span _ rfl).1
          have B8 : Hid (Below W4.heap.size W4 w8) := Lib.hid (B7.out.grown hg8 B7.out.size (fun r' e' => by cases e'; exact hg7s))
          have hg8w : W4.heap.size ≤ g8 := (ho8.span _ rfl).1
          have HNM := Lib.hid (HS4.out.box.newM B8.out (ho8.lower (by omega)) hg8w)
          have SF := Lib.hid (HS4.out.mod HNM.out.1 HNM.out.2)
          have h8 : w8.heap[GB]? = some (.cells #[.int .i64 x.st, .slice p k r, .slice (some ⟨g, 0, none⟩) m d] 27 (0, 0)) := (B8.out.block GB HS4.out.box.lt).trans HS4.out.box.heap
          obtain ⟨h80, h81, h82, k80, k81, k82⟩ := three_cells h8
          clear ho8 hg8 hw8 h8
          refine hK.out _ _ trivial (fun hHeld => ?_)
          clear hK K
          try simp only [Act.put, set9]
          refine wpAnyH_take (i := 12) (v := ?v72) (by simp only [get9]; rfl) (by kernel_rfl) (by kernel_rfl) (by kernel_rfl) (by exact fun _ _ _ h => h) (Or.inl ⟨by rfl, fun w9 hS9 => ?hy72⟩) hHeld ?rest72
          case hy72 =>
           dsimp only at hS9
           skip
           go_simp
           try with_reducible rfl
          try simp only [Act.put, set9]
          refine wpAnyH_ready (rs := [13]) (by kernel_rfl) (by simp) (AllReadyH.cons (by simp only [get9]; rfl) (fun K hK => ?_) AllReadyH.nil)
          go_simp
          refine hK.out _ _ trivial (fun hHeld => ?_)
          clear hK K
          try simp only [Act.put, set9]
          refine wpAnyH_done (by kernel_rfl) ?_ _
          clear h80 h81 h82 k80 k81 k82
          go_wp2_with fail
          go_roundw
          case rel => exact ⟨j', _, p, k, r, _, _, _, by go_num, by omega, SF.out, Lib.hid (HO.out.cut i)⟩
          case measure => simp [intOf]
        ·skip
         have ec : (World.alloc W4 (.cells #[] 63)).cell? ⟨GB, 2, none⟩ = some (.slice (some ⟨g, 0, none⟩) m d) := (three_cells SB0.out.box.heap).2.2.1
         go_simp
         clear ec
         refine hK.out _ _ trivial (fun hHeld => ?_)
         clear hK K
         try simp only [Act.put, set9]
         refine wpAnyH_take (i := 10) (v := ?v73) (by simp only [get9]; rfl) (by kernel_rfl) (by kernel_rfl) (by kernel_rfl) (by exact fun _ _ _ h => h) (Or.inl ⟨by rfl, fun w9 hS9 => ?hy73⟩) hHeld ?rest73
         case hy73 =>
          dsimp only at hS9
          skip
          go_simp
          try with_reducible rfl
         try simp only [Act.put, set9]
         refine wpAnyH_ready (rs := [2]) (by kernel_rfl) (by simp) (AllReadyH.cons (by simp only [get9]; rfl) (fun K hK => ?_) AllReadyH.nil)
         have ec : (World.alloc W4 (.cells #[] 63)).cell? ⟨GB, 2, none⟩ = some (.slice (some ⟨g, 0, none⟩) m d) := (three_cells SB0.out.box.heap).2.2.1
         go_simp
         clear ec
         refine hK.out _ _ trivial (fun hHeld => ?_)
         clear hK K
         try simp only [Act.put, set9]
         refine wpAnyH_take (i := 4) (v := ?v74) (by simp only [get9]; rfl) (by kernel_rfl) (by kernel_rfl) (by kernel_rfl) (by exact fun _ _ _ h => h) (Or.inl ⟨by rfl, fun w9 hS9 => ?hy74⟩) hHeld ?rest74
         case hy74 =>
          dsimp only at hS9
          skip
          go_simp
          try with_reducible rfl
         try simp only [Act.put, set9]
         refine wpAnyH_ready (rs := [5]) (by kernel_rfl) (by simp) (AllReadyH.cons (by simp only [get9]; rfl) (fun K hK => ?_) AllReadyH.nil)
         have T1 : Hid (Mvs (World.drew (World.alloc W4 (.cells #[] 63))) (some ⟨g, 0, none⟩) i (x.moves.take i)) := Lib.hid ((SB0.out.box.moves.items Mv.enc_len).take9 (by omega))
         refine step_app_someI _ Mv.enc_len (by omega) Mv.cells (by rfl) (.tmp 44) (.tmp 48) 25 (by rfl) 63 i1 (.agg #[.int .i64 0, .bool false, .int .i64 0, .int .i64 0]) 32 Try.underlying25 HI1.out.1 HI1.out.2.1 HI1.out.2.2.1 HI1.out.2.2.2 rfl (by rfl) OE.out (by rfl) T1.out (by omega) (by omega) BE.out.size ?_
         intro g7 y7 w7 ho7 hg7 hw7
         have B7 : Hid (Below W4.heap.size W4 w7) := Lib.hid (BE.out.grown hg7 BE.out.size (fun r' e' => by cases e'; exact Nat.le_refl _))
         have O7 : Hid (OwnM 63 w7 W4.heap.size (some ⟨g7, 0, none⟩) i y7 (x.moves.take i)) := Lib.hid (by rw [Nat.zero_add, List.nil_append] at ho7; exact ho7)
         have S7 := Lib.hid (HS4.out.same B7.out)
         have N7 : 0 + i = i := Nat.zero_add i
         clear ho7 hg7 hw7
         simp only [N7]
         clear N7
         refine hK.out _ _ trivial (fun hHeld => ?_)
         clear hK K
         try simp only [Act.put, set9]
         refine wpAnyH_ready (rs := [11]) (by kernel_rfl) (by simp) (AllReadyH.cons (by simp only [get9]; rfl) (fun K hK => ?_) AllReadyH.nil)
         have T2 : Hid (Mvs w7 (some ⟨g, (i + 1) * 4, none⟩) (m - (i + 1)) (x.moves.drop (i + 1))) := Lib.hid ((S7.out.box.moves.items Mv.enc_len).drop9 (by omega))
         refine step_app_someI _ Mv.enc_len (by omega) Mv.cells (by rfl) (.tmp 49) (.tmp 54) 25 (by rfl) 63 i1 (.agg #[.int .i64 0, .bool false, .int .i64 0, .int .i64 0]) 32 Try.underlying25 HI1.out.1 HI1.out.2.1 HI1.out.2.2.1 HI1.out.2.2.2 rfl (by rfl) O7.out (by rfl) T2.out (by omega) (by omega) B7.out.size ?_
         intro g8 y8 w8 ho8 hg8 hw8
         have hg7s := (O7.out.span _ rfl).1
         have B8 : Hid (Below W4.heap.size W4 w8) := Lib.hid (B7.out.grown hg8 B7.out.size (fun r' e' => by cases e'; exact hg7s))
         have hg8w : W4.heap.size ≤ g8 := (ho8.span _ rfl).1
         have HNM := Lib.hid (HS4.out.box.newM B8.out (ho8.lower (by omega)) hg8w)
         have SF := Lib.hid (HS4.out.mod HNM.out.1 HNM.out.2)
         have h8 : w8.heap[GB]? = some (.cells #[.int .i64 x.st, .slice p k r, .slice (some ⟨g, 0, none⟩) m d] 27 (0, 0)) := (B8.out.block GB HS4.out.box.lt).trans HS4.out.box.heap
         obtain ⟨h80, h81, h82, k80, k81, k82⟩ := three_cells h8
         clear ho8 hg8 hw8 h8
         refine hK.out _ _ trivial (fun hHeld => ?_)
         clear hK K
         try simp only [Act.put, set9]
         refine wpAnyH_take (i := 12) (v := ?v75) (by simp only [get9]; rfl) (by kernel_rfl) (by kernel_rfl) (by kernel_rfl) (by exact fun _ _ _ h => h) (Or.inl ⟨by rfl, fun w9 hS9 => ?hy75⟩) hHeld ?rest75
         case hy75 =>
          dsimp only at hS9
          skip
          go_simp
          try with_reducible rfl
         try simp only [Act.put, set9]
         refine wpAnyH_ready (rs := [13]) (by kernel_rfl) (by simp) (AllReadyH.cons (by simp only [get9]; rfl) (fun K hK => ?_) AllReadyH.nil)
         go_simp
         refine hK.out _ _ trivial (fun hHeld => ?_)
         clear hK K
         try simp only [Act.put, set9]
         refine wpAnyH_done (by kernel_rfl) ?_ _
         clear h80 h81 h82 k80 k81 k82
         go_wp2_with fail
         go_roundw
         case rel => exact ⟨j', _, p, k, r, _, _, _, by go_num, by omega, SF.out, Lib.hid (HO.out.cut i)⟩
         case measure => simp [intOf]
       ·skip
        have ec : W4.cell? ⟨GB, 2, none⟩ = some (.slice (some ⟨g, 0, none⟩) m d) := (three_cells HS4.out.box.heap).2.2.1
        go_simp
        clear ec
        refine hK.out _ _ trivial (fun hHeld => ?_)
        clear hK K
        try simp only [Act.put, set9]
        refine wpAnyH_take (i := 4) (v := ?v76) (by simp only [get9]; rfl) (by kernel_rfl) (by kernel_rfl) (by kernel_rfl) (by exact fun _ _ _ h => h) (Or.inl ⟨by rfl, fun w9 hS9 => ?hy76⟩) hHeld ?rest76
        case hy76 =>
         dsimp only at hS9
         skip
         go_simp
         try with_reducible rfl
        try simp only [Act.put, set9]
        refine wpAnyH_ready (rs := [0, 7]) (by kernel_rfl) (by simp) (AllReadyH.cons (by simp only [get9]; rfl) (fun K hK => ?_) (AllReadyH.cons (by simp only [get9]; rfl) (fun K hK => ?_) AllReadyH.nil))
        ·skip
         go_simp
         have SB0 : Hid (StN b a n c WA SB GB (World.drew (World.alloc W4 (.cells #[] 63))) x p k r (some ⟨g, 0, none⟩) m d) := Lib.hid ((HS4.out.same (alloc_same W4 _)).same (Below.refl _ _).drew)
         have OE : Hid (OwnM 63 (World.drew (World.alloc W4 (.cells #[] 63))) W4.heap.size (some ⟨W4.heap.size, 0, none⟩) 0 0 []) := Lib.hid ((own_emptyI (enc := Mv.enc) (s := 4) (w := W4) (B := W4.heap.size) 63 (Nat.le_refl _)).same (Below.refl _ _).drew)
         have BE : Hid (Below W4.heap.size W4 (World.drew (World.alloc W4 (.cells #[] 63)))) := Lib.hid ((alloc_same W4 _).drew)
         refine hK.out _ _ trivial (fun hHeld => ?_)
         clear hK K
         try simp only [Act.put, set9]
         refine wpAnyH_ready (rs := [5, 7]) (by kernel_rfl) (by simp) (AllReadyH.cons (by simp only [get9]; rfl) (fun K hK => ?_) (AllReadyH.cons (by simp only [get9]; rfl) (fun K hK => ?_) AllReadyH.nil))
         ·skip
          have T1 : Hid (Mvs (World.drew (World.alloc W4 (.cells #[] 63))) (some ⟨g, 0, none⟩) i (x.moves.take i)) := Lib.hid ((SB0.out.box.moves.items Mv.enc_len).take9 (by omega))
          refine step_app_someI _ Mv.enc_len (by omega) Mv.cells (by rfl) (.tmp 44) (.tmp 48) 25 (by rfl) 63 i1 (.agg #[.int .i64 0, .bool false, .int .i64 0, .int .i64 0]) 32 Try.underlying25 HI1.out.1 HI1.out.2.1 HI1.out.2.2.1 HI1.out.2.2.2 rfl (by rfl) OE.out (by rfl) T1.out (by omega) (by omega) BE.out.size ?_
          intro g7 y7 w7 ho7 hg7 hw7
          have B7 : Hid (Below W4.heap.size W4 w7) := Lib.hid (BE.out.grown hg7 BE.out.size (fun r' e' => by cases e'; exact Nat.le_refl _))
          have O7 : Hid (OwnM 63 w7 W4.heap.size (some ⟨g7, 0, none⟩) i y7 (x.moves.take i)) := Lib.hid (by rw [Nat.zero_add, List.nil_append] at ho7; exact ho7)
          have S7 := Lib.hid (HS4.out.same B7.out)
          have N7 : 0 + i = i := Nat.zero_add i
          clear ho7 hg7 hw7
          simp only [N7]
          clear N7
          refine hK.out _ _ trivial (fun hHeld => ?_)
          clear hK K
          try simp only [Act.put, set9]
          refine wpAnyH_ready (rs := [7]) (by kernel_rfl) (by simp) (AllReadyH.cons (by simp only [get9]; rfl) (fun K hK => ?_) AllReadyH.nil)
          have ec : w7.cell? ⟨GB, 2, none⟩ = some (.slice (some ⟨g, 0, none⟩) m d) := (three_cells S7.out.box.heap).2.2.1
          go_simp
          clear ec
          refine hK.out _ _ trivial (fun hHeld => ?_)
          clear hK K
          try simp only [Act.put, set9]
          refine wpAnyH_take (i := 10) (v := ?v77) (by simp only [get9]; rfl) (by kernel_rfl) (by kernel_rfl) (by kernel_rfl) (by exact fun _ _ _ h => h) (Or.inl ⟨by rfl, fun w9 hS9 => ?hy77⟩) hHeld ?rest77
          case hy77 =>
           dsimp only at hS9
           skip
           go_simp
           try with_reducible rfl
          try simp only [Act.put, set9]
          refine wpAnyH_ready (rs := [11]) (by kernel_rfl) (by simp) (AllReadyH.cons (by simp only [get9]; rfl) (fun K hK => ?_) AllReadyH.nil)
          have T2 : Hid (Mvs w7 (some ⟨g, (i + 1) * 4, none⟩) (m - (i + 1)) (x.moves.drop (i + 1))) := Lib.hid ((S7.out.box.moves.items Mv.enc_len).drop9 (by omega))
          refine step_app_someI _ Mv.enc_len (by omega) Mv.cells (by rfl) (.tmp 49) (.tmp 54) 25 (by rfl) 63 i1 (.agg #[.int .i64 0, .bool false, .int .i64 0, .int .i64 0]) 32 Try.underlying25 HI1.out.1 HI1.out.2.1 HI1.out.2.2.1 HI1.out.2.2.2 rfl (by rfl) O7.out (by rfl) T2.out (by omega) (by omega) B7.out.size ?_
          intro g8 y8 w8 ho8 hg8 hw8
          have hg7s := (O7.out.span _ rfl).1
          have B8 : Hid (Below W4.heap.size W4 w8) := Lib.hid (B7.out.grown hg8 B7.out.size (fun r' e' => by cases e'; exact hg7s))
          have hg8w : W4.heap.size ≤ g8 := (ho8.span _ rfl).1
          have HNM := Lib.hid (HS4.out.box.newM B8.out (ho8.lower (by omega)) hg8w)
          have SF := Lib.hid (HS4.out.mod HNM.out.1 HNM.out.2)
          have h8 : w8.heap[GB]? = some (.cells #[.int .i64 x.st, .slice p k r, .slice (some ⟨g, 0, none⟩) m d] 27 (0, 0)) := (B8.out.block GB HS4.out.box.lt).trans HS4.out.box.heap
          obtain ⟨h80, h81, h82, k80, k81, k82⟩ := three_cells h8
          clear ho8 hg8 hw8 h8
          refine hK.out _ _ trivial (fun hHeld => ?_)
          clear hK K
          try simp only [Act.put, set9]
          refine wpAnyH_take (i := 12) (v := ?v78) (by simp only [get9]; rfl) (by kernel_rfl) (by kernel_rfl) (by kernel_rfl) (by exact fun _ _ _ h => h) (Or.inl ⟨by rfl, fun w9 hS9 => ?hy78⟩) hHeld ?rest78
          case hy78 =>
           dsimp only at hS9
           skip
           go_simp
           try with_reducible rfl
          try simp only [Act.put, set9]
          refine wpAnyH_ready (rs := [13]) (by kernel_rfl) (by simp) (AllReadyH.cons (by simp only [get9]; rfl) (fun K hK => ?_) AllReadyH.nil)
          go_simp
          refine hK.out _ _ trivial (fun hHeld => ?_)
          clear hK K
          try simp only [Act.put, set9]
          refine wpAnyH_done (by kernel_rfl) ?_ _
          clear h80 h81 h82 k80 k81 k82
          go_wp2_with fail
          go_roundw
          case rel => exact ⟨j', _, p, k, r, _, _, _, by go_num, by omega, SF.out, Lib.hid (HO.out.cut i)⟩
          case measure => simp [intOf]
         ·skip
          have ec : (World.alloc W4 (.cells #[] 63)).cell? ⟨GB, 2, none⟩ = some (.slice (some ⟨g, 0, none⟩) m d) := (three_cells SB0.out.box.heap).2.2.1
          go_simp
          clear ec
          refine hK.out _ _ trivial (fun hHeld => ?_)
          clear hK K
          try simp only [Act.put, set9]
          refine wpAnyH_take (i := 10) (v := ?v79) (by simp only [get9]; rfl) (by kernel_rfl) (by kernel_rfl) (by kernel_rfl) (by exact fun _ _ _ h => h) (Or.inl ⟨by rfl, fun w9 hS9 => ?hy79⟩) hHeld ?rest79
          case hy79 =>
           dsimp only at hS9
           skip
           go_simp
           try with_reducible rfl
          try simp only [Act.put, set9]
          refine wpAnyH_ready (rs := [5]) (by kernel_rfl) (by simp) (AllReadyH.cons (by simp only [get9]; rfl) (fun K hK => ?_) AllReadyH.nil)
          have T1 : Hid (Mvs (World.drew (World.alloc W4 (.cells #[] 63))) (some ⟨g, 0, none⟩) i (x.moves.take i)) := Lib.hid ((SB0.out.box.moves.items Mv.enc_len).take9 (by omega))
          refine step_app_someI _ Mv.enc_len (by omega) Mv.cells (by rfl) (.tmp 44) (.tmp 48) 25 (by rfl) 63 i1 (.agg #[.int .i64 0, .bool false, .int .i64 0, .int .i64 0]) 32 Try.underlying25 HI1.out.1 HI1.out.2.1 HI1.out.2.2.1 HI1.out.2.2.2 rfl (by rfl) OE.out (by rfl) T1.out (by omega) (by omega) BE.out.size ?_
          intro g7 y7 w7 ho7 hg7 hw7
          have B7 : Hid (Below W4.heap.size W4 w7) := Lib.hid (BE.out.grown hg7 BE.out.size (fun r' e' => by cases e'; exact Nat.le_refl _))
          have O7 : Hid (OwnM 63 w7 W4.heap.size (some ⟨g7, 0, none⟩) i y7 (x.moves.take i)) := Lib.hid (by rw [Nat.zero_add, List.nil_append] at ho7; exact ho7)
          have S7 := Lib.hid (HS4.out.same B7.out)
          have N7 : 0 + i = i := Nat.zero_add i
          clear ho7 hg7 hw7
          simp only [N7]
          clear N7
          refine hK.out _ _ trivial (fun hHeld => ?_)
          clear hK K
          try simp only [Act.put, set9]
          refine wpAnyH_ready (rs := [11]) (by kernel_rfl) (by simp) (AllReadyH.cons (by simp only [get9]; rfl) (fun K hK => ?_) AllReadyH.nil)
          have T2 : Hid (Mvs w7 (some ⟨g, (i + 1) * 4, none⟩) (m - (i + 1)) (x.moves.drop (i + 1))) := Lib.hid ((S7.out.box.moves.items Mv.enc_len).drop9 (by omega))
          refine step_app_someI _ Mv.enc_len (by omega) Mv.cells (by rfl) (.tmp 49) (.tmp 54) 25 (by rfl) 63 i1 (.agg #[.int .i64 0, .bool false, .int .i64 0, .int .i64 0]) 32 Try.underlying25 HI1.out.1 HI1.out.2.1 HI1.out.2.2.1 HI1.out.2.2.2 rfl (by rfl) O7.out (by rfl) T2.out (by omega) (by omega) B7.out.size ?_
          intro g8 y8 w8 ho8 hg8 hw8
          have hg7s := (O7.out.span _ rfl).1
          have B8 : Hid (Below W4.heap.size W4 w8) := Lib.hid (B7.out.grown hg8 B7.out.size (fun r' e' => by cases e'; exact hg7s))
          have hg8w : W4.heap.size ≤ g8 := (ho8.span _ rfl).1
          have HNM := Lib.hid (HS4.out.box.newM B8.out (ho8.lower (by omega)) hg8w)
          have SF := Lib.hid (HS4.out.mod HNM.out.1 HNM.out.2)
          have h8 : w8.heap[GB]? = some (.cells #[.int .i64 x.st, .slice p k r, .slice (some ⟨g, 0, none⟩) m d] 27 (0, 0)) := (B8.out.block GB HS4.out.box.lt).trans HS4.out.box.heap
          obtain ⟨h80, h81, h82, k80, k81, k82⟩ := three_cells h8
          clear ho8 hg8 hw8 h8
          refine hK.out _ _ trivial (fun hHeld => ?_)
          clear hK K
          try simp only [Act.put, set9]
          refine wpAnyH_take (i := 12) (v := ?v80) (by simp only [get9]; rfl) (by kernel_rfl) (by kernel_rfl) (by kernel_rfl) (by exact fun _ _ _ h => h) (Or.inl ⟨by rfl, fun w9 hS9 => ?hy80⟩) hHeld ?rest80
          case hy80 =>
           dsimp only at hS9
           skip
           go_simp
           try with_reducible rfl
          try simp only [Act.put, set9]
          refine wpAnyH_ready (rs := [13]) (by kernel_rfl) (by simp) (AllReadyH.cons (by simp only [get9]; rfl) (fun K hK => ?_) AllReadyH.nil)
          go_simp
          refine hK.out _ _ trivial (fun hHeld => ?_)
          clear hK K
          try simp only [Act.put, set9]
          refine wpAnyH_done (by kernel_rfl) ?_ _
          clear h80 h81 h82 k80 k81 k82
          go_wp2_with fail
          go_roundw
          case rel => exact ⟨j', _, p, k, r, _, _, _, by go_num, by omega, SF.out, Lib.hid (HO.out.cut i)⟩
          case measure => simp [intOf]
        ·skip
         have ec : W4.cell? ⟨GB, 2, none⟩ = some (.slice (some ⟨g, 0, none⟩) m d) := (three_cells HS4.out.box.heap).2.2.1
         go_simp
         clear ec
         refine hK.out _ _ trivial (fun hHeld => ?_)
         clear hK K
         try simp only [Act.put, set9]
         refine wpAnyH_take (i := 10) (v := ?v81) (by simp only [get9]; rfl) (by kernel_rfl) (by kernel_rfl) (by kernel_rfl) (by exact fun _ _ _ h => h) (Or.inl ⟨by rfl, fun w9 hS9 => ?hy81⟩) hHeld ?rest81
         case hy81 =>
          dsimp only at hS9
          skip
          go_simp
          try with_reducible rfl
         try simp only [Act.put, set9]
         refine wpAnyH_ready (rs := [0]) (by kernel_rfl) (by simp) (AllReadyH.cons (by simp only [get9]; rfl) (fun K hK => ?_) AllReadyH.nil)
         go_simp
         have SB0 : Hid (StN b a n c WA SB GB (World.drew (World.alloc W4 (.cells #[] 63))) x p k r (some ⟨g, 0, none⟩) m d) := Lib.hid ((HS4.out.same (alloc_same W4 _)).same (Below.refl _ _).drew)
         have OE : Hid (OwnM 63 (World.drew (World.alloc W4 (.cells #[] 63))) W4.heap.size (some ⟨W4.heap.size, 0, none⟩) 0 0 []) := Lib.hid ((own_emptyI (enc := Mv.enc) (s := 4) (w := W4) (B := W4.heap.size) 63 (Nat.le_refl _)).same (Below.refl _ _).drew)
         have BE : Hid (Below W4.heap.size W4 (World.drew (World.alloc W4 (.cells #[] 63)))) := Lib.hid ((alloc_same W4 _).drew)
         refine hK.out _ _ trivial (fun hHeld => ?_)
         clear hK K
         try simp only [Act.put, set9]
         refine wpAnyH_ready (rs := [5]) (by kernel_rfl) (by simp) (AllReadyH.cons (by simp only [get9]; rfl) (fun K hK => ?_) AllReadyH.nil)
         have T1 : Hid (Mvs (World.drew (World.alloc W4 (.cells #[] 63))) (some ⟨g, 0, none⟩) i (x.moves.take i)) := Lib.hid ((SB0.out.box.moves.items Mv.enc_len).take9 (by omega))
         refine step_app_someI _ Mv.enc_len (by omega) Mv.cells (by rfl) (.tmp 44) (.tmp 48) 25 (by rfl) 63 i1 (.agg #[.int .i64 0, .bool false, .int .i64 0, .int .i64 0]) 32 Try.underlying25 HI1.out.1 HI1.out.2.1 HI1.out.2.2.1 HI1.out.2.2.2 rfl (by rfl) OE.out (by rfl) T1.out (by omega) (by omega) BE.out.size ?_
         intro g7 y7 w7 ho7 hg7 hw7
         have B7 : Hid (Below W4.heap.size W4 w7) := Lib.hid (BE.out.grown hg7 BE.out.size (fun r' e' => by cases e'; exact Nat.le_refl _))
         have O7 : Hid (OwnM 63 w7 W4.heap.size (some ⟨g7, 0, none⟩) i y7 (x.moves.take i)) := Lib.hid (by rw [Nat.zero_add, List.nil_append] at ho7; exact ho7)
         have S7 := Lib.hid (HS4.out.same B7.out)
         have N7 : 0 + i = i := Nat.zero_add i
         clear ho7 hg7 hw7
         simp only [N7]
         clear N7
         refine hK.out _ _ trivial (fun hHeld => ?_)
         clear hK K
         try simp only [Act.put, set9]
         refine wpAnyH_ready (rs := [11]) (by kernel_rfl) (by simp) (AllReadyH.cons (by simp only [get9]; rfl) (fun K hK => ?_) AllReadyH.nil)
         have T2 : Hid (Mvs w7 (some ⟨g, (i + 1) * 4, none⟩) (m - (i + 1)) (x.moves.drop (i + 1))) := Lib.hid ((S7.out.box.moves.items Mv.enc_len).drop9 (by omega))
         refine step_app_someI _ Mv.enc_len (by omega) Mv.cells (by rfl) (.tmp 49) (.tmp 54) 25 (by rfl) 63 i1 (.agg #[.int .i64 0, .bool false, .int .i64 0, .int .i64 0]) 32 Try.underlying25 HI1.out.1 HI1.out.2.1 HI1.out.2.2.1 HI1.out.2.2.2 rfl (by rfl) O7.out (by rfl) T2.out (by omega) (by omega) B7.out.size ?_
         intro g8 y8 w8 ho8 hg8 hw8
         have hg7s := (O7.out.span _ rfl).1
         have B8 : Hid (Below W4.heap.size W4 w8) := Lib.hid (B7.out.grown hg8 B7.out.size (fun r' e' => by cases e'; exact hg7s))
         have hg8w : W4.heap.size ≤ g8 := (ho8.span _ rfl).1
         have HNM := Lib.hid (HS4.out.box.newM B8.out (ho8.lower (by omega)) hg8w)
         have SF := Lib.hid (HS4.out.mod HNM.out.1 HNM.out.2)
         have h8 : w8.heap[GB]? = some (.cells #[.int .i64 x.st, .slice p k r, .slice (some ⟨g, 0, none⟩) m d] 27 (0, 0)) := (B8.out.block GB HS4.out.box.lt).trans HS4.out.box.heap
         obtain ⟨h80, h81, h82, k80, k81, k82⟩ := three_cells h8
         clear ho8 hg8 hw8 h8
         refine hK.out _ _ trivial (fun hHeld => ?_)
         clear hK K
         try simp only [Act.put, set9]
         refine wpAnyH_take (i := 12) (v := ?v82) (by simp only [get9]; rfl) (by kernel_rfl) (by kernel_rfl) (by kernel_rfl) (by exact fun _ _ _ h => h) (Or.inl ⟨by rfl, fun w9 hS9 => ?hy82⟩) hHeld ?rest82
         case hy82 =>
          dsimp only at hS9
          skip
          go_simp
          try with_reducible rfl
         try simp only [Act.put, set9]
         refine wpAnyH_ready (rs := [13]) (by kernel_rfl) (by simp) (AllReadyH.cons (by simp only [get9]; rfl) (fun K hK => ?_) AllReadyH.nil)
         go_simp
         refine hK.out _ _ trivial (fun hHeld => ?_)
         clear hK K
         try simp only [Act.put, set9]
         refine wpAnyH_done (by kernel_rfl) ?_ _
         clear h80 h81 h82 k80 k81 k82
         go_wp2_with fail
         go_roundw
         case rel => exact ⟨j', _, p, k, r, _, _, _, by go_num, by omega, SF.out, Lib.hid (HO.out.cut i)⟩
         case measure => simp [intOf]
       ·skip
        have ec : W4.cell? ⟨GB, 2, none⟩ = some (.slice (some ⟨g, 0, none⟩) m d) := (three_cells HS4.out.box.heap).2.2.1
        go_simp
        clear ec
        refine hK.out _ _ trivial (fun hHeld => ?_)
        clear hK K
        try simp only [Act.put, set9]
        refine wpAnyH_take (i := 10) (v := ?v83) (by simp only [get9]; rfl) (by kernel_rfl) (by kernel_rfl) (by kernel_rfl) (by exact fun _ _ _ h => h) (Or.inl ⟨by rfl, fun w9 hS9 => ?hy83⟩) hHeld ?rest83
        case hy83 =>
         dsimp only at hS9
         skip
         go_simp
         try with_reducible rfl
        try simp only [Act.put, set9]
        refine wpAnyH_ready (rs := [0, 2]) (by kernel_rfl) (by simp) (AllReadyH.cons (by simp only [get9]; rfl) (fun K hK => ?_) (AllReadyH.cons (by simp only [get9]; rfl) (fun K hK => ?_) AllReadyH.nil))
        ·skip
         go_simp
         have SB0 : Hid (StN b a n c WA SB GB (World.drew (World.alloc W4 (.cells #[] 63))) x p k r (some ⟨g, 0, none⟩) m d) := Lib.hid ((HS4.out.same (alloc_same W4 _)).same (Below.refl _ _).drew)
         have OE : Hid (OwnM 63 (World.drew (World.alloc W4 (.cells #[] 63))) W4.heap.size (some ⟨W4.heap.size, 0, none⟩) 0 0 []) := Lib.hid ((own_emptyI (enc := Mv.enc) (s := 4) (w := W4) (B := W4.heap.size) 63 (Nat.le_refl _)).same (Below.refl _ _).drew)
         have BE : Hid (Below W4.heap.size W4 (World.drew (World.alloc W4 (.cells #[] 63)))) := Lib.hid ((alloc_same W4 _).drew)
         refine hK.out _ _ trivial (fun hHeld => ?_)
         clear hK K
         try simp only [Act.put, set9]
         refine wpAnyH_ready (rs := [2]) (by kernel_rfl) (by simp) (AllReadyH.cons (by simp only [get9]; rfl) (fun K hK => ?_) AllReadyH.nil)
         have ec : (World.alloc W4 (.cells #[] 63)).cell? ⟨GB, 2, none⟩ = some (.slice (some ⟨g, 0, none⟩) m d) := (three_cells SB0.out.box.heap).2.2.1
         go_simp
         clear ec
         refine hK.out _ _ trivial (fun hHeld => ?_)
         clear hK K
         try simp only [Act.put, set9]
         refine wpAnyH_take (i := 4) (v := ?v84) (by simp only [get9]; rfl) (by kernel_rfl) (by kernel_rfl) (by kernel_rfl) (by exact fun _ _ _ h => h) (Or.inl ⟨by rfl, fun w9 hS9 => ?hy84⟩) hHeld ?rest84
         case hy84 =>
          dsimp only at hS9
          skip
          go_simp
          try with_reducible rfl
         try simp only [Act.put, set9]
         refine wpAnyH_ready (rs := [5]) (by kernel_rfl) (by simp) (AllReadyH.cons (by simp only [get9]; rfl) (fun K hK => ?_) AllReadyH.nil)
         have T1 : Hid (Mvs (World.drew (World.alloc W4 (.cells #[] 63))) (some ⟨g, 0, none⟩) i (x.moves.take i)) := Lib.hid ((SB0.out.box.moves.items Mv.enc_len).take9 (by omega))
         refine step_app_someI _ Mv.enc_len (by omega) Mv.cells (by rfl) (.tmp 44) (.tmp 48) 25 (by rfl) 63 i1 (.agg #[.int .i64 0, .bool false, .int .i64 0, .int .i64 0]) 32 Try.underlying25 HI1.out.1 HI1.out.2.1 HI1.out.2.2.1 HI1.out.2.2.2 rfl (by rfl) OE.out (by rfl) T1.out (by omega) (by omega) BE.out.size ?_
         intro g7 y7 w7 ho7 hg7 hw7
         have B7 : Hid (Below W4.heap.size W4 w7) := Lib.hid (BE.out.grown hg7 BE.out.size (fun r' e' => by cases e'; exact Nat.le_refl _))
         have O7 : Hid (OwnM 63 w7 W4.heap.size (some ⟨g7, 0, none⟩) i y7 (x.moves.take i)) := Lib.hid (by rw [Nat.zero_add, List.nil_append] at ho7; exact ho7)
         have S7 := Lib.hid (HS4.out.same B7.out)
         have N7 : 0 + i = i := Nat.zero_add i
         clear ho7 hg7 hw7
         simp only [N7]
         clear N7
         refine hK.out _ _ trivial (fun hHeld => ?_)
         clear hK K
         try simp only [Act.put, set9]
         refine wpAnyH_ready (rs := [11]) (by kernel_rfl) (by simp) (AllReadyH.cons (by simp only [get9]; rfl) (fun K hK => ?_) AllReadyH.nil)
         have T2 : Hid (Mvs w7 (some ⟨g, (i + 1) * 4, none⟩) (m - (i + 1)) (x.moves.drop (i + 1))) := Lib.hid ((S7.out.box.moves.items Mv.enc_len).drop9 (by omega))
         refine step_app_someI _ Mv.enc_len (by omega) Mv.cells (by rfl) (.tmp 49) (.tmp 54) 25 (by rfl) 63 i1 (.agg #[.int .i64 0, .bool false, .int .i64 0, .int .i64 0]) 32 Try.underlying25 HI1.out.1 HI1.out.2.1 HI1.out.2.2.1 HI1.out.2.2.2 rfl (by rfl) O7.out (by rfl) T2.out (by omega) (by omega) B7.out.size ?_
         intro g8 y8 w8 ho8 hg8 hw8
         have hg7s := (O7.out.span _ rfl).1
         have B8 : Hid (Below W4.heap.size W4 w8) := Lib.hid (B7.out.grown hg8 B7.out.size (fun r' e' => by cases e'; exact hg7s))
         have hg8w : W4.heap.size ≤ g8 := (ho8.span _ rfl).1
         have HNM := Lib.hid (HS4.out.box.newM B8.out (ho8.lower (by omega)) hg8w)
         have SF := Lib.hid (HS4.out.mod HNM.out.1 HNM.out.2)
         have h8 : w8.heap[GB]? = some (.cells #[.int .i64 x.st, .slice p k r, .slice (some ⟨g, 0, none⟩) m d] 27 (0, 0)) := (B8.out.block GB HS4.out.box.lt).trans HS4.out.box.heap
         obtain ⟨h80, h81, h82, k80, k81, k82⟩ := three_cells h8
         clear ho8 hg8 hw8 h8
         refine hK.out _ _ trivial (fun hHeld => ?_)
         clear hK K
         try simp only [Act.put, set9]
         refine wpAnyH_take (i := 12) (v := ?v85) (by simp only [get9]; rfl) (by kernel_rfl) (by kernel_rfl) (by kernel_rfl) (by exact fun _ _ _ h => h) (Or.inl ⟨by rfl, fun w9 hS9 => ?hy85⟩) hHeld ?rest85
         case hy85 =>
          dsimp only at hS9
          skip
          go_simp
          try with_reducible rfl
         try simp only [Act.put, set9]
         refine wpAnyH_ready (rs := [13]) (by kernel_rfl) (by simp) (AllReadyH.cons (by simp only [get9]; rfl) (fun K hK => ?_) AllReadyH.nil)
         go_simp
         refine hK.out _ _ trivial (fun hHeld => ?_)
         clear hK K
         try simp only [Act.put, set9]
         refine wpAnyH_done (by kernel_rfl) ?_ _
         clear h80 h81 h82 k80 k81 k82
         go_wp2_with fail
         go_roundw
         case rel => exact ⟨j', _, p, k, r, _, _, _, by go_num, by omega, SF.out, Lib.hid (HO.out.cut i)⟩
         case measure => simp [intOf]
        ·skip
         have ec : W4.cell? ⟨GB, 2, none⟩ = some (.slice (some ⟨g, 0, none⟩) m d) := (three_cells HS4.out.box.heap).2.2.1
         go_simp
         clear ec
         refine hK.out _ _ trivial (fun hHeld => ?_)
         clear hK K
         try simp only [Act.put, set9]
         refine wpAnyH_take (i := 4) (v := ?v86) (by simp only [get9]; rfl) (by kernel_rfl) (by kernel_rfl) (by kernel_rfl) (by exact fun _ _ _ h => h) (Or.inl ⟨by rfl, fun w9 hS9 => ?hy86⟩) hHeld ?rest86
         case hy86 =>
          dsimp only at hS9
          skip
          go_simp
          try with_reducible rfl
         try simp only [Act.put, set9]
         refine wpAnyH_ready (rs := [0]) (by kernel_rfl) (by simp) (AllReadyH.cons (by simp only [get9]; rfl) (fun K hK => ?_) AllReadyH.nil)
         go_simp
         have SB0 : Hid (StN b a n c WA SB GB (World.drew (World.alloc W4 (.cells #[] 63))) x p k r (some ⟨g, 0, none⟩) m d) := Lib.hid ((HS4.out.same (alloc_same W4 _)).same (Below.refl _ _).drew)
         have OE : Hid (OwnM 63 (World.drew (World.alloc W4 (.cells #[] 63))) W4.heap.size (some ⟨W4.heap.size, 0, none⟩) 0 0 []) := Lib.hid ((own_emptyI (enc := Mv.enc) (s := 4) (w := W4) (B := W4.heap.size) 63 (Nat.le_refl _)).same (Below.refl _ _).drew)
         have BE : Hid (Below W4.heap.size W4 (World.drew (World.alloc W4 (.cells #[] 63)))) := Lib.hid ((alloc_same W4 _).drew)
         refine hK.out _ _ trivial (fun hHeld => ?_)
         clear hK K
         try simp only [Act.put, set9]
         refine wpAnyH_ready (rs := [5]) (by kernel_rfl) (by simp) (AllReadyH.cons (by simp only [get9]; rfl) (fun K hK => ?_) AllReadyH.nil)
         have T1 : Hid (Mvs (World.drew (World.alloc W4 (.cells #[] 63))) (some ⟨g, 0, none⟩) i (x.moves.take i)) := Lib.hid ((SB0.out.box.moves.items Mv.enc_len).take9 (by omega))
         refine step_app_someI _ Mv.enc_len (by omega) Mv.cells (by rfl) (.tmp 44) (.tmp 48) 25 (by rfl) 63 i1 (.agg #[.int .i64 0, .bool false, .int .i64 0, .int .i64 0]) 32 Try.underlying25 HI1.out.1 HI1.out.2.1 HI1.out.2.2.1 HI1.out.2.2.2 rfl (by rfl) OE.out (by rfl) T1.out (by omega) (by omega) BE.out.size ?_
         intro g7 y7 w7 ho7 hg7 hw7
         have B7 : Hid (Below W4.heap.size W4 w7) := Lib.hid (BE.out.grown hg7 BE.out.size (fun r' e' => by cases e'; exact Nat.le_refl _))
         have O7 : Hid (OwnM 63 w7 W4.heap.size (some ⟨g7, 0, none⟩) i y7 (x.moves.take i)) := Lib.hid (by rw [Nat.zero_add, List.nil_append] at ho7; exact ho7)
         have S7 := Lib.hid (HS4.out.same B7.out)
         have N7 : 0 + i = i := Nat.zero_add i
         clear ho7 hg7 hw7
         simp only [N7]
         clear N7
         refine hK.out _ _ trivial (fun hHeld => ?_)
         clear hK K
         try simp only [Act.put, set9]
         refine wpAnyH_ready (rs := [11]) (by kernel_rfl) (by simp) (AllReadyH.cons (by simp only [get9]; rfl) (fun K hK => ?_) AllReadyH.nil)
         have T2 : Hid (Mvs w7 (some ⟨g, (i + 1) * 4, none⟩) (m - (i + 1)) (x.moves.drop (i + 1))) := Lib.hid ((S7.out.box.moves.items Mv.enc_len).drop9 (by omega))
         refine step_app_someI _ Mv.enc_len (by omega) Mv.cells (by rfl) (.tmp 49) (.tmp 54) 25 (by rfl) 63 i1 (.agg #[.int .i64 0, .bool false, .int .i64 0, .int .i64 0]) 32 Try.underlying25 HI1.out.1 HI1.out.2.1 HI1.out.2.2.1 HI1.out.2.2.2 rfl (by rfl) O7.out (by rfl) T2.out (by omega) (by omega) B7.out.size ?_
         intro g8 y8 w8 ho8 hg8 hw8
         have hg7s := (O7.out.span _ rfl).1
         have B8 : Hid (Below W4.heap.size W4 w8) := Lib.hid (B7.out.grown hg8 B7.out.size (fun r' e' => by cases e'; exact hg7s))
         have hg8w : W4.heap.size ≤ g8 := (ho8.span _ rfl).1
         have HNM := Lib.hid (HS4.out.box.newM B8.out (ho8.lower (by omega)) hg8w)
         have SF := Lib.hid (HS4.out.mod HNM.out.1 HNM.out.2)
         have h8 : w8.heap[GB]? = some (.cells #[.int .i64 x.st, .slice p k r, .slice (some ⟨g, 0, none⟩) m d] 27 (0, 0)) := (B8.out.block GB HS4.out.box.lt).trans HS4.out.box.heap
         obtain ⟨h80, h81, h82, k80, k81, k82⟩ := three_cells h8
         clear ho8 hg8 hw8 h8
         refine hK.out _ _ trivial (fun hHeld => ?_)
         clear hK K
         try simp only [Act.put, set9]
         refine wpAnyH_take (i := 12) (v := ?v87) (by simp only [get9]; rfl) (by kernel_rfl) (by kernel_rfl) (by kernel_rfl) (by exact fun _ _ _ h => h) (Or.inl ⟨by rfl, fun w9 hS9 => ?hy87⟩) hHeld ?rest87
         case hy87 =>
          dsimp only at hS9
          skip
          go_simp
          try with_reducible rfl
         try simp only [Act.put, set9]
         refine wpAnyH_ready (rs := [13]) (by kernel_rfl) (by simp) (AllReadyH.cons (by simp only [get9]; rfl) (fun K hK => ?_) AllReadyH.nil)
         go_simp
         refine hK.out _ _ trivial (fun hHeld => ?_)
         clear hK K
         try simp only [Act.put, set9]
         refine wpAnyH_done (by kernel_rfl) ?_ _
         clear h80 h81 h82 k80 k81 k82
         go_wp2_with fail
         go_roundw
         case rel => exact ⟨j', _, p, k, r, _, _, _, by go_num, by omega, SF.out, Lib.hid (HO.out.cut i)⟩
         case measure => simp [intOf]
      ·obtain rfl : d = i + 1 := by omega
       refine wp_region_held_drew (S := fun w9 => True) (by kernel_rfl) trivial (fun hHeld => ?_)
       refine wpAnyH_take (i := 1) (v := ?v88) (by simp only [get9]; rfl) (by kernel_rfl) (by kernel_rfl) (by kernel_rfl) (by exact fun _ _ _ h => h) (Or.inl ⟨by rfl, fun w9 hS9 => ?hy88⟩) hHeld ?rest88
       case hy88 =>
        dsimp only at hS9
        skip
        go_simp
        try with_reducible rfl
       try simp only [Act.put, set9]
       refine wpAnyH_take (i := 3) (v := ?v89) (by simp only [get9]; rfl) (by kernel_rfl) (by kernel_rfl) (by kernel_rfl) (by exact fun _ _ _ h => h) (Or.inl ⟨by rfl, fun w9 hS9 => ?hy89⟩) hHeld ?rest89
       case hy89 =>
        dsimp only at hS9
        skip
        go_simp
        try with_reducible rfl
       try simp only [Act.put, set9]
       refine wpAnyH_take (i := 6) (v := ?v90) (by simp only [get9]; rfl) (by kernel_rfl) (by kernel_rfl) (by kernel_rfl) (by exact fun _ _ _ h => h) (Or.inl ⟨by rfl, fun w9 hS9 => ?hy90⟩) hHeld ?rest90
       case hy90 =>
        dsimp only at hS9
        skip
        go_simp
        try with_reducible rfl
       try simp only [Act.put, set9]
       refine wpAnyH_take (i := 8) (v := ?v91) (by simp only [get9]; rfl) (by kernel_rfl) (by kernel_rfl) (by kernel_rfl) (by exact fun _ _ _ h => h) (Or.inl ⟨by rfl, fun w9 hS9 => ?hy91⟩) hHeld ?rest91
       case hy91 =>
        dsimp only at hS9
        skip
        go_simp
        try with_reducible rfl
       try simp only [Act.put, set9]
       refine wpAnyH_take (i := 9) (v := ?v92) (by simp only [get9]; rfl) (by kernel_rfl) (by kernel_rfl) (by kernel_rfl) (by exact fun _ _ _ h => h) (Or.inl ⟨by rfl, fun w9 hS9 => ?hy92⟩) hHeld ?rest92
       case hy92 =>
        dsimp only at hS9
        skip
        go_simp
        try with_reducible rfl
       try simp only [Act.put, set9]
       refine wpAnyH_ready (rs := [0, 2, 7]) (by kernel_rfl) (by simp) (AllReadyH.cons (by simp only [get9]; rfl) (fun K hK => ?_) (AllReadyH.cons (by simp only [get9]; rfl) (fun K hK => ?_) (AllReadyH.cons (by simp only [get9]; rfl) (fun K hK => ?_) AllReadyH.nil)))
       ·skip
        go_simp
        have SB0 : Hid (StN b a n c WA SB GB (World.drew (World.alloc W4 (.cells #[] 63))) x p k r (some ⟨g, 0, none⟩) m (i + 1)) := Lib.hid ((HS4.out.same (alloc_same W4 _)).same (Below.refl _ _).drew)
        have OE : Hid (OwnM 63 (World.drew (World.alloc W4 (.cells #[] 63))) W4.heap.size (some ⟨W4.heap.size, 0, none⟩) 0 0 []) := Lib.hid ((own_emptyI (enc := Mv.enc) (s := 4) (w := W4) (B := W4.heap.size) 63 (Nat.le_refl _)).same (Below.refl _ _).drew)
        have BE : Hid (Below W4.heap.size W4 (World.drew (World.alloc W4 (.cells #[] 63)))) := Lib.hid ((alloc_same W4 _).drew)
        refine hK.out _ _ trivial (fun hHeld => ?_)
        clear hK K
        try simp only [Act.put, set9]
        refine wpAnyH_ready (rs := [2, 7]) (by kernel_rfl) (by simp) (AllReadyH.cons (by simp only [get9]; rfl) (fun K hK => ?_) (AllReadyH.cons (by simp only [get9]; rfl) (fun K hK => ?_) AllReadyH.nil))
        ·skip
         have ec : (World.alloc W4 (.cells #[] 63)).cell? ⟨GB, 2, none⟩ = some (.slice (some ⟨g, 0, none⟩) m (i + 1)) := (three_cells SB0.out.box.heap).2.2.1
         go_simp
         clear ec
         refine hK.out _ _ trivial (fun hHeld => ?_)
         clear hK K
         try simp only [Act.put, set9]
         refine wpAnyH_take (i := 4) (v := ?v93) (by simp only [get9]; rfl) (by kernel_rfl) (by kernel_rfl) (by kernel_rfl) (by exact fun _ _ _ h => h) (Or.inl ⟨by rfl, fun w9 hS9 => ?hy93⟩) hHeld ?rest93
         case hy93 =>
          dsimp only at hS9
          skip
          go_simp
          try with_reducible rfl
         try simp only [Act.put, set9]
         refine wpAnyH_ready (rs := [5, 7]) (by kernel_rfl) (by simp) (AllReadyH.cons (by simp only [get9]; rfl) (fun K hK => ?_) (AllReadyH.cons (by simp only [get9]; rfl) (fun K hK => ?_) AllReadyH.nil))
         ·skip
          have T1 : Hid (Mvs (World.drew (World.alloc W4 (.cells #[] 63))) (some ⟨g, 0, none⟩) i (x.moves.take i)) := Lib.hid ((SB0.out.box.moves.items Mv.enc_len).take9 (by omega))
          refine step_app_someI _ Mv.enc_len (by omega) Mv.cells (by rfl) (.tmp 44) (.tmp 48) 25 (by rfl) 63 i1 (.agg #[.int .i64 0, .bool false, .int .i64 0, .int .i64 0]) 32 Try.underlying25 HI1.out.1 HI1.out.2.1 HI1.out.2.2.1 HI1.out.2.2.2 rfl (by rfl) OE.out (by rfl) T1.out (by omega) (by omega) BE.out.size ?_
          intro g7 y7 w7 ho7 hg7 hw7
          have B7 : Hid (Below W4.heap.size W4 w7) := Lib.hid (BE.out.grown hg7 BE.out.size (fun r' e' => by cases e'; exact Nat.le_refl _))
          have O7 : Hid (OwnM 63 w7 W4.heap.size (some ⟨g7, 0, none⟩) i y7 (x.moves.take i)) := Lib.hid (by rw [Nat.zero_add, List.nil_append] at ho7; exact ho7)
          have S7 := Lib.hid (HS4.out.same B7.out)
          have N7 : 0 + i = i := Nat.zero_add i
          clear ho7 hg7 hw7
          simp only [N7]
          clear N7
          refine hK.out _ _ trivial (fun hHeld => ?_)
          clear hK K
          try simp only [Act.put, set9]
          refine wpAnyH_ready (rs := [7]) (by kernel_rfl) (by simp) (AllReadyH.cons (by simp only [get9]; rfl) (fun K hK => ?_) AllReadyH.nil)
          have ec : w7.cell? ⟨GB, 2, none⟩ = some (.slice (some ⟨g, 0, none⟩) m (i + 1)) := (three_cells S7.out.box.heap).2.2.1
          go_simp
          clear ec
          refine hK.out _ _ trivial (fun hHeld => ?_)
          clear hK K
          try simp only [Act.put, set9]
          refine wpAnyH_take (i := 10) (v := ?v94) (by simp only [get9]; rfl) (by kernel_rfl) (by kernel_rfl) (by kernel_rfl) (by exact fun _ _ _ h => h) (Or.inl ⟨by rfl, fun w9 hS9 => ?hy94⟩) hHeld ?rest94
          case hy94 =>
           dsimp only at hS9
           skip
           go_simp
           try with_reducible rfl
          try simp only [Act.put, set9]
          refine wpAnyH_ready (rs := [11]) (by kernel_rfl) (by simp) (AllReadyH.cons (by simp only [get9]; rfl) (fun K hK => ?_) AllReadyH.nil)
          have T2 : Hid (Mvs w7 (some ⟨g, 0, none⟩) 0 (x.moves.drop (i + 1))) := Lib.hid (by
        have hl : x.moves.drop (i + 1) = [] := List.drop_eq_nil_of_le (by omega)
        rw [hl]
        exact ⟨rfl, by omega, fun j9 x9 h9 => by simp at h9⟩)
          refine step_app_someI _ Mv.enc_len (by omega) Mv.cells (by rfl) (.tmp 49) (.tmp 54) 25 (by rfl) 63 i1 (.agg #[.int .i64 0, .bool false, .int .i64 0, .int .i64 0]) 32 Try.underlying25 HI1.out.1 HI1.out.2.1 HI1.out.2.2.1 HI1.out.2.2.2 rfl (by rfl) O7.out (by rfl) T2.out (by omega) (by omega) B7.out.size ?_
          intro g8 y8 w8 ho8 hg8 hw8
          have hg7s := (O7.out.span _ rfl).1
          have B8 : Hid (Below W4.heap.size W4 w8) := Lib.hid (B7.out.grown hg8 B7.out.size (fun r' e' => by cases e'; exact hg7s))
          have hg8w : W4.heap.size ≤ g8 := (ho8.span _ rfl).1
          have HNM := Lib.hid (HS4.out.box.newM B8.out (ho8.lower (by omega)) hg8w)
          have SF := Lib.hid (HS4.out.mod HNM.out.1 HNM.out.2)
          have h8 : w8.heap[GB]? = some (.cells #[.int .i64 x.st, .slice p k r, .slice (some ⟨g, 0, none⟩) m (i + 1)] 27 (0, 0)) := (B8.out.block GB HS4.out.box.lt).trans HS4.out.box.heap
          obtain ⟨h80, h81, h82, k80, k81, k82⟩ := three_cells h8
          clear ho8 hg8 hw8 h8
          refine hK.out _ _ trivial (fun hHeld => ?_)
          clear hK K
          try simp only [Act.put, set9]
          refine wpAnyH_take (i := 12) (v := ?v95) (by simp only [get9]; rfl) (by kernel_rfl) (by kernel_rfl) (by kernel_rfl) (by exact fun _ _ _ h => h) (Or.inl ⟨by rfl, fun w9 hS9 => ?hy95⟩) hHeld ?rest95
          case hy95 =>
           dsimp only at hS9
           skip
           go_simp
           try with_reducible rfl
          try simp only [Act.put, set9]
          refine wpAnyH_ready (rs := [13]) (by kernel_rfl) (by simp) (AllReadyH.cons (by simp only [get9]; rfl) (fun K hK => ?_) AllReadyH.nil)
          go_simp
          refine hK.out _ _ trivial (fun hHeld => ?_)
          clear hK K
          try simp only [Act.put, set9]
          refine wpAnyH_done (by kernel_rfl) ?_ _
          clear h80 h81 h82 k80 k81 k82
          go_wp2_with fail
          go_roundw
          case rel => exact ⟨j', _, p, k, r, _, _, _, by go_num, by omega, SF.out, Lib.hid (HO.out.cut i)⟩
          case measure => simp [intOf]
         ·skip
          have ec : (World.alloc W4 (.cells #[] 63)).cell? ⟨GB, 2, none⟩ = some (.slice (some ⟨g, 0, none⟩) m (i + 1)) := (three_cells SB0.out.box.heap).2.2.1
          go_simp
          clear ec
          refine hK.out _ _ trivial (fun hHeld => ?_)
          clear hK K
          try simp only [Act.put, set9]
          refine wpAnyH_take (i := 10) (v := ?v96) (by simp only [get9]; rfl) (by kernel_rfl) (by kernel_rfl) (by kernel_rfl) (by exact fun _ _ _ h => h) (Or.inl ⟨by rfl, fun w9 hS9 => ?hy96⟩) hHeld ?rest96
          case hy96 =>
           dsimp only at hS9
           skip
           go_simp
           try with_reducible rfl
          try simp only [Act.put, set9]
          refine wpAnyH_ready (rs := [5]) (by kernel_rfl) (by simp) (AllReadyH.cons (by simp only [get9]; rfl) (fun K hK => ?_) AllReadyH.nil)
          have T1 : Hid (Mvs (World.drew (World.alloc W4 (.cells #[] 63))) (some ⟨g, 0, none⟩) i (x.moves.take i)) := Lib.hid ((SB0.out.box.moves.items Mv.enc_len).take9 (by omega))
          refine step_app_someI _ Mv.enc_len (by omega) Mv.cells (by rfl) (.tmp 44) (.tmp 48) 25 (by rfl) 63 i1 (.agg #[.int .i64 0, .bool false, .int .i64 0, .int .i64 0]) 32 Try.underlying25 HI1.out.1 HI1.out.2.1 HI1.out.2.2.1 HI1.out.2.2.2 rfl (by rfl) OE.out (by rfl) T1.out (by omega) (by omega) BE.out.size ?_
          intro g7 y7 w7 ho7 hg7 hw7
          have B7 : Hid (Below W4.heap.size W4 w7) := Lib.hid (BE.out.grown hg7 BE.out.size (fun r' e' => by cases e'; exact Nat.le_refl _))
          have O7 : Hid (OwnM 63 w7 W4.heap.size (some ⟨g7, 0, none⟩) i y7 (x.moves.take i)) := Lib.hid (by rw [Nat.zero_add, List.nil_append] at ho7; exact ho7)
          have S7 := Lib.hid (HS4.out.same B7.out)
          have N7 : 0 + i = i := Nat.zero_add i
          clear ho7 hg7 hw7
          simp only [N7]
          clear N7
          refine hK.out _ _ trivial (fun hHeld => ?_)
          clear hK K
          try simp only [Act.put, set9]
          refine wpAnyH_ready (rs := [11]) (by kernel_rfl) (by simp) (AllReadyH.cons (by simp only [get9]; rfl) (fun K hK => ?_) AllReadyH.nil)
          have T2 : Hid (Mvs w7 (some ⟨g, 0, none⟩) 0 (x.moves.drop (i + 1))) := Lib.hid (by
        have hl : x.moves.drop (i + 1) = [] := List.drop_eq_nil_of_le (by omega)
        rw [hl]
        exact ⟨rfl, by omega, fun j9 x9 h9 => by simp at h9⟩)
          refine step_app_someI _ Mv.enc_len (by omega) Mv.cells (by rfl) (.tmp 49) (.tmp 54) 25 (by rfl) 63 i1 (.agg #[.int .i64 0, .bool false, .int .i64 0, .int .i64 0]) 32 Try.underlying25 HI1.out.1 HI1.out.2.1 HI1.out.2.2.1 HI1.out.2.2.2 rfl (by rfl) O7.out (by rfl) T2.out (by omega) (by omega) B7.out.size ?_
          intro g8 y8 w8 ho8 hg8 hw8
          have hg7s := (O7.out.span _ rfl).1
          have B8 : Hid (Below W4.heap.size W4 w8) := Lib.hid (B7.out.grown hg8 B7.out.size (fun r' e' => by cases e'; exact hg7s))
          have hg8w : W4.heap.size ≤ g8 := (ho8.span _ rfl).1
          have HNM := Lib.hid (HS4.out.box.newM B8.out (ho8.lower (by omega)) hg8w)
          have SF := Lib.hid (HS4.out.mod HNM.out.1 HNM.out.2)
          have h8 : w8.heap[GB]? = some (.cells #[.int .i64 x.st, .slice p k r, .slice (some ⟨g, 0, none⟩) m (i + 1)] 27 (0, 0)) := (B8.out.block GB HS4.out.box.lt).trans HS4.out.box.heap
          obtain ⟨h80, h81, h82, k80, k81, k82⟩ := three_cells h8
          clear ho8 hg8 hw8 h8
          refine hK.out _ _ trivial (fun hHeld => ?_)
          clear hK K
          try simp only [Act.put, set9]
          refine wpAnyH_take (i := 12) (v := ?v97) (by simp only [get9]; rfl) (by kernel_rfl) (by kernel_rfl) (by kernel_rfl) (by exact fun _ _ _ h => h) (Or.inl ⟨by rfl, fun w9 hS9 => ?hy97⟩) hHeld ?rest97
          case hy97 =>
           dsimp only at hS9
           skip
           go_simp
           try with_reducible rfl
          try simp only [Act.put, set9]
          refine wpAnyH_ready (rs := [13]) (by kernel_rfl) (by simp) (AllReadyH.cons (by simp only [get9]; rfl) (fun K hK => ?_) AllReadyH.nil)
          go_simp
          refine hK.out _ _ trivial (fun hHeld => ?_)
          clear hK K
          try simp only [Act.put, set9]
          refine wpAnyH_done (by kernel_rfl) ?_ _
          clear h80 h81 h82 k80 k81 k82
          go_wp2_with fail
          go_roundw
          case rel => exact ⟨j', _, p, k, r, _, _, _, by go_num, by omega, SF.out, Lib.hid (HO.out.cut i)⟩
          case measure => simp [intOf]
        ·skip
         have ec : (World.alloc W4 (.cells #[] 63)).cell? ⟨GB, 2, none⟩ = some (.slice (some ⟨g, 0, none⟩) m (i + 1)) := (three_cells SB0.out.box.heap).2.2.1
         go_simp
         clear ec
         refine hK.out _ _ trivial (fun hHeld => ?_)
         clear hK K
         try simp only [Act.put, set9]
         refine wpAnyH_take (i := 10) (v := ?v98) (by simp only [get9]; rfl) (by kernel_rfl) (by kernel_rfl) (by kernel_rfl) (by exact fun _ _ _ h => h) (Or.inl ⟨by rfl, fun w9 hS9 => ?hy98⟩) hHeld ?rest98
         case hy98 =>
          dsimp only at hS9
          skip
          go_simp
          try with_reducible rfl
         try simp only [Act.put, set9]
         refine wpAnyH_ready (rs := [2]) (by kernel_rfl) (by simp) (AllReadyH.cons (by simp only [get9]; rfl) (fun K hK => ?_) AllReadyH.nil)
         have ec : (World.alloc W4 (.cells #[] 63)).cell? ⟨GB, 2, none⟩ = some (.slice (some ⟨g, 0, none⟩) m (i + 1)) := (three_cells SB0.out.box.heap).2.2.1
         go_simp
         clear ec
         refine hK.out _ _ trivial (fun hHeld => ?_)
         clear hK K
         try simp only [Act.put, set9]
         refine wpAnyH_take (i := 4) (v := ?v99) (by simp only [get9]; rfl) (by kernel_rfl) (by kernel_rfl) (by kernel_rfl) (by exact fun _ _ _ h => h) (Or.inl ⟨by rfl, fun w9 hS9 => ?hy99⟩) hHeld ?rest99
         case hy99 =>
          dsimp only at hS9
          skip
          go_simp
          try with_reducible rfl
         try simp only [Act.put, set9]
         refine wpAnyH_ready (rs := [5]) (by kernel_rfl) (by simp) (AllReadyH.cons (by simp only [get9]; rfl) (fun K hK => ?_) AllReadyH.nil)
         have T1 : Hid (Mvs (World.drew (World.alloc W4 (.cells #[] 63))) (some ⟨g, 0, none⟩) i (x.moves.take i)) := Lib.hid ((SB0.out.box.moves.items Mv.enc_len).take9 (by omega))
         refine step_app_someI _ Mv.enc_len (by omega) Mv.cells (by rfl) (.tmp 44) (.tmp 48) 25 (by rfl) 63 i1 (.agg #[.int .i64 0, .bool false, .int .i64 0, .int .i64 0]) 32 Try.underlying25 HI1.out.1 HI1.out.2.1 HI1.out.2.2.1 HI1.out.2.2.2 rfl (by rfl) OE.out (by rfl) T1.out (by omega) (by omega) BE.out.size ?_
         intro g7 y7 w7 ho7 hg7 hw7
         have B7 : Hid (Below W4.heap.size W4 w7) := Lib.hid (BE.out.grown hg7 BE.out.size (fun r' e' => by cases e'; exact Nat.le_refl _))
         have O7 : Hid (OwnM 63 w7 W4.heap.size (some ⟨g7, 0, none⟩) i y7 (x.moves.take i)) := Lib.hid (by rw [Nat.zero_add, List.nil_append] at ho7; exact ho7)
         have S7 := Lib.hid (HS4.out.same B7.out)
         have N7 : 0 + i = i := Nat.zero_add i
         clear ho7 hg7 hw7
         simp only [N7]
         clear N7
         refine hK.out _ _ trivial (fun hHeld => ?_)
         clear hK K
         try simp only [Act.put, set9]
         refine wpAnyH_ready (rs := [11]) (by kernel_rfl) (by simp) (AllReadyH.cons (by simp only [get9]; rfl) (fun K hK => ?_) AllReadyH.nil)
         have T2 : Hid (Mvs w7 (some ⟨g, 0, none⟩) 0 (x.moves.drop (i + 1))) := Lib.hid (by
        have hl : x.moves.drop (i + 1) = [] := List.drop_eq_nil_of_le (by omega)
        rw [hl]
        exact ⟨rfl, by omega, fun j9 x9 h9 => by simp at h9⟩)
         refine step_app_someI _ Mv.enc_len (by omega) Mv.cells (by rfl) (.tmp 49) (.tmp 54) 25 (by rfl) 63 i1 (.agg #[.int .i64 0, .bool false, .int .i64 0, .int .i64 0]) 32 Try.underlying25 HI1.out.1 HI1.out.2.1 HI1.out.2.2.1 HI1.out.2.2.2 rfl (by rfl) O7.out (by rfl) T2.out (by omega) (by omega) B7.out.size ?_
         intro g8 y8 w8 ho8 hg8 hw8
         have hg7s := (O7.out.span _ rfl).1
         have B8 : Hid (Below W4.heap.size W4 w8) := Lib.hid (B7.out.grown hg8 B7.out.size (fun r' e' => by cases e'; exact hg7s))
         have hg8w : W4.heap.size ≤ g8 := (ho8.span _ rfl).1
         have HNM := Lib.hid (HS4.out.box.newM B8.out (ho8.lower (by omega)) hg8w)
         have SF := Lib.hid (HS4.out.mod HNM.out.1 HNM.out.2)
         have h8 : w8.heap[GB]? = some (.cells #[.int .i64 x.st, .slice p k r, .slice (some ⟨g, 0, none⟩) m (i + 1)] 27 (0, 0)) := (B8.out.block GB HS4.out.box.lt).trans HS4.out.box.heap
         obtain ⟨h80, h81, h82, k80, k81, k82⟩ := three_cells h8
         clear ho8 hg8 hw8 h8
         refine hK.out _ _ trivial (fun hHeld => ?_)
         clear hK K
         try simp only [Act.put, set9]
         refine wpAnyH_take (i := 12) (v := ?v100) (by simp only [get9]; rfl) (by kernel_rfl) (by kernel_rfl) (by kernel_rfl) (by exact fun _ _ _ h => h) (Or.inl ⟨by rfl, fun w9 hS9 => ?hy100⟩) hHeld ?rest100
         case hy100 =>
          dsimp only at hS9
          skip
          go_simp
          try with_reducible rfl
         try simp only [Act.put, set9]
         refine wpAnyH_ready (rs := [13]) (by kernel_rfl) (by simp) (AllReadyH.cons (by simp only [get9]; rfl) (fun K hK => ?_) AllReadyH.nil)
         go_simp
         refine hK.out _ _ trivial (fun hHeld => ?_)
         clear hK K
         try simp only [Act.put, set9]
         refine wpAnyH_done (by kernel_rfl) ?_ _
         clear h80 h81 h82 k80 k81 k82
         go_wp2_with fail
         go_roundw
         case rel => exact ⟨j', _, p, k, r, _, _, _, by go_num, by omega, SF.out, Lib.hid (HO.out.cut i)⟩
         case measure => simp [intOf]
       ·skip
        have ec : W4.cell? ⟨GB, 2, none⟩ = some (.slice (some ⟨g, 0, none⟩) m (i + 1)) := (three_cells HS4.out.box.heap).2.2.1
        go_simp
        clear ec
        refine hK.out _ _ trivial (fun hHeld => ?_)
        clear hK K
        try simp only [Act.put, set9]
        refine wpAnyH_take (i := 4) (v := ?v101) (by simp only [get9]; rfl) (by kernel_rfl) (by kernel_rfl) (by kernel_rfl) (by exact fun _ _ _ h => h) (Or.inl ⟨by rfl, fun w9 hS9 => ?hy101⟩) hHeld ?rest101
        case hy101 =>
         dsimp only at hS9
         skip
         go_simp
         try with_reducible rfl
        try simp only [Act.put, set9]
        refine wpAnyH_ready (rs := [0, 7]) (by kernel_rfl) (by simp) (AllReadyH.cons (by simp only [get9]; rfl) (fun K hK => ?_) (AllReadyH.cons (by simp only [get9]; rfl) (fun K hK => ?_) AllReadyH.nil))
        ·skip
         go_simp
         have SB0 : Hid (StN b a n c WA SB GB (World.drew (World.alloc W4 (.cells #[] 63))) x p k r (some ⟨g, 0, none⟩) m (i + 1)) := Lib.hid ((HS4.out.same (alloc_same W4 _)).same (Below.refl _ _).drew)
         have OE : Hid (OwnM 63 (World.drew (World.alloc W4 (.cells #[] 63))) W4.heap.size (some ⟨W4.heap.size, 0, none⟩) 0 0 []) := Lib.hid ((own_emptyI (enc := Mv.enc) (s := 4) (w := W4) (B := W4.heap.size) 63 (Nat.le_refl _)).same (Below.refl _ _).drew)
         have BE : Hid (Below W4.heap.size W4 (World.drew (World.alloc W4 (.cells #[] 63)))) := Lib.hid ((alloc_same W4 _).drew)
         refine hK.out _ _ trivial (fun hHeld => ?_)
         clear hK K
         try simp only [Act.put, set9]
         refine wpAnyH_ready (rs := [5, 7]) (by kernel_rfl) (by simp) (AllReadyH.cons (by simp only [get9]; rfl) (fun K hK => ?_) (AllReadyH.cons (by simp only [get9]; rfl) (fun K hK => ?_) AllReadyH.nil))
         ·skip
          have T1 : Hid (Mvs (World.drew (World.alloc W4 (.cells #[] 63))) (some ⟨g, 0, none⟩) i (x.moves.take i)) := Lib.hid ((SB0.out.box.moves.items Mv.enc_len).take9 (by omega))
          refine step_app_someI _ Mv.enc_len (by omega) Mv.cells (by rfl) (.tmp 44) (.tmp 48) 25 (by rfl) 63 i1 (.agg #[.int .i64 0, .bool false, .int .i64 0, .int .i64 0]) 32 Try.underlying25 HI1.out.1 HI1.out.2.1 HI1.out.2.2.1 HI1.out.2.2.2 rfl (by rfl) OE.out (by rfl) T1.out (by omega) (by omega) BE.out.size ?_
          intro g7 y7 w7 ho7 hg7 hw7
          have B7 : Hid (Below W4.heap.size W4 w7) := Lib.hid (BE.out.grown hg7 BE.out.size (fun r' e' => by cases e'; exact Nat.le_refl _))
          have O7 : Hid (OwnM 63 w7 W4.heap.size (some ⟨g7, 0, none⟩) i y7 (x.moves.take i)) := Lib.hid (by rw [Nat.zero_add, List.nil_append] at ho7; exact ho7)
          have S7 := Lib.hid (HS4.out.same B7.out)
          have N7 : 0 + i = i := Nat.zero_add i
          clear ho7 hg7 hw7
          simp only [N7]
          clear N7
          refine hK.out _ _ trivial (fun hHeld => ?_)
          clear hK K
          try simp only [Act.put, set9]
          refine wpAnyH_ready (rs := [7]) (by kernel_rfl) (by simp) (AllReadyH.cons (by simp only [get9]; rfl) (fun K hK => ?_) AllReadyH.nil)
          have ec : w7.cell? ⟨GB, 2, none⟩ = some (.slice (some ⟨g, 0, none⟩) m (i + 1)) := (three_cells S7.out.box.heap).2.2.1
          go_simp
          clear ec
          refine hK.out _ _ trivial (fun hHeld => ?_)
          clear hK K
          try simp only [Act.put, set9]
          refine wpAnyH_take (i := 10) (v := ?v102) (by simp only [get9]; rfl) (by kernel_rfl) (by kernel_rfl) (by kernel_rfl) (by exact fun _ _ _ h => h) (Or.inl ⟨by rfl, fun w9 hS9 => ?hy102⟩) hHeld ?rest102
          case hy102 =>
           dsimp only at hS9
           skip
           go_simp
           try with_reducible rfl
          try simp only [Act.put, set9]
          refine wpAnyH_ready (rs := [11]) (by kernel_rfl) (by simp) (AllReadyH.cons (by simp only [get9]; rfl) (fun K hK => ?_) AllReadyH.nil)
          have T2 : Hid (Mvs w7 (some ⟨g, 0, none⟩) 0 (x.moves.drop (i + 1))) := Lib.hid (by
        have hl : x.moves.drop (i + 1) = [] := List.drop_eq_nil_of_le (by omega)
        rw [hl]
        exact ⟨rfl, by omega, fun j9 x9 h9 => by simp at h9⟩)
          refine step_app_someI _ Mv.enc_len (by omega) Mv.cells (by rfl) (.tmp 49) (.tmp 54) 25 (by rfl) 63 i1 (.agg #[.int .i64 0, .bool false, .int .i64 0, .int .i64 0]) 32 Try.underlying25 HI1.out.1 HI1.out.2.1 HI1.out.2.2.1 HI1.out.2.2.2 rfl (by rfl) O7.out (by rfl) T2.out (by omega) (by omega) B7.out.size ?_
          intro g8 y8 w8 ho8 hg8 hw8
          have hg7s := (O7.out.span _ rfl).1
          have B8 : Hid (Below W4.heap.size W4 w8) := Lib.hid (B7.out.grown hg8 B7.out.size (fun r' e' => by cases e'; exact hg7s))
          have hg8w : W4.heap.size ≤ g8 := (ho8.span _ rfl).1
          have HNM := Lib.hid (HS4.out.box.newM B8.out (ho8.lower (by omega)) hg8w)
          have SF := Lib.hid (HS4.out.mod HNM.out.1 HNM.out.2)
          have h8 : w8.heap[GB]? = some (.cells #[.int .i64 x.st, .slice p k r, .slice (some ⟨g, 0, none⟩) m (i + 1)] 27 (0, 0)) := (B8.out.block GB HS4.out.box.lt).trans HS4.out.box.heap
          obtain ⟨h80, h81, h82, k80, k81, k82⟩ := three_cells h8
          clear ho8 hg8 hw8 h8
          refine hK.out _ _ trivial (fun hHeld => ?_)
          clear hK K
          try simp only [Act.put, set9]
          refine wpAnyH_take (i := 12) (v := ?v103) (by simp only [get9]; rfl) (by kernel_rfl) (by kernel_rfl) (by kernel_rfl) (by exact fun _ _ _ h => h) (Or.inl ⟨by rfl, fun w9 hS9 => ?hy103⟩) hHeld ?rest103
          case hy103 =>
           dsimp only at hS9
           skip
           go_simp
           try with_reducible rfl
          try simp only [Act.put, set9]
          refine wpAnyH_ready (rs := [13]) (by kernel_rfl) (by simp) (AllReadyH.cons (by simp only [get9]; rfl) (fun K hK => ?_) AllReadyH.nil)
          go_simp
          refine hK.out _ _ trivial (fun hHeld => ?_)
          clear hK K
          try simp only [Act.put, set9]
          refine wpAnyH_done (by kernel_rfl) ?_ _
          clear h80 h81 h82 k80 k81 k82
          go_wp2_with fail
          go_roundw
          case rel => exact ⟨j', _, p, k, r, _, _, _, by go_num, by omega, SF.out, Lib.hid (HO.out.cut i)⟩
          case measure => simp [intOf]
         ·skip
          have ec : (World.alloc W4 (.cells #[] 63)).cell? ⟨GB, 2, none⟩ = some (.slice (some ⟨g, 0, none⟩) m (i + 1)) := (three_cells SB0.out.box.heap).2.2.1
          go_simp
          clear ec
          refine hK.out _ _ trivial (fun hHeld => ?_)
          clear hK K
          try simp only [Act.put, set9]
          refine wpAnyH_take (i := 10) (v := ?v104) (by simp only [get9]; rfl) (by kernel_rfl) (by kernel_rfl) (by kernel_rfl) (by exact fun _ _ _ h => h) (Or.inl ⟨by rfl, fun w9 hS9 => ?hy104⟩) hHeld ?rest104
          case hy104 =>
           dsimp only at hS9
           skip
           go_simp
           try with_reducible rfl
          try simp only [Act.put, set9]
          refine wpAnyH_ready (rs := [5]) (by kernel_rfl) (by simp) (AllReadyH.cons (by simp only [get9]; rfl) (fun K hK => ?_) AllReadyH.nil)
          have T1 : Hid (Mvs (World.drew (World.alloc W4 (.cells #[] 63))) (some ⟨g, 0, none⟩) i (x.moves.take i)) := Lib.hid ((SB0.out.box.moves.items Mv.enc_len).take9 (by omega))
          refine step_app_someI _ Mv.enc_len (by omega) Mv.cells (by rfl) (.tmp 44) (.tmp 48) 25 (by rfl) 63 i1 (.agg #[.int .i64 0, .bool false, .int .i64 0, .int .i64 0]) 32 Try.underlying25 HI1.out.1 HI1.out.2.1 HI1.out.2.2.1 HI1.out.2.2.2 rfl (by rfl) OE.out (by rfl) T1.out (by omega) (by omega) BE.out.size ?_
          intro g7 y7 w7 ho7 hg7 hw7
          have B7 : Hid (Below W4.heap.size W4 w7) := Lib.hid (BE.out.grown hg7 BE.out.size (fun r' e' => by cases e'; exact Nat.le_refl _))
          have O7 : Hid (OwnM 63 w7 W4.heap.size (some ⟨g7, 0, none⟩) i y7 (x.moves.take i)) := Lib.hid (by rw [Nat.zero_add, List.nil_append] at ho7; exact ho7)
          have S7 := Lib.hid (HS4.out.same B7.out)
          have N7 : 0 + i = i := Nat.zero_add i
          clear ho7 hg7 hw7
          simp only [N7]
          clear N7
          refine hK.out _ _ trivial (fun hHeld => ?_)
          clear hK K
          try simp only [Act.put, set9]
          refine wpAnyH_ready (rs := [11]) (by kernel_rfl) (by simp) (AllReadyH.cons (by simp only [get9]; rfl) (fun K hK => ?_) AllReadyH.nil)
          have T2 : Hid (Mvs w7 (some ⟨g, 0, none⟩) 0 (x.moves.drop (i + 1))) := Lib.hid (by
        have hl : x.moves.drop (i + 1) = [] := List.drop_eq_nil_of_le (by omega)
        rw [hl]
        exact ⟨rfl, by omega, fun j9 x9 h9 => by simp at h9⟩)
          refine step_app_someI _ Mv.enc_len (by omega) Mv.cells (by rfl) (.tmp 49) (.tmp 54) 25 (by rfl) 63 i1 (.agg #[.int .i64 0, .bool false, .int .i64 0, .int .i64 0]) 32 Try.underlying25 HI1.out.1 HI1.out.2.1 HI1.out.2.2.1 HI1.out.2.2.2 rfl (by rfl) O7.out (by rfl) T2.out (by omega) (by omega) B7.out.size ?_
          intro g8 y8 w8 ho8 hg8 hw8
          have hg7s := (O7.out.span _ rfl).1
          have B8 : Hid (Below W4.heap.size W4 w8) := Lib.hid (B7.out.grown hg8 B7.out.size (fun r' e' => by cases e'; exact hg7s))
          have hg8w : W4.heap.size ≤ g8 := (ho8.span _ rfl).1
          have HNM := Lib.hid (HS4.out.box.newM B8.out (ho8.lower (by omega)) hg8w)
          have SF := Lib.hid (HS4.out.mod HNM.out.1 HNM.out.2)
          have h8 : w8.heap[GB]? = some (.cells #[.int .i64 x.st, .slice p k r, .slice (some ⟨g, 0, none⟩) m (i + 1)] 27 (0, 0)) := (B8.out.block GB HS4.out.box.lt).trans HS4.out.box.heap
          obtain ⟨h80, h81, h82, k80, k81, k82⟩ := three_cells h8
          clear ho8 hg8 hw8 h8
          refine hK.out _ _ trivial (fun hHeld => ?_)
          clear hK K
          try simp only [Act.put, set9]
          refine wpAnyH_take (i := 12) (v := ?v105) (by simp only [get9]; rfl) (by kernel_rfl) (by kernel_rfl) (by kernel_rfl) (by exact fun _ _ _ h => h) (Or.inl ⟨by rfl, fun w9 hS9 => ?hy105⟩) hHeld ?rest105
          case hy105 =>
           dsimp only at hS9
           skip
           go_simp
           try with_reducible rfl
          try simp only [Act.put, set9]
          refine wpAnyH_ready (rs := [13]) (by kernel_rfl) (by simp) (AllReadyH.cons (by simp only [get9]; rfl) (fun K hK => ?_) AllReadyH.nil)
          go_simp
          refine hK.out _ _ trivial (fun hHeld => ?_)
          clear hK K
          try simp only [Act.put, set9]
          refine wpAnyH_done (by kernel_rfl) ?_ _
          clear h80 h81 h82 k80 k81 k82
          go_wp2_with fail
          go_roundw
          case rel => exact ⟨j', _, p, k, r, _, _, _, by go_num, by omega, SF.out, Lib.hid (HO.out.cut i)⟩
          case measure => simp [intOf]
        ·skip
         have ec : W4.cell? ⟨GB, 2, none⟩ = some (.slice (some ⟨g, 0, none⟩) m (i + 1)) := (three_cells HS4.out.box.heap).2.2.1
         go_simp
         clear ec
         refine hK.out _ _ trivial (fun hHeld => ?_)
         clear hK K
         try simp only [Act.put, set9]
         refine wpAnyH_take (i := 10) (v := ?v106) (by simp only [get9]; rfl) (by kernel_rfl) (by kernel_rfl) (by kernel_rfl) (by exact fun _ _ _ h => h) (Or.inl ⟨by rfl, fun w9 hS9 => ?hy106⟩) hHeld ?rest106
         case hy106 =>
          dsimp only at hS9
          skip
          go_simp
          try with_reducible rfl
         try simp only [Act.put, set9]
         refine wpAnyH_ready (rs := [0]) (by kernel_rfl) (by simp) (AllReadyH.cons (by simp only [get9]; rfl) (fun K hK => ?_) AllReadyH.nil)
         go_simp
         have SB0 : Hid (StN b a n c WA SB GB (World.drew (World.alloc W4 (.cells #[] 63))) x p k r (some ⟨g, 0, none⟩) m (i + 1)) := Lib.hid ((HS4.out.same (alloc_same W4 _)).same (Below.refl _ _).drew)
         have OE : Hid (OwnM 63 (World.drew (World.alloc W4 (.cells #[] 63))) W4.heap.size (some ⟨W4.heap.size, 0, none⟩) 0 0 []) := Lib.hid ((own_emptyI (enc := Mv.enc) (s := 4) (w := W4) (B := W4.heap.size) 63 (Nat.le_refl _)).same (Below.refl _ _).drew)
         have BE : Hid (Below W4.heap.size W4 (World.drew (World.alloc W4 (.cells #[] 63)))) := Lib.hid ((alloc_same W4 _).drew)
         refine hK.out _ _ trivial (fun hHeld => ?_)
         clear hK K
         try simp only [Act.put, set9]
         refine wpAnyH_ready (rs := [5]) (by kernel_rfl) (by simp) (AllReadyH.cons (by simp only [get9]; rfl) (fun K hK => ?_) AllReadyH.nil)
         have T1 : Hid (Mvs (World.drew (World.alloc W4 (.cells #[] 63))) (some ⟨g, 0, none⟩) i (x.moves.take i)) := Lib.hid ((SB0.out.box.moves.items Mv.enc_len).take9 (by omega))
         refine step_app_someI _ Mv.enc_len (by omega) Mv.cells (by rfl) (.tmp 44) (.tmp 48) 25 (by rfl) 63 i1 (.agg #[.int .i64 0, .bool false, .int .i64 0, .int .i64 0]) 32 Try.underlying25 HI1.out.1 HI1.out.2.1 HI1.out.2.2.1 HI1.out.2.2.2 rfl (by rfl) OE.out (by rfl) T1.out (by omega) (by omega) BE.out.size ?_
         intro g7 y7 w7 ho7 hg7 hw7
         have B7 : Hid (Below W4.heap.size W4 w7) := Lib.hid (BE.out.grown hg7 BE.out.size (fun r' e' => by cases e'; exact Nat.le_refl _))
         have O7 : Hid (OwnM 63 w7 W4.heap.size (some ⟨g7, 0, none⟩) i y7 (x.moves.take i)) := Lib.hid (by rw [Nat.zero_add, List.nil_append] at ho7; exact ho7)
         have S7 := Lib.hid (HS4.out.same B7.out)
         have N7 : 0 + i = i := Nat.zero_add i
         clear ho7 hg7 hw7
         simp only [N7]
         clear N7
         refine hK.out _ _ trivial (fun hHeld => ?_)
         clear hK K
         try simp only [Act.put, set9]
         refine wpAnyH_ready (rs := [11]) (by kernel_rfl) (by simp) (AllReadyH.cons (by simp only [get9]; rfl) (fun K hK => ?_) AllReadyH.nil)
         have T2 : Hid (Mvs w7 (some ⟨g, 0, none⟩) 0 (x.moves.drop (i + 1))) := Lib.hid (by
        have hl : x.moves.drop (i + 1) = [] := List.drop_eq_nil_of_le (by omega)
        rw [hl]
        exact ⟨rfl, by omega, fun j9 x9 h9 => by simp at h9⟩)
         refine step_app_someI _ Mv.enc_len (by omega) Mv.cells (by rfl) (.tmp 49) (.tmp 54) 25 (by rfl) 63 i1 (.agg #[.int .i64 0, .bool false, .int .i64 0, .int .i64 0]) 32 Try.underlying25 HI1.out.1 HI1.out.2.1 HI1.out.2.2.1 HI1.out.2.2.2 rfl (by rfl) O7.out (by rfl) T2.out (by omega) (by omega) B7.out.size ?_
         intro g8 y8 w8 ho8 hg8 hw8
         have hg7s := (O7.out.span _ rfl).1
         have B8 : Hid (Below W4.heap.size W4 w8) := Lib.hid (B7.out.grown hg8 B7.out.size (fun r' e' => by cases e'; exact hg7s))
         have hg8w : W4.heap.size ≤ g8 := (ho8.span _ rfl).1
         have HNM := Lib.hid (HS4.out.box.newM B8.out (ho8.lower (by omega)) hg8w)
         have SF := Lib.hid (HS4.out.mod HNM.out.1 HNM.out.2)
         have h8 : w8.heap[GB]? = some (.cells #[.int .i64 x.st, .slice p k r, .slice (some ⟨g, 0, none⟩) m (i + 1)] 27 (0, 0)) := (B8.out.block GB HS4.out.box.lt).trans HS4.out.box.heap
         obtain ⟨h80, h81, h82, k80, k81, k82⟩ := three_cells h8
         clear ho8 hg8 hw8 h8
         refine hK.out _ _ trivial (fun hHeld => ?_)
         clear hK K
         try simp only [Act.put, set9]
         refine wpAnyH_take (i := 12) (v := ?v107) (by simp only [get9]; rfl) (by kernel_rfl) (by kernel_rfl) (by kernel_rfl) (by exact fun _ _ _ h => h) (Or.inl ⟨by rfl, fun w9 hS9 => ?hy107⟩) hHeld ?rest107
         case hy107 =>
          dsimp only at hS9
          skip
          go_simp
          try with_reducible rfl
         try simp only [Act.put, set9]
         refine wpAnyH_ready (rs := [13]) (by kernel_rfl) (by simp) (AllReadyH.cons (by simp only [get9]; rfl) (fun K hK => ?_) AllReadyH.nil)
         go_simp
         refine hK.out _ _ trivial (fun hHeld => ?_)
         clear hK K
         try simp only [Act.put, set9]
         refine wpAnyH_done (by kernel_rfl) ?_ _
         clear h80 h81 h82 k80 k81 k82
         go_wp2_with fail
         go_roundw
         case rel => exact ⟨j', _, p, k, r, _, _, _, by go_num, by omega, SF.out, Lib.hid (HO.out.cut i)⟩
         case measure => simp [intOf]
       ·skip
        have ec : W4.cell? ⟨GB, 2, none⟩ = some (.slice (some ⟨g, 0, none⟩) m (i + 1)) := (three_cells HS4.out.box.heap).2.2.1
        go_simp
        clear ec
        refine hK.out _ _ trivial (fun hHeld => ?_)
        clear hK K
        try simp only [Act.put, set9]
        refine wpAnyH_take (i := 10) (v := ?v108) (by simp only [get9]; rfl) (by kernel_rfl) (by kernel_rfl) (by kernel_rfl) (by exact fun _ _ _ h => h) (Or.inl ⟨by rfl, fun w9 hS9 => ?hy108⟩) hHeld ?rest108
        case hy108 =>
         dsimp only at hS9
         skip
         go_simp
         try with_reducible rfl
        try simp only [Act.put, set9]
        refine wpAnyH_ready (rs := [0, 2]) (by kernel_rfl) (by simp) (AllReadyH.cons (by simp only [get9]; rfl) (fun K hK => ?_) (AllReadyH.cons (by simp only [get9]; rfl) (fun K hK => ?_) AllReadyH.nil))
        ·skip
         go_simp
         have SB0 : Hid (StN b a n c WA SB GB (World.drew (World.alloc W4 (.cells #[] 63))) x p k r (some ⟨g, 0, none⟩) m (i + 1)) := Lib.hid ((HS4.out.same (alloc_same W4 _)).same (Below.refl _ _).drew)
         have OE : Hid (OwnM 63 (World.drew (World.alloc W4 (.cells #[] 63))) W4.heap.size (some ⟨W4.heap.size, 0, none⟩) 0 0 []) := Lib.hid ((own_emptyI (enc := Mv.enc) (s := 4) (w := W4) (B := W4.heap.size) 63 (Nat.le_refl _)).same (Below.refl _ _).drew)
         have BE : Hid (Below W4.heap.size W4 (World.drew (World.alloc W4 (.cells #[] 63)))) := Lib.hid ((alloc_same W4 _).drew)
         refine hK.out _ _ trivial (fun hHeld => ?_)
         clear hK K
         try simp only [Act.put, set9]
         refine wpAnyH_ready (rs := [2]) (by kernel_rfl) (by simp) (AllReadyH.cons (by simp only [get9]; rfl) (fun K hK => ?_) AllReadyH.nil)
         have ec : (World.alloc W4 (.cells #[] 63)).cell? ⟨GB, 2, none⟩ = some (.slice (some ⟨g, 0, none⟩) m (i + 1)) := (three_cells SB0.out.box.heap).2.2.1
         go_simp
         clear ec
         refine hK.out _ _ trivial (fun hHeld => ?_)
         clear hK K
         try simp only [Act.put, set9]
         refine wpAnyH_take (i := 4) (v := ?v109) (by simp only [get9]; rfl) (by kernel_rfl) (by kernel_rfl) (by kernel_rfl) (by exact fun _ _ _ h => h) (Or.inl ⟨by rfl, fun w9 hS9 => ?hy109⟩) hHeld ?rest109
         case hy109 =>
          dsimp only at hS9
          skip
          go_simp
          try with_reducible rfl
         try simp only [Act.put, set9]
         refine wpAnyH_ready (rs := [5]) (by kernel_rfl) (by simp) (AllReadyH.cons (by simp only [get9]; rfl) (fun K hK => ?_) AllReadyH.nil)
         have T1 : Hid (Mvs (World.drew (World.alloc W4 (.cells #[] 63))) (some ⟨g, 0, none⟩) i (x.moves.take i)) := Lib.hid ((SB0.out.box.moves.items Mv.enc_len).take9 (by omega))
         refine step_app_someI _ Mv.enc_len (by omega) Mv.cells (by rfl) (.tmp 44) (.tmp 48) 25 (by rfl) 63 i1 (.agg #[.int .i64 0, .bool false, .int .i64 0, .int .i64 0]) 32 Try.underlying25 HI1.out.1 HI1.out.2.1 HI1.out.2.2.1 HI1.out.2.2.2 rfl (by rfl) OE.out (by rfl) T1.out (by omega) (by omega) BE.out.size ?_
         intro g7 y7 w7 ho7 hg7 hw7
         have B7 : Hid (Below W4.heap.size W4 w7) := Lib.hid (BE.out.grown hg7 BE.out.size (fun r' e' => by cases e'; exact Nat.le_refl _))
         have O7 : Hid (OwnM 63 w7 W4.heap.size (some ⟨g7, 0, none⟩) i y7 (x.moves.take i)) := Lib.hid (by rw [Nat.zero_add, List.nil_append] at ho7; exact ho7)
         have S7 := Lib.hid (HS4.out.same B7.out)
         have N7 : 0 + i = i := Nat.zero_add i
         clear ho7 hg7 hw7
         simp only [N7]
         clear N7
         refine hK.out _ _ trivial (fun hHeld => ?_)
         clear hK K
         try simp only [Act.put, set9]
         refine wpAnyH_ready (rs := [11]) (by kernel_rfl) (by simp) (AllReadyH.cons (by simp only [get9]; rfl) (fun K hK => ?_) AllReadyH.nil)
         have T2 : Hid (Mvs w7 (some ⟨g, 0, none⟩) 0 (x.moves.drop (i + 1))) := Lib.hid (by
        have hl : x.moves.drop (i + 1) = [] := List.drop_eq_nil_of_le (by omega)
        rw [hl]
        exact ⟨rfl, by omega, fun j9 x9 h9 => by simp at h9⟩)
         refine step_app_someI _ Mv.enc_len (by omega) Mv.cells (by rfl) (.tmp 49) (.tmp 54) 25 (by rfl) 63 i1 (.agg #[.int .i64 0, .bool false, .int .i64 0, .int .i64 0]) 32 Try.underlying25 HI1.out.1 HI1.out.2.1 HI1.out.2.2.1 HI1.out.2.2.2 rfl (by rfl) O7.out (by rfl) T2.out (by omega) (by omega) B7.out.size ?_
         intro g8 y8 w8 ho8 hg8 hw8
         have hg7s := (O7.out.span _ rfl).1
         have B8 : Hid (Below W4.heap.size W4 w8) := Lib.hid (B7.out.grown hg8 B7.out.size (fun r' e' => by cases e'; exact hg7s))
         have hg8w : W4.heap.size ≤ g8 := (ho8.span _ rfl).1
         have HNM := Lib.hid (HS4.out.box.newM B8.out (ho8.lower (by omega)) hg8w)
         have SF := Lib.hid (HS4.out.mod HNM.out.1 HNM.out.2)
         have h8 : w8.heap[GB]? = some (.cells #[.int .i64 x.st, .slice p k r, .slice (some ⟨g, 0, none⟩) m (i + 1)] 27 (0, 0)) := (B8.out.block GB HS4.out.box.lt).trans HS4.out.box.heap
         obtain ⟨h80, h81, h82, k80, k81, k82⟩ := three_cells h8
         clear ho8 hg8 hw8 h8
         refine hK.out _ _ trivial (fun hHeld => ?_)
         clear hK K
         try simp only [Act.put, set9]
         refine wpAnyH_take (i := 12) (v := ?v110) (by simp only [get9]; rfl) (by kernel_rfl) (by kernel_rfl) (by kernel_rfl) (by exact fun _ _ _ h => h) (Or.inl ⟨by rfl, fun w9 hS9 => ?hy110⟩) hHeld ?rest110
         case hy110 =>
          dsimp only at hS9
          skip
          go_simp
          try with_reducible rfl
         try simp only [Act.put, set9]
         refine wpAnyH_ready (rs := [13]) (by kernel_rfl) (by simp) (AllReadyH.cons (by simp only [get9]; rfl) (fun K hK => ?_) AllReadyH.nil)
         go_simp
         refine hK.out _ _ trivial (fun hHeld => ?_)
         clear hK K
         try simp only [Act.put, set9]
         refine wpAnyH_done (by kernel_rfl) ?_ _
         clear h80 h81 h82 k80 k81 k82
         go_wp2_with fail
         go_roundw
         case rel => exact ⟨j', _, p, k, r, _, _, _, by go_num, by omega, SF.out, Lib.hid (HO.out.cut i)⟩
         case measure => simp [intOf]
        ·skip
         have ec : W4.cell? ⟨GB, 2, none⟩ = some (.slice (some ⟨g, 0, none⟩) m (i + 1)) := (three_cells HS4.out.box.heap).2.2.1
         go_simp
         clear ec
         refine hK.out _ _ trivial (fun hHeld => ?_)
         clear hK K
         try simp only [Act.put, set9]
         refine wpAnyH_take (i := 4) (v := ?v111) (by simp only [get9]; rfl) (by kernel_rfl) (by kernel_rfl) (by kernel_rfl) (by exact fun _ _ _ h => h) (Or.inl ⟨by rfl, fun w9 hS9 => ?hy111⟩) hHeld ?rest111
         case hy111 =>
          dsimp only at hS9
          skip
          go_simp
          try with_reducible rfl
         try simp only [Act.put, set9]
         refine wpAnyH_ready (rs := [0]) (by kernel_rfl) (by simp) (AllReadyH.cons (by simp only [get9]; rfl) (fun K hK => ?_) AllReadyH.nil)
         go_simp
         have SB0 : Hid (StN b a n c WA SB GB (World.drew (World.alloc W4 (.cells #[] 63))) x p k r (some ⟨g, 0, none⟩) m (i + 1)) := Lib.hid ((HS4.out.same (alloc_same W4 _)).same (Below.refl _ _).drew)
         have OE : Hid (OwnM 63 (World.drew (World.alloc W4 (.cells #[] 63))) W4.heap.size (some ⟨W4.heap.size, 0, none⟩) 0 0 []) := Lib.hid ((own_emptyI (enc := Mv.enc) (s := 4) (w := W4) (B := W4.heap.size) 63 (Nat.le_refl _)).same (Below.refl _ _).drew)
         have BE : Hid (Below W4.heap.size W4 (World.drew (World.alloc W4 (.cells #[] 63)))) := Lib.hid ((alloc_same W4 _).drew)
         refine hK.out _ _ trivial (fun hHeld => ?_)
         clear hK K
         try simp only [Act.put, set9]
         refine wpAnyH_ready (rs := [5]) (by kernel_rfl) (by simp) (AllReadyH.cons (by simp only [get9]; rfl) (fun K hK => ?_) AllReadyH.nil)
         have T1 : Hid (Mvs (World.drew (World.alloc W4 (.cells #[] 63))) (some ⟨g, 0, none⟩) i (x.moves.take i)) := Lib.hid ((SB0.out.box.moves.items Mv.enc_len).take9 (by omega))
         refine step_app_someI _ Mv.enc_len (by omega) Mv.cells (by rfl) (.tmp 44) (.tmp 48) 25 (by rfl) 63 i1 (.agg #[.int .i64 0, .bool false, .int .i64 0, .int .i64 0]) 32 Try.underlying25 HI1.out.1 HI1.out.2.1 HI1.out.2.2.1 HI1.out.2.2.2 rfl (by rfl) OE.out (by rfl) T1.out (by omega) (by omega) BE.out.size ?_
         intro g7 y7 w7 ho7 hg7 hw7
         have B7 : Hid (Below W4.heap.size W4 w7) := Lib.hid (BE.out.grown hg7 BE.out.size (fun r' e' => by cases e'; exact Nat.le_refl _))
         have O7 : Hid (OwnM 63 w7 W4.heap.size (some ⟨g7, 0, none⟩) i y7 (x.moves.take i)) := Lib.hid (by rw [Nat.zero_add, List.nil_append] at ho7; exact ho7)
         have S7 := Lib.hid (HS4.out.same B7.out)
         have N7 : 0 + i = i := Nat.zero_add i
         clear ho7 hg7 hw7
         simp only [N7]
         clear N7
         refine hK.out _ _ trivial (fun hHeld => ?_)
         clear hK K
         try simp only [Act.put, set9]
         refine wpAnyH_ready (rs := [11]) (by kernel_rfl) (by simp) (AllReadyH.cons (by simp only [get9]; rfl) (fun K hK => ?_) AllReadyH.nil)
         have T2 : Hid (Mvs w7 (some ⟨g, 0, none⟩) 0 (x.moves.drop (i + 1))) := Lib.hid (by
        have hl : x.moves.drop (i + 1) = [] := List.drop_eq_nil_of_le (by omega)
        rw [hl]
        exact ⟨rfl, by omega, fun j9 x9 h9 => by simp at h9⟩)
         refine step_app_someI _ Mv.enc_len (by omega) Mv.cells (by rfl) (.tmp 49) (.tmp 54) 25 (by rfl) 63 i1 (.agg #[.int .i64 0, .bool false, .int .i64 0, .int .i64 0]) 32 Try.underlying25 HI1.out.1 HI1.out.2.1 HI1.out.2.2.1 HI1.out.2.2.2 rfl (by rfl) O7.out (by rfl) T2.out (by omega) (by omega) B7.out.size ?_
         intro g8 y8 w8 ho8 hg8 hw8
         have hg7s := (O7.out.span _ rfl).1
         have B8 : Hid (Below W4.heap.size W4 w8) := Lib.hid (B7.out.grown hg8 B7.out.size (fun r' e' => by cases e'; exact hg7s))
         have hg8w : W4.heap.size ≤ g8 := (ho8.span _ rfl).1
         have HNM := Lib.hid (HS4.out.box.newM B8.out (ho8.lower (by omega)) hg8w)
         have SF := Lib.hid (HS4.out.mod HNM.out.1 HNM.out.2)
         have h8 : w8.heap[GB]? = some (.cells #[.int .i64 x.st, .slice p k r, .slice (some ⟨g, 0, none⟩) m (i + 1)] 27 (0, 0)) := (B8.out.block GB HS4.out.box.lt).trans HS4.out.box.heap
         obtain ⟨h80, h81, h82, k80, k81, k82⟩ := three_cells h8
         clear ho8 hg8 hw8 h8
         refine hK.out _ _ trivial (fun hHeld => ?_)
         clear hK K
         try simp only [Act.put, set9]
         refine wpAnyH_take (i := 12) (v := ?v112) (by simp only [get9]; rfl) (by kernel_rfl) (by kernel_rfl) (by kernel_rfl) (by exact fun _ _ _ h => h) (Or.inl ⟨by rfl, fun w9 hS9 => ?hy112⟩) hHeld ?rest112
         case hy112 =>
          dsimp only at hS9
          skip
          go_simp
          try with_reducible rfl
         try simp only [Act.put, set9]
         refine wpAnyH_ready (rs := [13]) (by kernel_rfl) (by simp) (AllReadyH.cons (by simp only [get9]; rfl) (fun K hK => ?_) AllReadyH.nil)
         go_simp
         refine hK.out _ _ trivial (fun hHeld => ?_)
         clear hK K
         try simp only [Act.put, set9]
         refine wpAnyH_done (by kernel_rfl) ?_ _
         clear h80 h81 h82 k80 k81 k82
         go_wp2_with fail
         go_roundw
         case rel => exact ⟨j', _, p, k, r, _, _, _, by go_num, by omega, SF.out, Lib.hid (HO.out.cut i)⟩
         case measure => simp [intOf]
     ·obtain ⟨c0, c1, c2, c3⟩ := four_at9 G7.out
      go_wp2_with fail
      go_roundw
      case rel => exact ⟨j', x, p, k, r, (some ⟨g, 0, none⟩), m, d, by go_num, by omega, HS4.out, Lib.hid (HO.out)⟩
      case measure => simp [intOf]
    | false =>
     have HZ := Lib.hid hz
     have HZM := Lib.hid (HO.out.2.2.2 _ (List.mem_of_getElem? hz))
     obtain ⟨c0, c1, c2, c3⟩ := CZ.out
     obtain ⟨e0, e1, e2, -, -, -⟩ := three_cells HS3.out.box.heap
     have G5 := Lib.hid (heap_alloc_new W3 (.cells #[.int .i64 zf, .bool false, .int .i64 zm, .int .i64 zt] 63 (0, 0)))
     change Hid ((W3.alloc (.cells #[.int .i64 zf, .bool false, .int .i64 zm, .int .i64 zt] 63)).heap[W3.heap.size]? = _) at G5
     have S5 := Lib.hid (HS3.out.same (alloc_same W3 (.cells #[.int .i64 zf, .bool false, .int .i64 zm, .int .i64 zt] 63)))
     have hs45 : W3.heap.size < (W3.alloc (.cells #[.int .i64 zf, .bool false, .int .i64 zm, .int .i64 zt] 63)).heap.size := by simp
     obtain ⟨d0, d1, d2, d3⟩ := four_at9 G5.out
     obtain ⟨g0, g1, g2, -, -, -⟩ := three_cells S5.out.box.heap
     go_wp2_with fail
     clear c0 c1 c2 c3 e0 e1 e2 d0 d1 d2 d3 g0 g1 g2
     obtain ⟨Gm, hGm⟩ : ∃ u, u = W3.heap.size := ⟨_, rfl⟩
     have hpG : Hid (∀ ad, p = some ad → ad.block ≠ Gm) := Lib.hid fun ad e => by have := (HS3.out.box.ends.span ad e).2; omega
     have hqG : Hid (∀ ad, some (⟨g, 0, none⟩ : Addr) = some ad → ad.block ≠ Gm) := Lib.hid fun ad e => by have := (HS3.out.box.moves.span ad e).2; omega
     rw [← hGm] at G5
     rw [← hGm]
     have hGm2 : GB < Gm := by omega
     have hGm3 : W3.heap.size ≤ Gm := by omega
     clear hGm
     generalize W3.alloc (.cells #[.int .i64 zf, .bool false, .int .i64 zm, .int .i64 zt] 63) = W5 at *
     refine (below_any b a n c 5 (by omega) (by omega) _ S5.out.dr.1).mono ?_
     rintro e w6 ⟨y2, hy20, hy21, rfl, hd6⟩
     have S6 := Lib.hid (S5.out.only hd6)
     have G6 := Lib.hid ((hd6.2.block Gm (Array.getElem?_eq_some_iff.1 G5.out).1 (by omega)).trans G5.out)
     clear hd6
     obtain ⟨c0, c1, c2, c3⟩ := four_at9 G6.out
     have f2 := block_frozen G6.out 2
     have G7 := Lib.hid (heap_setCell_same w6 Gm 2 _ _ (.int .i64 y2) G6.out)
     have S7 := Lib.hid (S6.out.put1 (Gm := Gm) hpG.out hqG.out (by omega) (by omega) 2 (.int .i64 y2))
     replace G7 : Hid ((w6.setCell ⟨Gm, 2, none⟩ (.int .i64 y2)).heap[Gm]? = some (.cells #[.int .i64 zf, .bool false, .int .i64 y2, .int .i64 zt] 63 (0, 0))) := Lib.hid G7.out
     obtain ⟨e0, e1, e2, -, -, -⟩ := three_cells S7.out.box.heap
     go_wp2_with fail
     clear c0 c1 c2 c3 f2 e0 e1 e2
     generalize w6.setCell ⟨Gm, 2, none⟩ (.int .i64 y2) = W7 at *
     refine (below_any b a n c x.st (by omega) (by omega) _ S7.out.dr.1).mono ?_
     rintro e w8 ⟨y4, hy40, hy41, rfl, hd8⟩
     have S8 := Lib.hid (S7.out.only hd8)
     have G8 := Lib.hid ((hd8.2.block Gm (Array.getElem?_eq_some_iff.1 G7.out).1 (by omega)).trans G7.out)
     clear hd8
     obtain ⟨c0, c1, c2, c3⟩ := four_at9 G8.out
     have f3 := block_frozen G8.out 3
     have G9 := Lib.hid (heap_setCell_same w8 Gm 3 _ _ (.int .i64 y4) G8.out)
     have S9 := Lib.hid (S8.out.put1 (Gm := Gm) hpG.out hqG.out (by omega) (by omega) 3 (.int .i64 y4))
     replace G9 : Hid ((w8.setCell ⟨Gm, 3, none⟩ (.int .i64 y4)).heap[Gm]? = some (.cells #[.int .i64 zf, .bool false, .int .i64 y2, .int .i64 y4] 63 (0, 0))) := Lib.hid G9.out
     obtain ⟨d0, d1, d2, d3⟩ := four_at9 G9.out
     obtain ⟨e0, e1, e2, -, -, -⟩ := three_cells S9.out.box.heap
     go_wp2_with fail
     clear c0 c1 c2 c3 f3 d0 d1 d2 d3 e0 e1 e2
     generalize w8.setCell ⟨Gm, 3, none⟩ (.int .i64 y4) = W9 at *
     refine (specMoveOf_any zf false y2 S9.out.box.mac).mono ?_
     rintro e w10 ⟨rfl, hb10⟩
     have S10 := Lib.hid (S9.out.same hb10)
     have G10 := Lib.hid ((hb10.block Gm (Array.getElem?_eq_some_iff.1 G9.out).1).trans G9.out)
     clear hb10
     by_cases hneg : moveOf x zf false y2 < 0
     ·by_cases h12 : m < 12
      ·have h12I : (m : Int) < 12 := by omega
       obtain ⟨c0, c1, c2, c3⟩ := four_at9 G10.out
       obtain ⟨e0, e1, e2, g0, g1, g2⟩ := three_cells S10.out.box.heap
       have S11 := Lib.hid (S10.out.same (alloc_same w10 (.cells #[.int .i64 zf, .bool false, .int .i64 y2, .int .i64 y4] 63)))
       have HN : Hid (Mvs (w10.alloc (.cells #[.int .i64 zf, .bool false, .int .i64 y2, .int .i64 y4] 63)) (some ⟨w10.heap.size, 0, none⟩) 1 [⟨zf, false, y2, y4⟩]) := Lib.hid (items_new (enc := Mv.enc) (s := 4) Mv.enc_len w10 ⟨zf, false, y2, y4⟩ 63)
       have hs11 : SB ≤ (w10.alloc (.cells #[.int .i64 zf, .bool false, .int .i64 y2, .int .i64 y4] 63)).heap.size := by have := S11.out.box.base; have := S11.out.box.lt; omega
       go_wp2_with (at_builtin; refine wpl_appW _ Mv.enc_len (by omega) Mv.cells rfl (.tmp 82) (.tmp 84) 25 rfl 63 i1 (.agg #[.int .i64 0, .bool false, .int .i64 0, .int .i64 0]) 32 Try.underlying25 HI1.out.1 HI1.out.2.1 HI1.out.2.2.1 HI1.out.2.2.2 rfl rfl S11.out.box.moves rfl HN.out (by omega) ?ca ?cb ?_)
       case ca => omega
       case cb => exact hs11
       intro q7 y7 w12 ho7 hg7 hw7
       have HP := Lib.hid (S11.out.box.pushM ho7 hg7 hw7)
       have SP := Lib.hid (S11.out.mod HP.out.1 HP.out.2)
       have h7 : w12.heap[GB]? = some (.cells #[.int .i64 x.st, .slice p k r, .slice (some ⟨g, 0, none⟩) m d] 27 (0, 0)) := (hg7.block GB S11.out.box.lt (fun e => by obtain ⟨ad, f1, f2⟩ := block_of e.symm; exact S11.out.box.qG ad f1 f2)).trans S11.out.box.heap
       obtain ⟨h70, h71, h72, k70, k71, k72⟩ := three_cells h7
       have HON := Lib.hid (HO.out.push (by omega) (y := ⟨zf, false, y2, y4⟩) ⟨by unfold I64; dsimp only; omega, by unfold I64; dsimp only; omega⟩)
       clear ho7 hg7 hw7 h7 e0 e1 e2 g0 g1 g2 c0 c1 c2 c3 hs11
       go_wp2_with fail
       go_roundw
       case rel => exact ⟨j', _, p, k, r, _, _, _, by go_num, by omega, SP.out, Lib.hid (HON.out)⟩
       case measure => simp [intOf]
      ·have h12I : ¬ (m : Int) < 12 := by omega
       obtain ⟨e0, e1, e2, -, -, -⟩ := three_cells S10.out.box.heap
       go_wp2_with fail
       go_roundw
       case rel => exact ⟨j', x, p, k, r, (some ⟨g, 0, none⟩), m, d, by go_num, by omega, S10.out, Lib.hid (HO.out)⟩
       case measure => simp [intOf]
     ·have hneg2 : decide (moveOf x zf false y2 < 0) = false := decide_eq_false hneg
      go_wp2_with fail
      go_roundw
      case rel => exact ⟨j', x, p, k, r, (some ⟨g, 0, none⟩), m, d, by go_num, by omega, S10.out, Lib.hid (HO.out)⟩
      case measure => simp [intOf]
end Go.Proofs.Ytckmgbobkffabaa
