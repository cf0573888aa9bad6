/- The helpers of the exact laws at lists of moves: marked. The helpers of the exact laws at machines: counted, copied, compared, marked, looked at. -/
import Derived.Test.YtckmgbobkffabaaG4
import Derived.Deep.QuietTactic
import Derived.BigQuiet
import Derived.RegionTactic
import Derived.StillTailTactics
import Derived.Handy
import Derived.Test.YtckmgbobkffabaaG3
import Derived.Test.YtckmgbobkffabaaG1
namespace Go.Proofs.Ytckmgbobkffabaa
open Go.ChangeShapes Go.WideShapes Go.ChangeAt Go.RowKit
set_option linter.unusedVariables false

/-- The marks that are laid: each one more than the one before. -/
def marksMoveS (j n : Nat) : List Mv := (List.range n).map fun i => ⟨((j + i * 4 : Nat) : Int), third ((j + i * 4 + 1 : Nat) : Int), ((j + i * 4 + 2 : Nat) : Int), ((j + i * 4 + 3 : Nat) : Int)⟩
theorem marksMoveS_len (j n : Nat) : (marksMoveS j n).length = n := by simp [marksMoveS]
theorem marksMoveS_get {j n i : Nat} (h : i < n) : (marksMoveS j n)[i]? = some ⟨((j + i * 4 : Nat) : Int), third ((j + i * 4 + 1 : Nat) : Int), ((j + i * 4 + 2 : Nat) : Int), ((j + i * 4 + 3 : Nat) : Int)⟩ := by
 unfold marksMoveS
 rw [List.getElem?_map, List.getElem?_range h]; rfl
def partM (j0 j : Nat) (l : List Mv) : List Value := flatOf Mv.enc (marksMoveS j0 j ++ l.drop j)
theorem partM_zero (j0 : Nat) (l : List Mv) : partM j0 0 l = flatOf Mv.enc l := by simp [partM, marksMoveS]
theorem partM_all (j0 n : Nat) (l : List Mv) (h : l.length = n) : partM j0 n l = flatOf Mv.enc (marksMoveS j0 n) := by
 unfold partM
 rw [List.drop_eq_nil_of_le (by omega), List.append_nil]
theorem partM_step {l : List Mv} {i n : Nat} (j : Nat) (hi : i < n) (hn : l.length = n) :
  ((((partM j i l).set (i * 4) (.int .i64 ((j + i * 4 : Nat) : Int))).set (i * 4 + 1) (.bool (third ((j + i * 4 + 1 : Nat) : Int)))).set (i * 4 + 2) (.int .i64 ((j + i * 4 + 2 : Nat) : Int))).set (i * 4 + 3) (.int .i64 ((j + i * 4 + 3 : Nat) : Int)) = partM j (i + 1) l := by
 unfold partM
 rw [flatOf_app, List.drop_eq_getElem_cons (by omega), show flatOf Mv.enc (l[i] :: l.drop (i + 1)) = .int .i64 l[i].frm :: .bool l[i].send :: .int .i64 l[i].msg :: .int .i64 l[i].to :: flatOf Mv.enc (l.drop (i + 1)) from rfl,
  set4 _ (i * 4) (by rw [flatOf_len Mv.enc_len, marksMoveS_len]), flatOf_app]
 simp [marksMoveS, List.range_succ, flatOf, Mv.enc]

set_option maxRecDepth 100000 in
theorem markMoveS_any (B : Nat) (a : Option Addr) (n c j0 : Nat) (l : List Mv) (w : World) (h : OwnM 63 w B a n c l) (h0 : j0 ≤ 1000000000000) (hn : n ≤ 1000000000000) :
  Calls Try.prog 78 #[.slice a n c, .int .i64 j0] w fun e w' => e = .returned (.int .i64 ((j0 + n * 4 : Nat) : Int)) ∧ OwnM 63 w' B a n c (marksMoveS j0 n) ∧ w.grownBy w' (Value.ownBlock (.slice a n c)) := by
 have H := Lib.hid h
 clear h
 go_enter Try.func78, Try.ntmps78
 go_wp2
 go_loopw [1, 5] (fun q i wr => ∃ j : Nat, j ≤ n ∧ i = .int .i64 j ∧ q = .int .i64 ((j0 + j * 4 : Nat) : Int) ∧ wr.ownsRow B 63 4 (.slice a n c) n (partM j0 j l) ∧ w.grownBy wr (Value.ownBlock (.slice a n c))) (fun _ i _ => n - (intOf i).toNat)
 case atStart => exact ⟨0, Nat.zero_le _, rfl, rfl, by rw [partM_zero]; exact H.out.2, grown_below (Below.refl _ _) _⟩
 case round =>
  obtain ⟨i, hi, rfl, rfl, hown, hg⟩ := hrel
  have HR := Lib.hid hown
  have HG := Lib.hid hg
  clear hown hg
  by_cases hlt : i < n
  ·obtain ⟨g, e, _, _⟩ := H.out.head (by omega)
   subst e
   have hf0 := HR.out.frozenAt (i * 4)
   have hf1 := HR.out.frozenAt (i * 4 + 1)
   have hf2 := HR.out.frozenAt (i * 4 + 2)
   have hf3 := HR.out.frozenAt (i * 4 + 3)
   obtain ⟨u0, hu0⟩ := row_cell HR.out (k := i * 4) (by omega)
   obtain ⟨u1, hu1⟩ := row_cell HR.out (k := i * 4 + 1) (by omega)
   obtain ⟨u2, hu2⟩ := row_cell HR.out (k := i * 4 + 2) (by omega)
   obtain ⟨u3, hu3⟩ := row_cell HR.out (k := i * 4 + 3) (by omega)
   go_wp2
   go_roundw
   case rel =>
    have hs := stored4 HR.out (i * 4) (i * 4 + 1) (i * 4 + 2) (i * 4 + 3) (.int .i64 ((j0 + i * 4 : Nat) : Int)) (.bool (third ((j0 + i * 4 + 1 : Nat) : Int))) (.int .i64 ((j0 + i * 4 + 2 : Nat) : Int)) (.int .i64 ((j0 + i * 4 + 3 : Nat) : Int))
    rw [partM_step _ hlt H.out.len] at hs
    exact ⟨i + 1, by omega, by go_num, by go_num, hs.1, HG.out.trans hs.2⟩
   case measure => simp [intOf]; omega
  ·obtain rfl : i = n := by omega
   go_wp2
   go_ret
   have h1 := HR.out
   rw [partM_all _ _ _ H.out.len] at h1
   exact ⟨rfl, ⟨marksMoveS_len _ _, h1⟩, HG.out⟩

end Go.Proofs.Ytckmgbobkffabaa
namespace Go.Proofs.Ytckmgbobkffabaa
open Go.ChangeShapes Go.WideShapes Go.ChangeAt Go.RowKit
set_option linter.unusedVariables false

set_option maxRecDepth 100000 in
theorem szMoveS_no (a : Option Addr) (n c : Nat) (left : Int) (w : World) (h : left < (n : Int)) (h0 : 0 ≤ left) (hn : (n : Int) ≤ 9223372036854775807) :
  Calls Try.prog 72 #[.slice a n c, .int .i64 left] w fun e w' => e = .returned (.int .i64 (-1)) ∧ w = w' := by
 go_enter Try.func72, Try.ntmps72
 go_wp2
 go_ret
 exact ⟨rfl, rfl⟩
set_option maxRecDepth 100000 in
theorem szMachine_yes {w : World} {v : Value} {x : Mac} (left : Int) (h : MacW w v x) (hle : (x.parts : Int) ≤ left) (hl : left ≤ 1048576) :
  Calls Try.prog 27 #[v, .int .i64 left] w (Told (.int .i64 (left - (x.parts : Int))) w) := by
 obtain ⟨a, n, c, b, m, d, rfl, h1, h2, h3⟩ := h
 have e1 := h1.len
 have e2 := h2.len
 unfold Mac.parts at hle ⊢
 rw [e1, e2] at hle ⊢
 clear h1 h2 h3 e1 e2
 go_enter Try.func27, Try.ntmps27
 go_wp2_with fail
 refine (szBoolS_yes a n c left _ (by omega) hl).mono ?_
 rintro e w1 ⟨rfl, rfl⟩
 go_wp2_with fail
 refine (szMoveS_any b m d (left - n) _ (by omega) (by omega)).mono ?_
 rintro e w1 ⟨rfl, rfl⟩
 go_wp2
 go_ret
 rw [show left - (n : Int) - (m : Int) = left - ((n + m : Nat) : Int) by omega]
 exact ⟨rfl, alloc_same _ _⟩
set_option maxRecDepth 100000 in
theorem szMachine_no {w : World} {v : Value} {x : Mac} (left : Int) (h : MacW w v x) (hlt : left < (x.parts : Int)) (h0 : 0 ≤ left) (hl : left ≤ 1048576) :
  Calls Try.prog 27 #[v, .int .i64 left] w (Told (.int .i64 (-1)) w) := by
 obtain ⟨a, n, c, b, m, d, rfl, h1, h2, h3⟩ := h
 have e1 := h1.len
 have e2 := h2.len
 have f1 := h1.fits
 have f2 := h2.fits
 unfold Mac.parts at hlt
 rw [e1, e2] at hlt
 clear h1 h2 h3 e1 e2
 by_cases hn : left < (n : Int)
 ·go_enter Try.func27, Try.ntmps27
  go_wp2_with fail
  refine (szBoolS_no a n c left _ hn h0 f1).mono ?_
  rintro e w1 ⟨rfl, rfl⟩
  go_wp2
  go_ret
  exact ⟨rfl, alloc_same _ _⟩
 ·go_enter Try.func27, Try.ntmps27
  go_wp2_with fail
  refine (szBoolS_yes a n c left _ (by omega) hl).mono ?_
  rintro e w1 ⟨rfl, rfl⟩
  go_wp2_with fail
  refine (szMoveS_no b m d (left - n) _ (by omega) (by omega) f2).mono ?_
  rintro e w1 ⟨rfl, rfl⟩
  go_wp2
  go_ret
  exact ⟨rfl, alloc_same _ _⟩

set_option maxRecDepth 100000 in
theorem toMachine_any {w : World} {v : Value} {x : Mac} (h : MacW w v x) (hn : x.parts ≤ 1048576000) : Calls Try.prog 29 #[v] w (MadeMac w.heap.size x w) := by
 obtain ⟨a, n, c, b, m, d, rfl, h1, h2, h3, h4⟩ := h
 have e1 := h1.len
 have e2 := h2.len
 unfold Mac.parts at hn
 rw [e1, e2] at hn
 have H1 := Lib.hid h1
 have H2 := Lib.hid h2
 clear h1 h2 h3 h4
 go_enter Try.func29, Try.ntmps29
 go_wp2_with fail
 have HW0 : Hid (Below w.heap.size w (((w.alloc (.cells #[.int .i64 x.st, .slice a n c, .slice b m d] 44)).alloc (.cells #[.int .i64 0, .slice none 0 0, .slice none 0 0] 27)).alloc (.cells #[.int .i64 x.st, .slice none 0 0, .slice none 0 0] 27))) := Lib.hid ((((Below.refl _ w).alloc (Nat.le_refl _) _).alloc (by simp) _).alloc (by simp; omega) _)
 have hA : (((w.alloc (.cells #[.int .i64 x.st, .slice a n c, .slice b m d] 44)).alloc (.cells #[.int .i64 0, .slice none 0 0, .slice none 0 0] 27)).alloc (.cells #[.int .i64 x.st, .slice none 0 0, .slice none 0 0] 27)).heap[w.heap.size]? = some (.cells #[.int .i64 x.st, .slice a n c, .slice b m d] 44 (0, 0)) := by
  rw [Below.heap_alloc _ _ _ (by simp; omega), Below.heap_alloc _ _ _ (by simp)]
  exact heap_alloc_new w (.cells #[.int .i64 x.st, .slice a n c, .slice b m d] 44 (0, 0))
 have hM : (((w.alloc (.cells #[.int .i64 x.st, .slice a n c, .slice b m d] 44)).alloc (.cells #[.int .i64 0, .slice none 0 0, .slice none 0 0] 27)).alloc (.cells #[.int .i64 x.st, .slice none 0 0, .slice none 0 0] 27)).heap[w.heap.size + 1]? = some (.cells #[.int .i64 0, .slice none 0 0, .slice none 0 0] 27 (0, 0)) := by
  rw [Below.heap_alloc _ _ _ (by simp)]
  have := heap_alloc_new (w.alloc (.cells #[.int .i64 x.st, .slice a n c, .slice b m d] 44)) (.cells #[.int .i64 0, .slice none 0 0, .slice none 0 0] 27 (0, 0))
  simpa using this
 have hL : (((w.alloc (.cells #[.int .i64 x.st, .slice a n c, .slice b m d] 44)).alloc (.cells #[.int .i64 0, .slice none 0 0, .slice none 0 0] 27)).alloc (.cells #[.int .i64 x.st, .slice none 0 0, .slice none 0 0] 27)).heap[w.heap.size + 1 + 1]? = some (.cells #[.int .i64 x.st, .slice none 0 0, .slice none 0 0] 27 (0, 0)) := by
  have := heap_alloc_new ((w.alloc (.cells #[.int .i64 x.st, .slice a n c, .slice b m d] 44)).alloc (.cells #[.int .i64 0, .slice none 0 0, .slice none 0 0] 27)) (.cells #[.int .i64 x.st, .slice none 0 0, .slice none 0 0] 27 (0, 0))
  simpa using this
 have hsz : w.heap.size + 3 = (((w.alloc (.cells #[.int .i64 x.st, .slice a n c, .slice b m d] 44)).alloc (.cells #[.int .i64 0, .slice none 0 0, .slice none 0 0] 27)).alloc (.cells #[.int .i64 x.st, .slice none 0 0, .slice none 0 0] 27)).heap.size := by simp
 generalize (((w.alloc (.cells #[.int .i64 x.st, .slice a n c, .slice b m d] 44)).alloc (.cells #[.int .i64 0, .slice none 0 0, .slice none 0 0] 27)).alloc (.cells #[.int .i64 x.st, .slice none 0 0, .slice none 0 0] 27)) = W0 at *
 refine (toBoolS_any a n c x.ends _ (H1.out.same HW0.out) (by omega)).mono ?_
 rintro e w1 ⟨q, k, r, rfl, ho, hb⟩
 have hA1 : w1.heap[w.heap.size]? = some (.cells #[.int .i64 x.st, .slice a n c, .slice b m d] 44 (0, 0)) := by rw [hb.block _ (by omega)]; exact hA
 have hM1 : w1.heap[w.heap.size + 1]? = some (.cells #[.int .i64 0, .slice none 0 0, .slice none 0 0] 27 (0, 0)) := by rw [hb.block _ (by omega)]; exact hM
 have hL1 : w1.heap[w.heap.size + 1 + 1]? = some (.cells #[.int .i64 x.st, .slice none 0 0, .slice none 0 0] 27 (0, 0)) := by rw [hb.block _ (by omega)]; exact hL
 have hL2 := heap_setCell_same w1 (w.heap.size + 1 + 1) 1 _ _ (.slice q k r) hL1
 have hA2 : (w1.setCell ⟨w.heap.size + 1 + 1, 1, none⟩ (.slice q k r)).heap[w.heap.size]? = some (.cells #[.int .i64 x.st, .slice a n c, .slice b m d] 44 (0, 0)) := by rw [Below.heap_setCell _ _ _ _ (by dsimp only; omega)]; exact hA1
 have hM2 : (w1.setCell ⟨w.heap.size + 1 + 1, 1, none⟩ (.slice q k r)).heap[w.heap.size + 1]? = some (.cells #[.int .i64 0, .slice none 0 0, .slice none 0 0] 27 (0, 0)) := by rw [Below.heap_setCell _ _ _ _ (by dsimp only; omega)]; exact hM1
 have c1 := (block_cell hL1 1).trans rfl
 have f1 := block_frozen hL1 1
 have a2 := (block_cell hA1 2).trans rfl
 have a3 := (block_cell hA2 2).trans rfl
 have hs1 := hb.size
 have hs2 : (w1.setCell ⟨w.heap.size + 1 + 1, 1, none⟩ (.slice q k r)).heap.size = w1.heap.size := World.size_setCell _ _ _
 have HB1 : Hid (Below w.heap.size w (w1.setCell ⟨w.heap.size + 1 + 1, 1, none⟩ (.slice q k r))) := Lib.hid ((HW0.out.trans (hb.mono HW0.out.size)).setCell (by dsimp only; omega) _)
 have HO1 : Hid (OwnBl 4 (w1.setCell ⟨w.heap.size + 1 + 1, 1, none⟩ (.slice q k r)) w.heap.size q k r x.ends) := Lib.hid ((ho.set (fun ad e => by have := (ho.span ad e).1; dsimp only; omega) _).lower HW0.out.size)
 have HR1 := Lib.hid ho.room
 have HS1 : Hid (Span q W0.heap.size w1.heap.size) := Lib.hid ho.span
 clear ho hb hA hM hL
 go_wp2_with fail
 generalize (w1.setCell ⟨w.heap.size + 1 + 1, 1, none⟩ (.slice q k r)) = W1 at *
 refine (toMoveS_any b m d x.moves _ (H2.out.same HB1.out) (by omega)).mono ?_
 rintro e w2 ⟨p, u, y, rfl, ho, hb⟩
 have hM3 : w2.heap[w.heap.size + 1]? = some (.cells #[.int .i64 0, .slice none 0 0, .slice none 0 0] 27 (0, 0)) := by rw [hb.block _ (by omega)]; exact hM2
 have hL3 := (hb.block (w.heap.size + 1 + 1) (by omega)).trans hL2
 have hL4 := heap_setCell_same w2 (w.heap.size + 1 + 1) 2 _ _ (.slice p u y) hL3
 have HO2 := Lib.hid ((HO1.out.same hb).set (p := ⟨w.heap.size + 1 + 1, 2, none⟩) (fun ad e => by have := (HS1.out ad e).1; dsimp only; omega) (.slice p u y))
 have HO3 := Lib.hid ((ho.set (p := ⟨w.heap.size + 1 + 1, 2, none⟩) (fun ad e => by have := (ho.span ad e).1; dsimp only; omega) (.slice p u y)).lower (B' := w.heap.size) HB1.out.size)
 have HR2 := Lib.hid ho.room
 have HS2 : Hid (Span p W1.heap.size w2.heap.size) := Lib.hid ho.span
 have HB2 : Hid (Below w.heap.size w (w2.setCell ⟨w.heap.size + 1 + 1, 2, none⟩ (.slice p u y))) := Lib.hid ((HB1.out.trans (hb.mono HB1.out.size)).setCell (by dsimp only; omega) _)
 have hM4 : (w2.setCell ⟨w.heap.size + 1 + 1, 2, none⟩ (.slice p u y)).heap[w.heap.size + 1]? = some (.cells #[.int .i64 0, .slice none 0 0, .slice none 0 0] 27 (0, 0)) := by rw [Below.heap_setCell _ _ _ _ (by dsimp only; omega)]; exact hM3
 have s1 := hb.size
 have s2 : (w2.setCell ⟨w.heap.size + 1 + 1, 2, none⟩ (.slice p u y)).heap.size = w2.heap.size := World.size_setCell _ _ _
 have k2 := (block_cell hL3 2).trans rfl
 have fk := block_frozen hL3 2
 clear ho hb hL3 hM3 hA1 hM1 hL1 hL2 hA2 hM2 c1 f1 a2 a3
 have d0 := (block_cell hL4 0).trans rfl
 have d1 := (block_cell hL4 1).trans rfl
 have d2 := (block_cell hL4 2).trans rfl
 have m0 := (block_cell hM4 0).trans rfl
 have m1 := (block_cell hM4 1).trans rfl
 have m2 := (block_cell hM4 2).trans rfl
 have g0 := block_frozen hM4 0
 have g1 := block_frozen hM4 1
 have g2 := block_frozen hM4 2
 generalize hWW : (w2.setCell ⟨w.heap.size + 1 + 1, 2, none⟩ (.slice p u y)) = W2 at *
 have hM5 := heap_setCell_same _ (w.heap.size + 1) 0 _ _ (.int .i64 x.st) hM4
 have hM6 := heap_setCell_same _ (w.heap.size + 1) 1 _ _ (.slice q k r) hM5
 have hM7 := heap_setCell_same _ (w.heap.size + 1) 2 _ _ (.slice p u y) hM6
 have z0 : (W2.setCell ⟨w.heap.size + 1, 0, none⟩ (.int .i64 x.st)).cell? ⟨w.heap.size + 1, 0, none⟩ = some (.int .i64 x.st) := (block_cell hM5 0).trans rfl
 have z1 : ((W2.setCell ⟨w.heap.size + 1, 0, none⟩ (.int .i64 x.st)).setCell ⟨w.heap.size + 1, 1, none⟩ (.slice q k r)).cell? ⟨w.heap.size + 1, 1, none⟩ = some (.slice q k r) := (block_cell hM6 1).trans rfl
 have z2 : (((W2.setCell ⟨w.heap.size + 1, 0, none⟩ (.int .i64 x.st)).setCell ⟨w.heap.size + 1, 1, none⟩ (.slice q k r)).setCell ⟨w.heap.size + 1, 2, none⟩ (.slice p u y)).cell? ⟨w.heap.size + 1, 2, none⟩ = some (.slice p u y) := (block_cell hM7 2).trans rfl
 clear hM4 hM5 hM6 hM7 hL4
 go_wp2_with fail
 (try simp only [Exit.inBlock, Exit.then])
 refine bodyPost_ret (by simp [results, Try.results29, go_sem, z0, z1, z2]; try rfl) rfl ?_
 have hd : ∀ (z : Option Addr) (lo hi : Nat), Span z lo hi → W0.heap.size ≤ lo → ∀ ad, z = some ad → ad.block ≠ w.heap.size + 1 := fun z lo hi hs hl ad e => by
  have := (hs ad e).1
  omega
 have hq := hd q _ _ HS1.out (Nat.le_refl _)
 have hp := hd p _ _ HS2.out (by omega)
 refine ⟨_, rfl, ⟨q, k, r, p, u, y, rfl, ((HO2.out.set hq _).set hq _).set hq _, ((HO3.out.set hp _).set hp _).set hp _, fun f g ef eg => ?_, ?_, ?_, Nat.le_refl _, HR1.out, HR2.out⟩, ((HB2.out.setCell (by dsimp only; omega) _).setCell (by dsimp only; omega) _).setCell (by dsimp only; omega) _⟩
 ·have h1 := HS1.out f ef
  have h2 := HS2.out g eg
  omega
 ·exact fun ad e => by
   have := HS1.out ad e
   simp only [World.size_setCell]
   omega
 ·exact fun ad e => by
   have := HS2.out ad e
   simp only [World.size_setCell]
   omega

set_option maxRecDepth 100000 in
theorem eqMachine_yes {w : World} {v v' : Value} {x : Mac} (h : MacW w v x) (h' : MacW w v' x) : Calls Try.prog 31 #[v, v'] w (Told (.bool true) w) := by
 obtain ⟨a, n, c, b, m, d, rfl, h1, h2, h3⟩ := h
 obtain ⟨a', n', c', b', m', d', rfl, h1', h2', h3'⟩ := h'
 have H1 := Lib.hid h1
 have H2 := Lib.hid h2
 have H1' := Lib.hid h1'
 have H2' := Lib.hid h2'
 clear h1 h2 h3 h1' h2' h3'
 go_enter Try.func31, Try.ntmps31
 go_wp2_with fail
 have HW0 : Hid (Below w.heap.size w ((w.alloc (.cells #[.int .i64 x.st, .slice a n c, .slice b m d] 27)).alloc (.cells #[.int .i64 x.st, .slice a' n' c', .slice b' m' d'] 27))) := Lib.hid (((Below.refl _ w).alloc (Nat.le_refl _) _).alloc (by simp) _)
 have hA : ((w.alloc (.cells #[.int .i64 x.st, .slice a n c, .slice b m d] 27)).alloc (.cells #[.int .i64 x.st, .slice a' n' c', .slice b' m' d'] 27)).heap[w.heap.size]? = some (.cells #[.int .i64 x.st, .slice a n c, .slice b m d] 27 (0, 0)) := by
  rw [Below.heap_alloc _ _ _ (by simp)]
  exact heap_alloc_new w (.cells #[.int .i64 x.st, .slice a n c, .slice b m d] 27 (0, 0))
 have hM : ((w.alloc (.cells #[.int .i64 x.st, .slice a n c, .slice b m d] 27)).alloc (.cells #[.int .i64 x.st, .slice a' n' c', .slice b' m' d'] 27)).heap[w.heap.size + 1]? = some (.cells #[.int .i64 x.st, .slice a' n' c', .slice b' m' d'] 27 (0, 0)) := by
  have := heap_alloc_new (w.alloc (.cells #[.int .i64 x.st, .slice a n c, .slice b m d] 27)) (.cells #[.int .i64 x.st, .slice a' n' c', .slice b' m' d'] 27 (0, 0))
  simpa using this
 have hsz : w.heap.size + 2 = ((w.alloc (.cells #[.int .i64 x.st, .slice a n c, .slice b m d] 27)).alloc (.cells #[.int .i64 x.st, .slice a' n' c', .slice b' m' d'] 27)).heap.size := by simp
 generalize ((w.alloc (.cells #[.int .i64 x.st, .slice a n c, .slice b m d] 27)).alloc (.cells #[.int .i64 x.st, .slice a' n' c', .slice b' m' d'] 27)) = W0 at *
 refine (eqBoolS_yes a a' n n' c c' x.ends _ (H1.out.same HW0.out) (H1'.out.same HW0.out)).mono ?_
 rintro e w1 ⟨rfl, hb⟩
 have hA1 := (hb.block w.heap.size (by omega)).trans hA
 have hM1 := (hb.block (w.heap.size + 1) (by omega)).trans hM
 have a2 := (block_cell hA1 2).trans rfl
 have m2 := (block_cell hM1 2).trans rfl
 have HB1 := Lib.hid (HW0.out.trans (hb.mono HW0.out.size))
 clear hb hA hM hA1 hM1
 go_wp2_with fail
 refine (eqMoveS_yes b b' m m' d d' x.moves _ (H2.out.same HB1.out) (H2'.out.same HB1.out)).mono ?_
 rintro e w2 ⟨rfl, hb⟩
 have HB2 := Lib.hid (HB1.out.trans (hb.mono HB1.out.size))
 clear hb
 go_wp2_with fail
 go_ret
 exact ⟨rfl, HB2.out⟩

/-- The marks that are laid on a machine. -/
def marksMac (k : Nat) (x : Mac) : Mac := ⟨x.st, marksBl k x.ends.length, marksMoveS (k + x.ends.length) x.moves.length⟩
theorem OwnI.room' {α : Type} {enc : α → List Value} {s : Nat} {t : TypeId} {w : World} {B n c : Nat} {a : Option Addr} {l : List α} (h : OwnI enc s t w B a n c l) : n ≤ c ∧ (c : Int) ≤ 9223372036854775807 := h.room
set_option maxRecDepth 100000 in
theorem markMachine_any {S B k : Nat} {w : World} {v : Value} {x : Mac} (h : OwnMac S w B v x) (hk : k ≤ 1000000000) (hn : x.parts ≤ 1000000000) :
  Calls Try.prog 32 #[v, .int .i64 k] w fun e w' => e = .returned (.int .i64 ((k + x.many : Nat) : Int)) ∧ OwnMac S w' B v (marksMac k x) ∧ Inside B S w w' := by
 obtain ⟨a, n, c, b, m, d, rfl, h1, h2, h3, h4, h5, h6, h7⟩ := h
 have e1 := h1.len
 have e2 := h2.len
 unfold Mac.parts at hn
 unfold Mac.many marksMac
 rw [e1, e2] at hn ⊢
 have H1 := Lib.hid h1
 have H2 := Lib.hid h2
 have H3 := Lib.hid (And.intro h3 (And.intro h4 (And.intro h5 (And.intro h6 h7))))
 clear h1 h2 h3 h4 h5 h6 h7
 go_enter Try.func32, Try.ntmps32
 go_wp2_with fail
 have HW0 : Hid (Below w.heap.size w (w.alloc (.cells #[.int .i64 x.st, .slice a n c, .slice b m d] 27))) := Lib.hid ((Below.refl _ w).alloc (Nat.le_refl _) _)
 have hA := heap_alloc_new w (.cells #[.int .i64 x.st, .slice a n c, .slice b m d] 27 (0, 0))
 have hsz : w.heap.size + 1 = (w.alloc (.cells #[.int .i64 x.st, .slice a n c, .slice b m d] 27)).heap.size := by simp
 have HI0 : Hid (Inside B S w (w.alloc (.cells #[.int .i64 x.st, .slice a n c, .slice b m d] 27))) := Lib.hid (Inside.row (grown_below HW0.out none) (fun r e => by cases e))
 change (w.alloc (.cells #[.int .i64 x.st, .slice a n c, .slice b m d] 27)).heap[w.heap.size]? = _ at hA
 generalize (w.alloc (.cells #[.int .i64 x.st, .slice a n c, .slice b m d] 27)) = W0 at *
 refine (markBoolS_any B a n c k x.ends _ (H1.out.same HW0.out) (by omega) (by omega)).mono ?_
 rintro e w1 ⟨rfl, ho, hg⟩
 have hA1 : w1.heap[w.heap.size]? = some (.cells #[.int .i64 x.st, .slice a n c, .slice b m d] 27 (0, 0)) := by
  rw [hg.block _ (by omega) (fun e => by
   obtain ⟨ad, e1, e2⟩ := block_of e.symm
   have := H3.out.2.1 ad e1
   have := H3.out.2.2.2.1
   omega)]
  exact hA
 have a2 := (block_cell hA1 2).trans rfl
 have HI1 := Lib.hid (HI0.out.trans (Inside.row hg (fun r e => by
  obtain ⟨ad, e1, e2⟩ := block_of e
  have := H3.out.2.1 ad e1
  omega)))
 have HO := Lib.hid ho
 have HP : Hid (OwnM 63 w1 B b m d x.moves) := Lib.hid (OwnI.sep (H2.out.same HW0.out) hg H3.out.1.symm)
 clear ho hg hA hA1
 go_wp2_with fail
 refine (markMoveS_any B b m d (k + n) x.moves _ HP.out (by omega) (by omega)).mono ?_
 rintro e w2 ⟨rfl, ho, hg⟩
 have HI2 := Lib.hid (HI1.out.trans (Inside.row hg (fun r e => by
  obtain ⟨ad, e1, e2⟩ := block_of e
  have := H3.out.2.2.1 ad e1
  omega)))
 have HO2 := Lib.hid ho
 have HO1 := Lib.hid (OwnI.sep HO.out hg H3.out.1)
 clear ho hg
 go_wp2_with fail
 go_ret
 rw [show k + (n + m * 4) = k + n + m * 4 by omega]
 exact ⟨rfl, ⟨a, n, c, b, m, d, rfl, HO1.out, HO2.out, H3.out.1, H3.out.2.1, H3.out.2.2.1, Nat.le_trans H3.out.2.2.2.1 HI2.out.size, H3.out.2.2.2.2⟩, HI2.out⟩

end Go.Proofs.Ytckmgbobkffabaa
