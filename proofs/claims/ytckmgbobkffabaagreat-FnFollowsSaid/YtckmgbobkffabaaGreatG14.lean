/- A machine and one that is nearly its dual are drawn. Two machines are drawn, either of which need not be valid; what the law of pairs draws. -/
import Derived.Test.YtckmgbobkffabaaGreatG8
import Derived.Test.YtckmgbobkffabaaGreatG12
import Derived.Test.YtckmgbobkffabaaGreatG13
import Derived.Test.YtckmgbobkffabaaGreatG1
namespace Go.Proofs.YtckmgbobkffabaaGreat
open Go.ChangeShapes Go.WideShapes Go.ChangeAt Go.RowKit
set_option linter.unusedVariables false
set_option linter.unusedSimpArgs false

theorem cell_drew9 (w : World) (p : Addr) : w.drew.cell? p = w.cell? p := rfl
theorem Inside.drew {lo hi : Nat} {a b : World} (h : Inside lo hi a b) : Inside lo hi a b.drew := ⟨h.os, h.tape, h.output, h.size, h.block⟩
theorem OnP.less {x : Mac} {j : Nat} (h : OnP x (j + 1)) : OnP x j := ⟨h.1, h.2.1, by have := h.2.2.1; omega, h.2.2.2⟩
theorem OnP.set {x : Mac} {j : Nat} (h : OnP x (j + 1)) (i : Nat) {y : Mv} (hy : I64 y.msg ∧ I64 y.to) : OnP ⟨x.st, x.ends, x.moves.set i y⟩ j :=
 ⟨h.1, h.2.1, by have := h.2.2.1; rw [List.length_set]; omega, fun z hz => by
  rcases List.mem_or_eq_of_mem_set hz with q | q
  ·exact h.2.2.2 z q
  ·rw [q]; exact hy⟩
theorem OnP.push {x : Mac} {j : Nat} (h : OnP x (j + 1)) {y : Mv} (hy : I64 y.msg ∧ I64 y.to) : OnP ⟨x.st, x.ends, x.moves ++ [y]⟩ j :=
 ⟨h.1, h.2.1, by have := h.2.2.1; rw [List.length_append]; simp; omega, fun z hz => by
  rcases List.mem_append.1 hz with q | q
  ·exact h.2.2.2 z q
  ·rw [List.mem_singleton.1 q]; exact hy⟩
theorem OnP.cut {x : Mac} {j : Nat} (h : OnP x (j + 1)) (i : Nat) : OnP ⟨x.st, x.ends, x.moves.take i ++ x.moves.drop (i + 1)⟩ j :=
 ⟨h.1, h.2.1, by have := h.2.2.1; rw [List.length_append, List.length_take, List.length_drop]; omega, fun z hz => by
  rcases List.mem_append.1 hz with q | q
  ·exact h.2.2.2 z (List.mem_of_mem_take q)
  ·exact h.2.2.2 z (List.mem_of_mem_drop q)⟩
theorem St.put1 {b : Nat} {a : Option Addr} {n c : Nat} {WA : World} {A0 SA GA SB GB : Nat} {ca : Array Value} {xa : Mac} {wr : World} {x : Mac} {p : Option Addr} {k r : Nat} {q : Option Addr} {m d : Nat} {Gm : Nat} (h : St b a n c WA A0 SA GA SB GB ca xa wr x p k r q m d) (hp : ∀ ad, p = some ad → ad.block ≠ Gm) (hq : ∀ ad, q = some ad → ad.block ≠ Gm) (hG : GB ≠ Gm) (hS : SB ≤ Gm) (o : Nat) (v : Value) : St b a n c WA A0 SA GA SB GB ca xa (wr.setCell ⟨Gm, o, none⟩ v) x p k r q m d :=
 h.mod ⟨h.box.base, (Below.heap_setCell _ _ _ _ (by dsimp only; omega)).trans h.box.heap, h.box.ends.set (fun ad e => hp ad e) _, h.box.moves.set (fun ad e => hq ad e) _, h.box.sep, h.box.pG, h.box.qG⟩ ((Below.refl SB wr).setCell (by dsimp only; omega) _)
set_option maxHeartbeats 8000000 in
set_option maxRecDepth 100000 in
theorem l14Pair_any (b : Nat) (a : Option Addr) (n c : Nat) (w : World) (hc : Curs w b a n c) :
  Calls Tryz.prog 51 #[.pointer (some ⟨b, 0, none⟩)] w (DrewPair b a n c w) := by
 have hblt := hc.lt
 obtain ⟨hAL, hR0, hR1, hS⟩ := twice w #[.int .i64 0, .slice none 0 0, .slice none 0 0] #[.int .i64 0, .slice none 0 0, .slice none 0 0] 27 27
 have HAL := Lib.hid hAL
 have HR0 := Lib.hid hR0
 have HR1 := Lib.hid hR1
 have HC := Lib.hid (hc.same hAL)
 have HCW := Lib.hid hc
 have hsA : w.heap.size + 2 ≤ ((w.alloc (.cells #[.int .i64 0, .slice none 0 0, .slice none 0 0] 27)).alloc (.cells #[.int .i64 0, .slice none 0 0, .slice none 0 0] 27)).heap.size := by omega
 obtain ⟨i1, hi, hz0, hz1, hz2⟩ := info_parts infoMoveS
 have HI1 := Lib.hid (And.intro hi (And.intro hz0 (And.intro hz1 hz2)))
 clear hi hz0 hz1 hz2 hc hAL hR0 hR1 hS
 go_enter Tryz.func51, Tryz.ntmps51
 go_wp2_with fail
 generalize (w.alloc (.cells #[.int .i64 0, .slice none 0 0, .slice none 0 0] 27)).alloc (.cells #[.int .i64 0, .slice none 0 0, .slice none 0 0] 27) = WA at *
 refine (l13Draw_any b a n c _ HC.out).mono ?_
 rintro e w1 ⟨v, xa, rfl, hown, hk1, hk2, hk3, hd1⟩
 obtain ⟨pa, ka, ra, qa, ma, da, rfl⟩ := hown.shape
 have hs1 := hd1.2.size
 have HOA := Lib.hid hown
 have HOK : Hid (OnP xa 2) := Lib.hid ⟨hk3.1, hk1, by omega, hk3.2⟩
 have hpx : xa.parts ≤ 100 := by unfold Mac.parts; omega
 have HD1 := Lib.hid hd1
 have HG1 := Lib.hid (heap_alloc_new w1 (.cells #[.int .i64 xa.st, .slice pa ka ra, .slice qa ma da] 27 (0, 0)))
 change Hid ((w1.alloc (.cells #[.int .i64 xa.st, .slice pa ka ra, .slice qa ma da] 27)).heap[w1.heap.size]? = _) at HG1
 have HA1 := Lib.hid (alloc_same w1 (.cells #[.int .i64 xa.st, .slice pa ka ra, .slice qa ma da] 27))
 clear hown hk1 hk2 hk3 hd1
 go_wp2_with fail
 refine (specDualOf_any (HOA.out.mac.same HA1.out) (by omega)).mono ?_
 rintro e w2 ⟨v2, rfl, hod, hb2⟩
 obtain ⟨p0, k0, r0, q0, m0, d0, rfl⟩ := hod.shape
 have HOD := Lib.hid hod
 have HB2 := Lib.hid hb2
 have hs2 := hb2.size
 have hs2a : w1.heap.size < (w1.alloc (.cells #[.int .i64 xa.st, .slice pa ka ra, .slice qa ma da] 27)).heap.size := by simp
 have HG2 := Lib.hid (heap_alloc_new w2 (.cells #[.int .i64 (dualM xa).st, .slice p0 k0 r0, .slice q0 m0 d0] 27 (0, 0)))
 change Hid ((w2.alloc (.cells #[.int .i64 (dualM xa).st, .slice p0 k0 r0, .slice q0 m0 d0] 27)).heap[w2.heap.size]? = _) at HG2
 have HA2 := Lib.hid (alloc_same w2 (.cells #[.int .i64 (dualM xa).st, .slice p0 k0 r0, .slice q0 m0 d0] 27))
 have HS2 : Hid (St b a n c WA WA.heap.size w1.heap.size w1.heap.size (w1.alloc (.cells #[.int .i64 xa.st, .slice pa ka ra, .slice qa ma da] 27)).heap.size w2.heap.size #[.int .i64 xa.st, .slice pa ka ra, .slice qa ma da] xa (w2.alloc (.cells #[.int .i64 (dualM xa).st, .slice p0 k0 r0, .slice q0 m0 d0] 27)) (dualM xa) p0 k0 r0 q0 m0 d0) := by
  obtain ⟨_, _, _, _, _, _, ee, g1, g2, g3, g4, g5, g6, g7⟩ := HOD.out
  injection ee with ee
  simp only [Array.mk.injEq, List.cons.injEq, Value.slice.injEq, and_true] at ee
  obtain ⟨_, ⟨rfl, rfl, rfl⟩, rfl, rfl, rfl⟩ := ee
  have hbb := HB2.out.trans (HA2.out.mono HB2.out.size)
  refine Lib.hid ⟨⟨hs2, HG2.out, g1.alloc _, g2.alloc _, g3, fun ad e => ?_, fun ad e => ?_⟩, (HOA.out.same HA1.out).same hbb, (hbb.block _ hs2a).trans HG1.out, (HD1.out.same HA1.out).same hbb, HC.out, by omega, Nat.le_refl _, hs1, Nat.le_refl _, hs2a⟩
  ·have := (g4 ad e).2; omega
  ·have := (g5 ad e).2; omega
 have HOD2 : Hid (OnP (dualM xa) 2) := Lib.hid ⟨HOK.out.1, HOK.out.2.1, by have := HOK.out.2.2.1; unfold dualM; rw [List.length_map]; exact this, fun z hz => by
  obtain ⟨u, hu, rfl⟩ := List.mem_map.1 hz
  exact HOK.out.2.2.2 u hu⟩
 clear hod hb2 HG1 HG2 HOD HD1 HOA HA1
 go_wp2_with fail
 obtain ⟨SA, hSA⟩ : ∃ u, u = w1.heap.size := ⟨_, rfl⟩
 obtain ⟨GB, hGB⟩ : ∃ u, u = w2.heap.size := ⟨_, rfl⟩
 obtain ⟨SB, hSB⟩ : ∃ u, u = (w1.alloc (.cells #[.int .i64 xa.st, .slice pa ka ra, .slice qa ma da] 27)).heap.size := ⟨_, rfl⟩
 rw [← hSA, ← hGB, ← hSB] at HS2
 rw [← hSA, ← hGB]
 clear HB2 HA2 hs2 hs2a hSB hSA hGB hs1
 generalize w2.alloc (.cells #[.int .i64 (dualM xa).st, .slice p0 k0 r0, .slice q0 m0 d0] 27) = W2 at *
 refine (below_any b a n c 3 (by omega) (by omega) _ HS2.out.dr.1).mono ?_
 rintro e w3 ⟨y0, hy0, hy1, rfl, hd3⟩
 obtain ⟨j0, rfl⟩ : ∃ u : Nat, y0 = u := ⟨y0.toNat, by omega⟩
 have HS3 := Lib.hid (HS2.out.only hd3)
 clear hd3 HS2
 go_wp2_with fail
 go_loopw [6] (fun t wr => ∃ (j : Nat) (x : Mac) (p : Option Addr) (k r : Nat) (q : Option Addr) (m d : Nat), t = .int .i64 j ∧ j ≤ 2 ∧ St b a n c WA WA.heap.size SA SA SB GB #[.int .i64 xa.st, .slice pa ka ra, .slice qa ma da] xa wr x p k r q m d ∧ Hid (OnP x j)) (fun t _ => (intOf t).toNat)
 case atStart => exact ⟨j0, _, _, _, _, _, _, _, rfl, by omega, HS3.out, Lib.hid ⟨HOD2.out.1, HOD2.out.2.1, by have := HOD2.out.2.2.1; omega, HOD2.out.2.2.2⟩⟩
 case round =>
  clear HS3 HOD2
  obtain ⟨j, x, p, k, r, q, m, d, rfl, hj, hst, HO⟩ := hrel
  have HS := Lib.hid hst
  have hml : x.moves.length = m := hst.box.moves.len
  have hm10 : m + j ≤ 10 := by have := HO.out.2.2.1; omega
  clear hst
  have hsw := HS.out.dr.2.size
  have hga := (Array.getElem?_eq_some_iff.1 HS.out.ga).1
  have hgb := HS.out.box.lt
  rcases Nat.eq_zero_or_pos j with hj0 | hj0
  ·subst hj0
   have EA := Lib.hid (three_cells HS.out.ga)
   have EB := Lib.hid (three_cells HS.out.box.heap)
   have Z0 : Hid (wr.heap[w.heap.size]? = _) := Lib.hid ((HS.out.dr.2.block w.heap.size (by omega) (by omega)).trans HR0.out)
   have Z1 : Hid (wr.heap[w.heap.size + 1]? = _) := Lib.hid ((HS.out.dr.2.block (w.heap.size + 1) (by omega) (by omega)).trans HR1.out)
   have hbx1 := HS.out.c2
   have hbx2 := HS.out.c3
   have hbx3 := HS.out.c4
   have hbx4 := HS.out.c5
   have hbx5 := HS.out.box.base
   obtain ⟨e0, e1, e2, -, -, -⟩ := three_cells HS.out.box.heap
   go_wp2_with fail
   clear e0 e1 e2
   refine wp_region_held_drew (S := fun w9 => w9.cell? ⟨SA, 0, none⟩ = some (.int .i64 xa.st) ∧ w9.cell? ⟨SA, 1, none⟩ = some (.slice pa ka ra) ∧ w9.cell? ⟨SA, 2, none⟩ = some (.slice qa ma da) ∧ w9.cell? ⟨GB, 0, none⟩ = some (.int .i64 x.st) ∧ w9.cell? ⟨GB, 1, none⟩ = some (.slice p k r) ∧ w9.cell? ⟨GB, 2, none⟩ = some (.slice q m d)) (by kernel_rfl) ⟨EA.out.1, EA.out.2.1, EA.out.2.2.1, EB.out.1, EB.out.2.1, EB.out.2.2.1⟩ (fun hHeld => ?_)
   refine wpAnyH_take (i := 0) (v := ?v59) (by simp only [get9]; rfl) (by kernel_rfl) (by kernel_rfl) (by kernel_rfl) (by exact fun _ _ _ h => h) (Or.inl ⟨by rfl, fun w9 hS9 => ?hy59⟩) hHeld ?rest59
   case hy59 =>
    dsimp only at hS9
    obtain ⟨u0, u1, u2, u3, u4, u5⟩ := hS9
    go_simp
    try with_reducible rfl
   try simp only [Act.put, set9]
   refine wpAnyH_take (i := 1) (v := ?v60) (by simp only [get9]; rfl) (by kernel_rfl) (by kernel_rfl) (by kernel_rfl) (by exact fun _ _ _ h => h) (Or.inl ⟨by rfl, fun w9 hS9 => ?hy60⟩) hHeld ?rest60
   case hy60 =>
    dsimp only at hS9
    obtain ⟨u0, u1, u2, u3, u4, u5⟩ := hS9
    go_simp
    try with_reducible rfl
   try simp only [Act.put, set9]
   refine wpAnyH_ready (rs := [2]) (by kernel_rfl) (by simp) (AllReadyH.cons (by simp only [get9]; rfl) (fun K hK => ?_) AllReadyH.nil)
   have HGW0 : Hid (wr.grownBy (((wr.setCell ⟨w.heap.size, 0, none⟩ (.int .i64 xa.st)).setCell ⟨w.heap.size, 1, none⟩ (.slice pa ka ra)).setCell ⟨w.heap.size, 2, none⟩ (.slice qa ma da)) (some (w.heap.size))) := Lib.hid (((put_grown _ _ _ _).trans (put_grown _ _ _ _)).trans (put_grown _ _ _ _))
   have Z1B : Hid ((((wr.setCell ⟨w.heap.size, 0, none⟩ (.int .i64 xa.st)).setCell ⟨w.heap.size, 1, none⟩ (.slice pa ka ra)).setCell ⟨w.heap.size, 2, none⟩ (.slice qa ma da)).heap[w.heap.size + 1]? = _) := Lib.hid ((HGW0.out.block (w.heap.size + 1) (by omega) (by simp)).trans Z1.out)
   have FK0 : Hid ((((wr.setCell ⟨w.heap.size, 0, none⟩ (.int .i64 xa.st)).setCell ⟨w.heap.size, 1, none⟩ (.slice pa ka ra)).setCell ⟨w.heap.size, 2, none⟩ (.slice qa ma da)).cell? ⟨SA, 0, none⟩ = some (.int .i64 xa.st) ∧ (((wr.setCell ⟨w.heap.size, 0, none⟩ (.int .i64 xa.st)).setCell ⟨w.heap.size, 1, none⟩ (.slice pa ka ra)).setCell ⟨w.heap.size, 2, none⟩ (.slice qa ma da)).cell? ⟨SA, 1, none⟩ = some (.slice pa ka ra) ∧ (((wr.setCell ⟨w.heap.size, 0, none⟩ (.int .i64 xa.st)).setCell ⟨w.heap.size, 1, none⟩ (.slice pa ka ra)).setCell ⟨w.heap.size, 2, none⟩ (.slice qa ma da)).cell? ⟨SA, 2, none⟩ = some (.slice qa ma da) ∧ (((wr.setCell ⟨w.heap.size, 0, none⟩ (.int .i64 xa.st)).setCell ⟨w.heap.size, 1, none⟩ (.slice pa ka ra)).setCell ⟨w.heap.size, 2, none⟩ (.slice qa ma da)).cell? ⟨GB, 0, none⟩ = some (.int .i64 x.st) ∧ (((wr.setCell ⟨w.heap.size, 0, none⟩ (.int .i64 xa.st)).setCell ⟨w.heap.size, 1, none⟩ (.slice pa ka ra)).setCell ⟨w.heap.size, 2, none⟩ (.slice qa ma da)).cell? ⟨GB, 1, none⟩ = some (.slice p k r) ∧ (((wr.setCell ⟨w.heap.size, 0, none⟩ (.int .i64 xa.st)).setCell ⟨w.heap.size, 1, none⟩ (.slice pa ka ra)).setCell ⟨w.heap.size, 2, none⟩ (.slice qa ma da)).cell? ⟨GB, 2, none⟩ = some (.slice q m d)) := Lib.hid ⟨cell_apart EA.out.1 HGW0.out (by simp; omega), cell_apart EA.out.2.1 HGW0.out (by simp; omega), cell_apart EA.out.2.2.1 HGW0.out (by simp; omega), cell_apart EB.out.1 HGW0.out (by simp; omega), cell_apart EB.out.2.1 HGW0.out (by simp; omega), cell_apart EB.out.2.2.1 HGW0.out (by simp; omega)⟩
   have FD0 : Hid ((World.drew (((wr.setCell ⟨w.heap.size, 0, none⟩ (.int .i64 xa.st)).setCell ⟨w.heap.size, 1, none⟩ (.slice pa ka ra)).setCell ⟨w.heap.size, 2, none⟩ (.slice qa ma da))).cell? ⟨SA, 0, none⟩ = some (.int .i64 xa.st) ∧ (World.drew (((wr.setCell ⟨w.heap.size, 0, none⟩ (.int .i64 xa.st)).setCell ⟨w.heap.size, 1, none⟩ (.slice pa ka ra)).setCell ⟨w.heap.size, 2, none⟩ (.slice qa ma da))).cell? ⟨SA, 1, none⟩ = some (.slice pa ka ra) ∧ (World.drew (((wr.setCell ⟨w.heap.size, 0, none⟩ (.int .i64 xa.st)).setCell ⟨w.heap.size, 1, none⟩ (.slice pa ka ra)).setCell ⟨w.heap.size, 2, none⟩ (.slice qa ma da))).cell? ⟨SA, 2, none⟩ = some (.slice qa ma da) ∧ (World.drew (((wr.setCell ⟨w.heap.size, 0, none⟩ (.int .i64 xa.st)).setCell ⟨w.heap.size, 1, none⟩ (.slice pa ka ra)).setCell ⟨w.heap.size, 2, none⟩ (.slice qa ma da))).cell? ⟨GB, 0, none⟩ = some (.int .i64 x.st) ∧ (World.drew (((wr.setCell ⟨w.heap.size, 0, none⟩ (.int .i64 xa.st)).setCell ⟨w.heap.size, 1, none⟩ (.slice pa ka ra)).setCell ⟨w.heap.size, 2, none⟩ (.slice qa ma da))).cell? ⟨GB, 1, none⟩ = some (.slice p k r) ∧ (World.drew (((wr.setCell ⟨w.heap.size, 0, none⟩ (.int .i64 xa.st)).setCell ⟨w.heap.size, 1, none⟩ (.slice pa ka ra)).setCell ⟨w.heap.size, 2, none⟩ (.slice qa ma da))).cell? ⟨GB, 2, none⟩ = some (.slice q m d)) := Lib.hid (by simp only [cell_drew9]; exact FK0.out)
   obtain ⟨f0, f1, f2, g0, g1, g2⟩ := three_cells Z0.out
   have HP0 := Lib.hid (three_put Z0.out (.int .i64 xa.st) (.slice pa ka ra) (.slice qa ma da))
   go_simp
   clear f0 f1 f2 g0 g1 g2
   refine hK.out _ _ FD0.out (fun hHeld => ?_)
   clear hK K
   try simp only [Act.put, set9]
   refine wpAnyH_ready (rs := [3]) (by kernel_rfl) (by simp) (AllReadyH.cons (by simp only [get9]; rfl) (fun K hK => ?_) AllReadyH.nil)
   have HGW1 : Hid ((((wr.setCell ⟨w.heap.size, 0, none⟩ (.int .i64 xa.st)).setCell ⟨w.heap.size, 1, none⟩ (.slice pa ka ra)).setCell ⟨w.heap.size, 2, none⟩ (.slice qa ma da)).grownBy ((((((wr.setCell ⟨w.heap.size, 0, none⟩ (.int .i64 xa.st)).setCell ⟨w.heap.size, 1, none⟩ (.slice pa ka ra)).setCell ⟨w.heap.size, 2, none⟩ (.slice qa ma da)).setCell ⟨w.heap.size + 1, 0, none⟩ (.int .i64 x.st)).setCell ⟨w.heap.size + 1, 1, none⟩ (.slice p k r)).setCell ⟨w.heap.size + 1, 2, none⟩ (.slice q m d)) (some (w.heap.size + 1))) := Lib.hid (((put_grown _ _ _ _).trans (put_grown _ _ _ _)).trans (put_grown _ _ _ _))
   have FK1 : Hid (((((((wr.setCell ⟨w.heap.size, 0, none⟩ (.int .i64 xa.st)).setCell ⟨w.heap.size, 1, none⟩ (.slice pa ka ra)).setCell ⟨w.heap.size, 2, none⟩ (.slice qa ma da)).setCell ⟨w.heap.size + 1, 0, none⟩ (.int .i64 x.st)).setCell ⟨w.heap.size + 1, 1, none⟩ (.slice p k r)).setCell ⟨w.heap.size + 1, 2, none⟩ (.slice q m d)).cell? ⟨SA, 0, none⟩ = some (.int .i64 xa.st) ∧ ((((((wr.setCell ⟨w.heap.size, 0, none⟩ (.int .i64 xa.st)).setCell ⟨w.heap.size, 1, none⟩ (.slice pa ka ra)).setCell ⟨w.heap.size, 2, none⟩ (.slice qa ma da)).setCell ⟨w.heap.size + 1, 0, none⟩ (.int .i64 x.st)).setCell ⟨w.heap.size + 1, 1, none⟩ (.slice p k r)).setCell ⟨w.heap.size + 1, 2, none⟩ (.slice q m d)).cell? ⟨SA, 1, none⟩ = some (.slice pa ka ra) ∧ ((((((wr.setCell ⟨w.heap.size, 0, none⟩ (.int .i64 xa.st)).setCell ⟨w.heap.size, 1, none⟩ (.slice pa ka ra)).setCell ⟨w.heap.size, 2, none⟩ (.slice qa ma da)).setCell ⟨w.heap.size + 1, 0, none⟩ (.int .i64 x.st)).setCell ⟨w.heap.size + 1, 1, none⟩ (.slice p k r)).setCell ⟨w.heap.size + 1, 2, none⟩ (.slice q m d)).cell? ⟨SA, 2, none⟩ = some (.slice qa ma da) ∧ ((((((wr.setCell ⟨w.heap.size, 0, none⟩ (.int .i64 xa.st)).setCell ⟨w.heap.size, 1, none⟩ (.slice pa ka ra)).setCell ⟨w.heap.size, 2, none⟩ (.slice qa ma da)).setCell ⟨w.heap.size + 1, 0, none⟩ (.int .i64 x.st)).setCell ⟨w.heap.size + 1, 1, none⟩ (.slice p k r)).setCell ⟨w.heap.size + 1, 2, none⟩ (.slice q m d)).cell? ⟨GB, 0, none⟩ = some (.int .i64 x.st) ∧ ((((((wr.setCell ⟨w.heap.size, 0, none⟩ (.int .i64 xa.st)).setCell ⟨w.heap.size, 1, none⟩ (.slice pa ka ra)).setCell ⟨w.heap.size, 2, none⟩ (.slice qa ma da)).setCell ⟨w.heap.size + 1, 0, none⟩ (.int .i64 x.st)).setCell ⟨w.heap.size + 1, 1, none⟩ (.slice p k r)).setCell ⟨w.heap.size + 1, 2, none⟩ (.slice q m d)).cell? ⟨GB, 1, none⟩ = some (.slice p k r) ∧ ((((((wr.setCell ⟨w.heap.size, 0, none⟩ (.int .i64 xa.st)).setCell ⟨w.heap.size, 1, none⟩ (.slice pa ka ra)).setCell ⟨w.heap.size, 2, none⟩ (.slice qa ma da)).setCell ⟨w.heap.size + 1, 0, none⟩ (.int .i64 x.st)).setCell ⟨w.heap.size + 1, 1, none⟩ (.slice p k r)).setCell ⟨w.heap.size + 1, 2, none⟩ (.slice q m d)).cell? ⟨GB, 2, none⟩ = some (.slice q m d)) := Lib.hid ⟨cell_apart FK0.out.1 HGW1.out (by simp; omega), cell_apart FK0.out.2.1 HGW1.out (by simp; omega), cell_apart FK0.out.2.2.1 HGW1.out (by simp; omega), cell_apart FK0.out.2.2.2.1 HGW1.out (by simp; omega), cell_apart FK0.out.2.2.2.2.1 HGW1.out (by simp; omega), cell_apart FK0.out.2.2.2.2.2 HGW1.out (by simp; omega)⟩
   have FD1 : Hid ((World.drew ((((((wr.setCell ⟨w.heap.size, 0, none⟩ (.int .i64 xa.st)).setCell ⟨w.heap.size, 1, none⟩ (.slice pa ka ra)).setCell ⟨w.heap.size, 2, none⟩ (.slice qa ma da)).setCell ⟨w.heap.size + 1, 0, none⟩ (.int .i64 x.st)).setCell ⟨w.heap.size + 1, 1, none⟩ (.slice p k r)).setCell ⟨w.heap.size + 1, 2, none⟩ (.slice q m d))).cell? ⟨SA, 0, none⟩ = some (.int .i64 xa.st) ∧ (World.drew ((((((wr.setCell ⟨w.heap.size, 0, none⟩ (.int .i64 xa.st)).setCell ⟨w.heap.size, 1, none⟩ (.slice pa ka ra)).setCell ⟨w.heap.size, 2, none⟩ (.slice qa ma da)).setCell ⟨w.heap.size + 1, 0, none⟩ (.int .i64 x.st)).setCell ⟨w.heap.size + 1, 1, none⟩ (.slice p k r)).setCell ⟨w.heap.size + 1, 2, none⟩ (.slice q m d))).cell? ⟨SA, 1, none⟩ = some (.slice pa ka ra) ∧ (World.drew ((((((wr.setCell ⟨w.heap.size, 0, none⟩ (.int .i64 xa.st)).setCell ⟨w.heap.size, 1, none⟩ (.slice pa ka ra)).setCell ⟨w.heap.size, 2, none⟩ (.slice qa ma da)).setCell ⟨w.heap.size + 1, 0, none⟩ (.int .i64 x.st)).setCell ⟨w.heap.size + 1, 1, none⟩ (.slice p k r)).setCell ⟨w.heap.size + 1, 2, none⟩ (.slice q m d))).cell? ⟨SA, 2, none⟩ = some (.slice qa ma da) ∧ (World.drew ((((((wr.setCell ⟨w.heap.size, 0, none⟩ (.int .i64 xa.st)).setCell ⟨w.heap.size, 1, none⟩ (.slice pa ka ra)).setCell ⟨w.heap.size, 2, none⟩ (.slice qa ma da)).setCell ⟨w.heap.size + 1, 0, none⟩ (.int .i64 x.st)).setCell ⟨w.heap.size + 1, 1, none⟩ (.slice p k r)).setCell ⟨w.heap.size + 1, 2, none⟩ (.slice q m d))).cell? ⟨GB, 0, none⟩ = some (.int .i64 x.st) ∧ (World.drew ((((((wr.setCell ⟨w.heap.size, 0, none⟩ (.int .i64 xa.st)).setCell ⟨w.heap.size, 1, none⟩ (.slice pa ka ra)).setCell ⟨w.heap.size, 2, none⟩ (.slice qa ma da)).setCell ⟨w.heap.size + 1, 0, none⟩ (.int .i64 x.st)).setCell ⟨w.heap.size + 1, 1, none⟩ (.slice p k r)).setCell ⟨w.heap.size + 1, 2, none⟩ (.slice q m d))).cell? ⟨GB, 1, none⟩ = some (.slice p k r) ∧ (World.drew ((((((wr.setCell ⟨w.heap.size, 0, none⟩ (.int .i64 xa.st)).setCell ⟨w.heap.size, 1, none⟩ (.slice pa ka ra)).setCell ⟨w.heap.size, 2, none⟩ (.slice qa ma da)).setCell ⟨w.heap.size + 1, 0, none⟩ (.int .i64 x.st)).setCell ⟨w.heap.size + 1, 1, none⟩ (.slice p k r)).setCell ⟨w.heap.size + 1, 2, none⟩ (.slice q m d))).cell? ⟨GB, 2, none⟩ = some (.slice q m d)) := Lib.hid (by simp only [cell_drew9]; exact FK1.out)
   obtain ⟨f0, f1, f2, g0, g1, g2⟩ := three_cells Z1B.out
   have HP1 := Lib.hid (three_put Z1B.out (.int .i64 x.st) (.slice p k r) (.slice q m d))
   go_simp
   clear f0 f1 f2 g0 g1 g2
   refine hK.out _ _ FD1.out (fun hHeld => ?_)
   clear hK K
   try simp only [Act.put, set9]
   refine wpAnyH_done (by kernel_rfl) ?_ _
   have HZ0 : Hid (((((((wr.setCell ⟨w.heap.size, 0, none⟩ (.int .i64 xa.st)).setCell ⟨w.heap.size, 1, none⟩ (.slice pa ka ra)).setCell ⟨w.heap.size, 2, none⟩ (.slice qa ma da)).setCell ⟨w.heap.size + 1, 0, none⟩ (.int .i64 x.st)).setCell ⟨w.heap.size + 1, 1, none⟩ (.slice p k r)).setCell ⟨w.heap.size + 1, 2, none⟩ (.slice q m d)).heap[w.heap.size]? = _) := Lib.hid ((HGW1.out.block w.heap.size (by have := HGW0.out.size; omega) (by simp)).trans HP0.out.2.2.2)
   have HZ1 := Lib.hid HP1.out.2.2.2
   have HIN : Hid (Inside w.heap.size (w.heap.size + 2) wr ((((((wr.setCell ⟨w.heap.size, 0, none⟩ (.int .i64 xa.st)).setCell ⟨w.heap.size, 1, none⟩ (.slice pa ka ra)).setCell ⟨w.heap.size, 2, none⟩ (.slice qa ma da)).setCell ⟨w.heap.size + 1, 0, none⟩ (.int .i64 x.st)).setCell ⟨w.heap.size + 1, 1, none⟩ (.slice p k r)).setCell ⟨w.heap.size + 1, 2, none⟩ (.slice q m d))) := Lib.hid ((Inside.row HGW0.out (fun r' e' => by cases e'; omega)).trans (Inside.row HGW1.out (fun r' e' => by cases e'; omega)))
   clear HP0 HP1 HGW0 HGW1 Z1B FK0 FK1 FD0 FD1
   obtain ⟨f0, f1, f2, -, -, -⟩ := three_cells HZ0.out
   obtain ⟨g0, g1, g2, -, -, -⟩ := three_cells HZ1.out
   go_wp2_with fail
   (try simp only [Exit.inBlock, Exit.then])
   refine bodyPost_ret (by simp [results, Tryz.results51, go_sem, f0, f1, f2, g0, g1, g2]; try rfl) rfl ?_
   exact HS.out.leave HCW.out HAL.out hsA HIN.out.drew HO.out.p HOK.out.p
  ·obtain ⟨j', rfl⟩ : ∃ u, j = u + 1 := ⟨j - 1, by omega⟩
   rcases Nat.eq_zero_or_pos m with hm0 | hm0
   ·subst hm0
    have EA := Lib.hid (three_cells HS.out.ga)
    have EB := Lib.hid (three_cells HS.out.box.heap)
    have Z0 : Hid (wr.heap[w.heap.size]? = _) := Lib.hid ((HS.out.dr.2.block w.heap.size (by omega) (by omega)).trans HR0.out)
    have Z1 : Hid (wr.heap[w.heap.size + 1]? = _) := Lib.hid ((HS.out.dr.2.block (w.heap.size + 1) (by omega) (by omega)).trans HR1.out)
    have hbx1 := HS.out.c2
    have hbx2 := HS.out.c3
    have hbx3 := HS.out.c4
    have hbx4 := HS.out.c5
    have hbx5 := HS.out.box.base
    obtain ⟨e0, e1, e2, -, -, -⟩ := three_cells HS.out.box.heap
    go_wp2_with fail
    clear e0 e1 e2
    refine wp_region_held_drew (S := fun w9 => w9.cell? ⟨SA, 0, none⟩ = some (.int .i64 xa.st) ∧ w9.cell? ⟨SA, 1, none⟩ = some (.slice pa ka ra) ∧ w9.cell? ⟨SA, 2, none⟩ = some (.slice qa ma da) ∧ w9.cell? ⟨GB, 0, none⟩ = some (.int .i64 x.st) ∧ w9.cell? ⟨GB, 1, none⟩ = some (.slice p k r) ∧ w9.cell? ⟨GB, 2, none⟩ = some (.slice q 0 d)) (by kernel_rfl) ⟨EA.out.1, EA.out.2.1, EA.out.2.2.1, EB.out.1, EB.out.2.1, EB.out.2.2.1⟩ (fun hHeld => ?_)
    refine wpAnyH_take (i := 0) (v := ?v61) (by simp only [get9]; rfl) (by kernel_rfl) (by kernel_rfl) (by kernel_rfl) (by exact fun _ _ _ h => h) (Or.inl ⟨by rfl, fun w9 hS9 => ?hy61⟩) hHeld ?rest61
    case hy61 =>
     dsimp only at hS9
     obtain ⟨u0, u1, u2, u3, u4, u5⟩ := hS9
     go_simp
     try with_reducible rfl
    try simp only [Act.put, set9]
    refine wpAnyH_take (i := 1) (v := ?v62) (by simp only [get9]; rfl) (by kernel_rfl) (by kernel_rfl) (by kernel_rfl) (by exact fun _ _ _ h => h) (Or.inl ⟨by rfl, fun w9 hS9 => ?hy62⟩) hHeld ?rest62
    case hy62 =>
     dsimp only at hS9
     obtain ⟨u0, u1, u2, u3, u4, u5⟩ := hS9
     go_simp
     try with_reducible rfl
    try simp only [Act.put, set9]
    refine wpAnyH_ready (rs := [2]) (by kernel_rfl) (by simp) (AllReadyH.cons (by simp only [get9]; rfl) (fun K hK => ?_) AllReadyH.nil)
    have HGW0 : Hid (wr.grownBy (((wr.setCell ⟨w.heap.size, 0, none⟩ (.int .i64 xa.st)).setCell ⟨w.heap.size, 1, none⟩ (.slice pa ka ra)).setCell ⟨w.heap.size, 2, none⟩ (.slice qa ma da)) (some (w.heap.size))) := Lib.hid (((put_grown _ _ _ _).trans (put_grown _ _ _ _)).trans (put_grown _ _ _ _))
    have Z1B : Hid ((((wr.setCell ⟨w.heap.size, 0, none⟩ (.int .i64 xa.st)).setCell ⟨w.heap.size, 1, none⟩ (.slice pa ka ra)).setCell ⟨w.heap.size, 2, none⟩ (.slice qa ma da)).heap[w.heap.size + 1]? = _) := Lib.hid ((HGW0.out.block (w.heap.size + 1) (by omega) (by simp)).trans Z1.out)
    have FK0 : Hid ((((wr.setCell ⟨w.heap.size, 0, none⟩ (.int .i64 xa.st)).setCell ⟨w.heap.size, 1, none⟩ (.slice pa ka ra)).setCell ⟨w.heap.size, 2, none⟩ (.slice qa ma da)).cell? ⟨SA, 0, none⟩ = some (.int .i64 xa.st) ∧ (((wr.setCell ⟨w.heap.size, 0, none⟩ (.int .i64 xa.st)).setCell ⟨w.heap.size, 1, none⟩ (.slice pa ka ra)).setCell ⟨w.heap.size, 2, none⟩ (.slice qa ma da)).cell? ⟨SA, 1, none⟩ = some (.slice pa ka ra) ∧ (((wr.setCell ⟨w.heap.size, 0, none⟩ (.int .i64 xa.st)).setCell ⟨w.heap.size, 1, none⟩ (.slice pa ka ra)).setCell ⟨w.heap.size, 2, none⟩ (.slice qa ma da)).cell? ⟨SA, 2, none⟩ = some (.slice qa ma da) ∧ (((wr.setCell ⟨w.heap.size, 0, none⟩ (.int .i64 xa.st)).setCell ⟨w.heap.size, 1, none⟩ (.slice pa ka ra)).setCell ⟨w.heap.size, 2, none⟩ (.slice qa ma da)).cell? ⟨GB, 0, none⟩ = some (.int .i64 x.st) ∧ (((wr.setCell ⟨w.heap.size, 0, none⟩ (.int .i64 xa.st)).setCell ⟨w.heap.size, 1, none⟩ (.slice pa ka ra)).setCell ⟨w.heap.size, 2, none⟩ (.slice qa ma da)).cell? ⟨GB, 1, none⟩ = some (.slice p k r) ∧ (((wr.setCell ⟨w.heap.size, 0, none⟩ (.int .i64 xa.st)).setCell ⟨w.heap.size, 1, none⟩ (.slice pa ka ra)).setCell ⟨w.heap.size, 2, none⟩ (.slice qa ma da)).cell? ⟨GB, 2, none⟩ = some (.slice q 0 d)) := Lib.hid ⟨cell_apart EA.out.1 HGW0.out (by simp; omega), cell_apart EA.out.2.1 HGW0.out (by simp; omega), cell_apart EA.out.2.2.1 HGW0.out (by simp; omega), cell_apart EB.out.1 HGW0.out (by simp; omega), cell_apart EB.out.2.1 HGW0.out (by simp; omega), cell_apart EB.out.2.2.1 HGW0.out (by simp; omega)⟩
    have FD0 : Hid ((World.drew (((wr.setCell ⟨w.heap.size, 0, none⟩ (.int .i64 xa.st)).setCell ⟨w.heap.size, 1, none⟩ (.slice pa ka ra)).setCell ⟨w.heap.size, 2, none⟩ (.slice qa ma da))).cell? ⟨SA, 0, none⟩ = some (.int .i64 xa.st) ∧ (World.drew (((wr.setCell ⟨w.heap.size, 0, none⟩ (.int .i64 xa.st)).setCell ⟨w.heap.size, 1, none⟩ (.slice pa ka ra)).setCell ⟨w.heap.size, 2, none⟩ (.slice qa ma da))).cell? ⟨SA, 1, none⟩ = some (.slice pa ka ra) ∧ (World.drew (((wr.setCell ⟨w.heap.size, 0, none⟩ (.int .i64 xa.st)).setCell ⟨w.heap.size, 1, none⟩ (.slice pa ka ra)).setCell ⟨w.heap.size, 2, none⟩ (.slice qa ma da))).cell? ⟨SA, 2, none⟩ = some (.slice qa ma da) ∧ (World.drew (((wr.setCell ⟨w.heap.size, 0, none⟩ (.int .i64 xa.st)).setCell ⟨w.heap.size, 1, none⟩ (.slice pa ka ra)).setCell ⟨w.heap.size, 2, none⟩ (.slice qa ma da))).cell? ⟨GB, 0, none⟩ = some (.int .i64 x.st) ∧ (World.drew (((wr.setCell ⟨w.heap.size, 0, none⟩ (.int .i64 xa.st)).setCell ⟨w.heap.size, 1, none⟩ (.slice pa ka ra)).setCell ⟨w.heap.size, 2, none⟩ (.slice qa ma da))).cell? ⟨GB, 1, none⟩ = some (.slice p k r) ∧ (World.drew (((wr.setCell ⟨w.heap.size, 0, none⟩ (.int .i64 xa.st)).setCell ⟨w.heap.size, 1, none⟩ (.slice pa ka ra)).setCell ⟨w.heap.size, 2, none⟩ (.slice qa ma da))).cell? ⟨GB, 2, none⟩ = some (.slice q 0 d)) := Lib.hid (by simp only [cell_drew9]; exact FK0.out)
    obtain ⟨f0, f1, f2, g0, g1, g2⟩ := three_cells Z0.out
    have HP0 := Lib.hid (three_put Z0.out (.int .i64 xa.st) (.slice pa ka ra) (.slice qa ma da))
    go_simp
    clear f0 f1 f2 g0 g1 g2
    refine hK.out _ _ FD0.out (fun hHeld => ?_)
    clear hK K
    try simp only [Act.put, set9]
    refine wpAnyH_ready (rs := [3]) (by kernel_rfl) (by simp) (AllReadyH.cons (by simp only [get9]; rfl) (fun K hK => ?_) AllReadyH.nil)
    have HGW1 : Hid ((((wr.setCell ⟨w.heap.size, 0, none⟩ (.int .i64 xa.st)).setCell ⟨w.heap.size, 1, none⟩ (.slice pa ka ra)).setCell ⟨w.heap.size, 2, none⟩ (.slice qa ma da)).grownBy ((((((wr.setCell ⟨w.heap.size, 0, none⟩ (.int .i64 xa.st)).setCell ⟨w.heap.size, 1, none⟩ (.slice pa ka ra)).setCell ⟨w.heap.size, 2, none⟩ (.slice qa ma da)).setCell ⟨w.heap.size + 1, 0, none⟩ (.int .i64 x.st)).setCell ⟨w.heap.size + 1, 1, none⟩ (.slice p k r)).setCell ⟨w.heap.size + 1, 2, none⟩ (.slice q 0 d)) (some (w.heap.size + 1))) := Lib.hid (((put_grown _ _ _ _).trans (put_grown _ _ _ _)).trans (put_grown _ _ _ _))
    have FK1 : Hid (((((((wr.setCell ⟨w.heap.size, 0, none⟩ (.int .i64 xa.st)).setCell ⟨w.heap.size, 1, none⟩ (.slice pa ka ra)).setCell ⟨w.heap.size, 2, none⟩ (.slice qa ma da)).setCell ⟨w.heap.size + 1, 0, none⟩ (.int .i64 x.st)).setCell ⟨w.heap.size + 1, 1, none⟩ (.slice p k r)).setCell ⟨w.heap.size + 1, 2, none⟩ (.slice q 0 d)).cell? ⟨SA, 0, none⟩ = some (.int .i64 xa.st) ∧ ((((((wr.setCell ⟨w.heap.size, 0, none⟩ (.int .i64 xa.st)).setCell ⟨w.heap.size, 1, none⟩ (.slice pa ka ra)).setCell ⟨w.heap.size, 2, none⟩ (.slice qa ma da)).setCell ⟨w.heap.size + 1, 0, none⟩ (.int .i64 x.st)).setCell ⟨w.heap.size + 1, 1, none⟩ (.slice p k r)).setCell ⟨w.heap.size + 1, 2, none⟩ (.slice q 0 d)).cell? ⟨SA, 1, none⟩ = some (.slice pa ka ra) ∧ ((((((wr.setCell ⟨w.heap.size, 0, none⟩ (.int .i64 xa.st)).setCell ⟨w.heap.size, 1, none⟩ (.slice pa ka ra)).setCell ⟨w.heap.size, 2, none⟩ (.slice qa ma da)).setCell ⟨w.heap.size + 1, 0, none⟩ (.int .i64 x.st)).setCell ⟨w.heap.size + 1, 1, none⟩ (.slice p k r)).setCell ⟨w.heap.size + 1, 2, none⟩ (.slice q 0 d)).cell? ⟨SA, 2, none⟩ = some (.slice qa ma da) ∧ ((((((wr.setCell ⟨w.heap.size, 0, none⟩ (.int .i64 xa.st)).setCell ⟨w.heap.size, 1, none⟩ (.slice pa ka ra)).setCell ⟨w.heap.size, 2, none⟩ (.slice qa ma da)).setCell ⟨w.heap.size + 1, 0, none⟩ (.int .i64 x.st)).setCell ⟨w.heap.size + 1, 1, none⟩ (.slice p k r)).setCell ⟨w.heap.size + 1, 2, none⟩ (.slice q 0 d)).cell? ⟨GB, 0, none⟩ = some (.int .i64 x.st) ∧ ((((((wr.setCell ⟨w.heap.size, 0, none⟩ (.int .i64 xa.st)).setCell ⟨w.heap.size, 1, none⟩ (.slice pa ka ra)).setCell ⟨w.heap.size, 2, none⟩ (.slice qa ma da)).setCell ⟨w.heap.size + 1, 0, none⟩ (.int .i64 x.st)).setCell ⟨w.heap.size + 1, 1, none⟩ (.slice p k r)).setCell ⟨w.heap.size + 1, 2, none⟩ (.slice q 0 d)).cell? ⟨GB, 1, none⟩ = some (.slice p k r) ∧ ((((((wr.setCell ⟨w.heap.size, 0, none⟩ (.int .i64 xa.st)).setCell ⟨w.heap.size, 1, none⟩ (.slice pa ka ra)).setCell ⟨w.heap.size, 2, none⟩ (.slice qa ma da)).setCell ⟨w.heap.size + 1, 0, none⟩ (.int .i64 x.st)).setCell ⟨w.heap.size + 1, 1, none⟩ (.slice p k r)).setCell ⟨w.heap.size + 1, 2, none⟩ (.slice q 0 d)).cell? ⟨GB, 2, none⟩ = some (.slice q 0 d)) := Lib.hid ⟨cell_apart FK0.out.1 HGW1.out (by simp; omega), cell_apart FK0.out.2.1 HGW1.out (by simp; omega), cell_apart FK0.out.2.2.1 HGW1.out (by simp; omega), cell_apart FK0.out.2.2.2.1 HGW1.out (by simp; omega), cell_apart FK0.out.2.2.2.2.1 HGW1.out (by simp; omega), cell_apart FK0.out.2.2.2.2.2 HGW1.out (by simp; omega)⟩
    have FD1 : Hid ((World.drew ((((((wr.setCell ⟨w.heap.size, 0, none⟩ (.int .i64 xa.st)).setCell ⟨w.heap.size, 1, none⟩ (.slice pa ka ra)).setCell ⟨w.heap.size, 2, none⟩ (.slice qa ma da)).setCell ⟨w.heap.size + 1, 0, none⟩ (.int .i64 x.st)).setCell ⟨w.heap.size + 1, 1, none⟩ (.slice p k r)).setCell ⟨w.heap.size + 1, 2, none⟩ (.slice q 0 d))).cell? ⟨SA, 0, none⟩ = some (.int .i64 xa.st) ∧ (World.drew ((((((wr.setCell ⟨w.heap.size, 0, none⟩ (.int .i64 xa.st)).setCell ⟨w.heap.size, 1, none⟩ (.slice pa ka ra)).setCell ⟨w.heap.size, 2, none⟩ (.slice qa ma da)).setCell ⟨w.heap.size + 1, 0, none⟩ (.int .i64 x.st)).setCell ⟨w.heap.size + 1, 1, none⟩ (.slice p k r)).setCell ⟨w.heap.size + 1, 2, none⟩ (.slice q 0 d))).cell? ⟨SA, 1, none⟩ = some (.slice pa ka ra) ∧ (World.drew ((((((wr.setCell ⟨w.heap.size, 0, none⟩ (.int .i64 xa.st)).setCell ⟨w.heap.size, 1, none⟩ (.slice pa ka ra)).setCell ⟨w.heap.size, 2, none⟩ (.slice qa ma da)).setCell ⟨w.heap.size + 1, 0, none⟩ (.int .i64 x.st)).setCell ⟨w.heap.size + 1, 1, none⟩ (.slice p k r)).setCell ⟨w.heap.size + 1, 2, none⟩ (.slice q 0 d))).cell? ⟨SA, 2, none⟩ = some (.slice qa ma da) ∧ (World.drew ((((((wr.setCell ⟨w.heap.size, 0, none⟩ (.int .i64 xa.st)).setCell ⟨w.heap.size, 1, none⟩ (.slice pa ka ra)).setCell ⟨w.heap.size, 2, none⟩ (.slice qa ma da)).setCell ⟨w.heap.size + 1, 0, none⟩ (.int .i64 x.st)).setCell ⟨w.heap.size + 1, 1, none⟩ (.slice p k r)).setCell ⟨w.heap.size + 1, 2, none⟩ (.slice q 0 d))).cell? ⟨GB, 0, none⟩ = some (.int .i64 x.st) ∧ (World.drew ((((((wr.setCell ⟨w.heap.size, 0, none⟩ (.int .i64 xa.st)).setCell ⟨w.heap.size, 1, none⟩ (.slice pa ka ra)).setCell ⟨w.heap.size, 2, none⟩ (.slice qa ma da)).setCell ⟨w.heap.size + 1, 0, none⟩ (.int .i64 x.st)).setCell ⟨w.heap.size + 1, 1, none⟩ (.slice p k r)).setCell ⟨w.heap.size + 1, 2, none⟩ (.slice q 0 d))).cell? ⟨GB, 1, none⟩ = some (.slice p k r) ∧ (World.drew ((((((wr.setCell ⟨w.heap.size, 0, none⟩ (.int .i64 xa.st)).setCell ⟨w.heap.size, 1, none⟩ (.slice pa ka ra)).setCell ⟨w.heap.size, 2, none⟩ (.slice qa ma da)).setCell ⟨w.heap.size + 1, 0, none⟩ (.int .i64 x.st)).setCell ⟨w.heap.size + 1, 1, none⟩ (.slice p k r)).setCell ⟨w.heap.size + 1, 2, none⟩ (.slice q 0 d))).cell? ⟨GB, 2, none⟩ = some (.slice q 0 d)) := Lib.hid (by simp only [cell_drew9]; exact FK1.out)
    obtain ⟨f0, f1, f2, g0, g1, g2⟩ := three_cells Z1B.out
    have HP1 := Lib.hid (three_put Z1B.out (.int .i64 x.st) (.slice p k r) (.slice q 0 d))
    go_simp
    clear f0 f1 f2 g0 g1 g2
    refine hK.out _ _ FD1.out (fun hHeld => ?_)
    clear hK K
    try simp only [Act.put, set9]
    refine wpAnyH_done (by kernel_rfl) ?_ _
    have HZ0 : Hid (((((((wr.setCell ⟨w.heap.size, 0, none⟩ (.int .i64 xa.st)).setCell ⟨w.heap.size, 1, none⟩ (.slice pa ka ra)).setCell ⟨w.heap.size, 2, none⟩ (.slice qa ma da)).setCell ⟨w.heap.size + 1, 0, none⟩ (.int .i64 x.st)).setCell ⟨w.heap.size + 1, 1, none⟩ (.slice p k r)).setCell ⟨w.heap.size + 1, 2, none⟩ (.slice q 0 d)).heap[w.heap.size]? = _) := Lib.hid ((HGW1.out.block w.heap.size (by have := HGW0.out.size; omega) (by simp)).trans HP0.out.2.2.2)
    have HZ1 := Lib.hid HP1.out.2.2.2
    have HIN : Hid (Inside w.heap.size (w.heap.size + 2) wr ((((((wr.setCell ⟨w.heap.size, 0, none⟩ (.int .i64 xa.st)).setCell ⟨w.heap.size, 1, none⟩ (.slice pa ka ra)).setCell ⟨w.heap.size, 2, none⟩ (.slice qa ma da)).setCell ⟨w.heap.size + 1, 0, none⟩ (.int .i64 x.st)).setCell ⟨w.heap.size + 1, 1, none⟩ (.slice p k r)).setCell ⟨w.heap.size + 1, 2, none⟩ (.slice q 0 d))) := Lib.hid ((Inside.row HGW0.out (fun r' e' => by cases e'; omega)).trans (Inside.row HGW1.out (fun r' e' => by cases e'; omega)))
    clear HP0 HP1 HGW0 HGW1 Z1B FK0 FK1 FD0 FD1
    obtain ⟨f0, f1, f2, -, -, -⟩ := three_cells HZ0.out
    obtain ⟨g0, g1, g2, -, -, -⟩ := three_cells HZ1.out
    go_wp2_with fail
    (try simp only [Exit.inBlock, Exit.then])
    refine bodyPost_ret (by simp [results, Tryz.results51, go_sem, f0, f1, f2, g0, g1, g2]; try rfl) rfl ?_
    exact HS.out.leave HCW.out HAL.out hsA HIN.out.drew HO.out.p HOK.out.p
   ·obtain ⟨g, eg, -, -⟩ := HS.out.box.moves.head hm0
    subst eg
    have hm0I : (0 : Int) < (m : Int) := by omega
    have hm0B : decide ((m : Int) > 0) = true := decide_eq_true hm0I
    obtain ⟨e0, e1, e2, -, -, -⟩ := three_cells HS.out.box.heap
    go_wp2_with fail
    clear e0 e1 e2 hm0B
    refine (below_any b a n c m (by omega) (by omega) _ HS.out.dr.1).mono ?_
    rintro e w3 ⟨y3, hy0, hy1, rfl, hd3⟩
    obtain ⟨i, rfl⟩ : ∃ u : Nat, y3 = u := ⟨y3.toNat, by omega⟩
    have HS3 := Lib.hid (HS.out.only hd3)
    have hil : i < m := by omega
    have hiI : (i : Int) < (m : Int) := by omega
    clear hd3 hy0 hy1
    go_wp2_with fail
    refine (below_any b a n c 4 (by omega) (by omega) _ HS3.out.dr.1).mono ?_
    rintro e W4 ⟨y, hy0, hy1, rfl, hd4⟩
    have HS4 := Lib.hid (HS3.out.only hd4)
    clear hd4 HS3 HS
    obtain ⟨z, hz⟩ : ∃ z, x.moves[i]? = some z := ⟨_, List.getElem?_eq_getElem (by omega)⟩
    obtain ⟨b5, o5, z', e5, hz', c0, c1, c2, c3⟩ := mvs_at (HS4.out.box.moves.items Mv.enc_len) hil
    cases e5
    rw [hz] at hz'
    cases hz'
    simp only [Nat.zero_add] at c0 c1 c2 c3
    have CZ := Lib.hid (And.intro c0 (And.intro c1 (And.intro c2 c3)))
    have HZ := Lib.hid hz
    have HZM := Lib.hid (HO.out.2.2.2 z (List.mem_of_getElem? hz))
    have hroom : m ≤ d ∧ (d : Int) ≤ 9223372036854775807 := HS4.out.box.moves.room
    have hst1 : 1 ≤ x.st ∧ x.st ≤ 4 := HO.out.1
    have hsw4 := HS4.out.dr.2.size
    have hgb4 := HS4.out.box.lt
    have hbx1 := HS4.out.c1
    have hbx2 := HS4.out.c2
    have hbx3 := HS4.out.c3
    have hbx4 := HS4.out.c4
    have hbx5 := HS4.out.c5
    have hbx6 := HS4.out.box.base
    clear hz c0 c1 c2 c3
    by_cases n0 : y = 0
    ·subst n0
     have hle1 : (i : Int) + 1 ≤ (m : Int) := by omega
     have hle0 : (0 : Int) ≤ (i : Int) + 1 := by omega
     have hii : (i : Int) ≤ (i : Int) + 1 := by omega
     have hw1 : IntKind.i64.wrap ((i : Int) + 1) = (i : Int) + 1 := by rw [IntKind.wrap_i64]; omega
     have htn : ((i : Int) + 1).toNat = i + 1 := by omega
     have hle4 : i + 1 ≤ m := by omega
     have hle5 : i ≤ d := by omega
     have hle2 : (m : Int) ≤ (d : Int) := by omega
     have hle3 : (i : Int) ≤ (d : Int) := by omega
     go_wp2_with fail
     by_cases hlast : i + 1 < d
     ·have hdn : ¬ d = i + 1 := by omega
      refine wp_region_held_drew (S := fun w9 => True) (by kernel_rfl) trivial (fun hHeld => ?_)
      refine wpAnyH_take (i := 1) (v := ?v1) (by simp only [get9]; rfl) (by kernel_rfl) (by kernel_rfl) (by kernel_rfl) (by exact fun _ _ _ h => h) (Or.inl ⟨by rfl, fun w9 hS9 => ?hy1⟩) hHeld ?rest1
      case hy1 =>
       dsimp only at hS9
       skip
       go_simp
       try with_reducible rfl
      try simp only [Act.put, set9]
      refine wpAnyH_take (i := 3) (v := ?v2) (by simp only [get9]; rfl) (by kernel_rfl) (by kernel_rfl) (by kernel_rfl) (by exact fun _ _ _ h => h) (Or.inl ⟨by rfl, fun w9 hS9 => ?hy2⟩) hHeld ?rest2
      case hy2 =>
       dsimp only at hS9
       skip
       go_simp
       try with_reducible rfl
      try simp only [Act.put, set9]
      refine wpAnyH_take (i := 6) (v := ?v3) (by simp only [get9]; rfl) (by kernel_rfl) (by kernel_rfl) (by kernel_rfl) (by exact fun _ _ _ h => h) (Or.inl ⟨by rfl, fun w9 hS9 => ?hy3⟩) hHeld ?rest3
      case hy3 =>
       dsimp only at hS9
       skip
       go_simp
       try with_reducible rfl
      try simp only [Act.put, set9]
      refine wpAnyH_take (i := 8) (v := ?v4) (by simp only [get9]; rfl) (by kernel_rfl) (by kernel_rfl) (by kernel_rfl) (by exact fun _ _ _ h => h) (Or.inl ⟨by rfl, fun w9 hS9 => ?hy4⟩) hHeld ?rest4
      case hy4 =>
       dsimp only at hS9
       skip
       go_simp
       try with_reducible rfl
      try simp only [Act.put, set9]
      refine wpAnyH_take (i := 9) (v := ?v5) (by simp only [get9]; rfl) (by kernel_rfl) (by kernel_rfl) (by kernel_rfl) (by exact fun _ _ _ h => h) (Or.inl ⟨by rfl, fun w9 hS9 => ?hy5⟩) hHeld ?rest5
      case hy5 =>
       dsimp only at hS9
       skip
       go_simp
       try with_reducible rfl
      try simp only [Act.put, set9]
      refine wpAnyH_ready (rs := [0, 2, 7]) (by kernel_rfl) (by simp) (AllReadyH.cons (by simp only [get9]; rfl) (fun K hK => ?_) (AllReadyH.cons (by simp only [get9]; rfl) (fun K hK => ?_) (AllReadyH.cons (by simp only [get9]; rfl) (fun K hK => ?_) AllReadyH.nil)))
      ·skip
       go_simp
       have SB0 : Hid (St b a n c WA WA.heap.size SA SA SB GB #[.int .i64 xa.st, .slice pa ka ra, .slice qa ma da] xa (World.drew (World.alloc W4 (.cells #[] 43))) x p k r (some ⟨g, 0, none⟩) m d) := Lib.hid ((HS4.out.same (alloc_same W4 _)).same (Below.refl _ _).drew)
       have OE : Hid (OwnM 43 (World.drew (World.alloc W4 (.cells #[] 43))) W4.heap.size (some ⟨W4.heap.size, 0, none⟩) 0 0 []) := Lib.hid ((own_emptyI (enc := Mv.enc) (s := 4) (w := W4) (B := W4.heap.size) 43 (Nat.le_refl _)).same (Below.refl _ _).drew)
       have BE : Hid (Below W4.heap.size W4 (World.drew (World.alloc W4 (.cells #[] 43)))) := Lib.hid ((alloc_same W4 _).drew)
       refine hK.out _ _ trivial (fun hHeld => ?_)
       clear hK K
       try simp only [Act.put, set9]
       refine wpAnyH_ready (rs := [2, 7]) (by kernel_rfl) (by simp) (AllReadyH.cons (by simp only [get9]; rfl) (fun K hK => ?_) (AllReadyH.cons (by simp only [get9]; rfl) (fun K hK => ?_) AllReadyH.nil))
       ·skip
        have ec : (World.alloc W4 (.cells #[] 43)).cell? ⟨GB, 2, none⟩ = some (.slice (some ⟨g, 0, none⟩) m d) := (three_cells SB0.out.box.heap).2.2.1
        go_simp
        clear ec
        refine hK.out _ _ trivial (fun hHeld => ?_)
        clear hK K
        try simp only [Act.put, set9]
        refine wpAnyH_take (i := 4) (v := ?v6) (by simp only [get9]; rfl) (by kernel_rfl) (by kernel_rfl) (by kernel_rfl) (by exact fun _ _ _ h => h) (Or.inl ⟨by rfl, fun w9 hS9 => ?hy6⟩) hHeld ?rest6
        case hy6 =>
         dsimp only at hS9
         skip
         go_simp
         try with_reducible rfl
        try simp only [Act.put, set9]
        refine wpAnyH_ready (rs := [5, 7]) (by kernel_rfl) (by simp) (AllReadyH.cons (by simp only [get9]; rfl) (fun K hK => ?_) (AllReadyH.cons (by simp only [get9]; rfl) (fun K hK => ?_) AllReadyH.nil))
        ·skip
         have T1 : Hid (Mvs (World.drew (World.alloc W4 (.cells #[] 43))) (some ⟨g, 0, none⟩) i (x.moves.take i)) := Lib.hid ((SB0.out.box.moves.items Mv.enc_len).take9 (by omega))
         refine step_app_someI _ Mv.enc_len (by omega) Mv.cells (by rfl) (.tmp 34) (.tmp 38) 25 (by rfl) 43 i1 (.agg #[.int .i64 0, .bool false, .int .i64 0, .int .i64 0]) 32 Tryz.underlying25 HI1.out.1 HI1.out.2.1 HI1.out.2.2.1 HI1.out.2.2.2 rfl (by rfl) OE.out (by rfl) T1.out (by omega) (by omega) BE.out.size ?_
         intro g7 y7 w7 ho7 hg7 hw7
         have B7 : Hid (Below W4.heap.size W4 w7) := Lib.hid (BE.out.grown hg7 BE.out.size (fun r' e' => by cases e'; exact Nat.le_refl _))
         have O7 : Hid (OwnM 43 w7 W4.heap.size (some ⟨g7, 0, none⟩) i y7 (x.moves.take i)) := Lib.hid (by rw [Nat.zero_add, List.nil_append] at ho7; exact ho7)
         have S7 := Lib.hid (HS4.out.same B7.out)
         have N7 : 0 + i = i := Nat.zero_add i
         clear ho7 hg7 hw7
         simp only [N7]
         clear N7
         refine hK.out _ _ trivial (fun hHeld => ?_)
         clear hK K
         try simp only [Act.put, set9]
         refine wpAnyH_ready (rs := [7]) (by kernel_rfl) (by simp) (AllReadyH.cons (by simp only [get9]; rfl) (fun K hK => ?_) AllReadyH.nil)
         have ec : w7.cell? ⟨GB, 2, none⟩ = some (.slice (some ⟨g, 0, none⟩) m d) := (three_cells S7.out.box.heap).2.2.1
         go_simp
         clear ec
         refine hK.out _ _ trivial (fun hHeld => ?_)
         clear hK K
         try simp only [Act.put, set9]
         refine wpAnyH_take (i := 10) (v := ?v7) (by simp only [get9]; rfl) (by kernel_rfl) (by kernel_rfl) (by kernel_rfl) (by exact fun _ _ _ h => h) (Or.inl ⟨by rfl, fun w9 hS9 => ?hy7⟩) hHeld ?rest7
         case hy7 =>
          dsimp only at hS9
          skip
          go_simp
          try with_reducible rfl
         try simp only [Act.put, set9]
         refine wpAnyH_ready (rs := [11]) (by kernel_rfl) (by simp) (AllReadyH.cons (by simp only [get9]; rfl) (fun K hK => ?_) AllReadyH.nil)
         have T2 : Hid (Mvs w7 (some ⟨g, (i + 1) * 4, none⟩) (m - (i + 1)) (x.moves.drop (i + 1))) := Lib.hid ((S7.out.box.moves.items Mv.enc_len).drop9 (by omega))
         refine step_app_someI _ Mv.enc_len (by omega) Mv.cells (by rfl) (.tmp 39) (.tmp 44) 25 (by rfl) 43 i1 (.agg #[.int .i64 0, .bool false, .int .i64 0, .int .i64 0]) 32 Tryz.underlying25 HI1.out.1 HI1.out.2.1 HI1.out.2.2.1 HI1.out.2.2.2 rfl (by rfl) O7.out (by rfl) T2.out (by omega) (by omega) B7.out.size ?_
         intro g8 y8 w8 ho8 hg8 hw8
         have hg7s := (O7.out.span _ rfl).1
         have B8 : Hid (Below W4.heap.size W4 w8) := Lib.hid (B7.out.grown hg8 B7.out.size (fun r' e' => by cases e'; exact hg7s))
         have hg8w : W4.heap.size ≤ g8 := (ho8.span _ rfl).1
         have HNM := Lib.hid (HS4.out.box.newM B8.out (ho8.lower (by omega)) hg8w)
         have SF := Lib.hid (HS4.out.mod HNM.out.1 HNM.out.2)
         have h8 : w8.heap[GB]? = some (.cells #[.int .i64 x.st, .slice p k r, .slice (some ⟨g, 0, none⟩) m d] 27 (0, 0)) := (B8.out.block GB HS4.out.box.lt).trans HS4.out.box.heap
         obtain ⟨h80, h81, h82, k80, k81, k82⟩ := three_cells h8
         clear ho8 hg8 hw8 h8
         refine hK.out _ _ trivial (fun hHeld => ?_)
         clear hK K
         try simp only [Act.put, set9]
         refine wpAnyH_take (i := 12) (v := ?v8) (by simp only [get9]; rfl) (by kernel_rfl) (by kernel_rfl) (by kernel_rfl) (by exact fun _ _ _ h => h) (Or.inl ⟨by rfl, fun w9 hS9 => ?hy8⟩) hHeld ?rest8
         case hy8 =>
          dsimp only at hS9
          skip
          go_simp
          try with_reducible rfl
         try simp only [Act.put, set9]
         refine wpAnyH_ready (rs := [13]) (by kernel_rfl) (by simp) (AllReadyH.cons (by simp only [get9]; rfl) (fun K hK => ?_) AllReadyH.nil)
         go_simp
         refine hK.out _ _ trivial (fun hHeld => ?_)
         clear hK K
         try simp only [Act.put, set9]
         refine wpAnyH_done (by kernel_rfl) ?_ _
         clear h80 h81 h82 k80 k81 k82
         go_wp2_with fail
         go_roundw
         case rel => exact ⟨j', _, p, k, r, _, _, _, by go_num, by omega, SF.out, Lib.hid (HO.out.cut i)⟩
         case measure => simp [intOf]
        ·skip
         have ec : (World.alloc W4 (.cells #[] 43)).cell? ⟨GB, 2, none⟩ = some (.slice (some ⟨g, 0, none⟩) m d) := (three_cells SB0.out.box.heap).2.2.1
         go_simp
         clear ec
         refine hK.out _ _ trivial (fun hHeld => ?_)
         clear hK K
         try simp only [Act.put, set9]
         refine wpAnyH_take (i := 10) (v := ?v9) (by simp only [get9]; rfl) (by kernel_rfl) (by kernel_rfl) (by kernel_rfl) (by exact fun _ _ _ h => h) (Or.inl ⟨by rfl, fun w9 hS9 => ?hy9⟩) hHeld ?rest9
         case hy9 =>
          dsimp only at hS9
          skip
          go_simp
          try with_reducible rfl
         try simp only [Act.put, set9]
         refine wpAnyH_ready (rs := [5]) (by kernel_rfl) (by simp) (AllReadyH.cons (by simp only [get9]; rfl) (fun K hK => ?_) AllReadyH.nil)
         have T1 : Hid (Mvs (World.drew (World.alloc W4 (.cells #[] 43))) (some ⟨g, 0, none⟩) i (x.moves.take i)) := Lib.hid ((SB0.out.box.moves.items Mv.enc_len).take9 (by omega))
         refine step_app_someI _ Mv.enc_len (by omega) Mv.cells (by rfl) (.tmp 34) (.tmp 38) 25 (by rfl) 43 i1 (.agg #[.int .i64 0, .bool false, .int .i64 0, .int .i64 0]) 32 Tryz.underlying25 HI1.out.1 HI1.out.2.1 HI1.out.2.2.1 HI1.out.2.2.2 rfl (by rfl) OE.out (by rfl) T1.out (by omega) (by omega) BE.out.size ?_
         intro g7 y7 w7 ho7 hg7 hw7
         have B7 : Hid (Below W4.heap.size W4 w7) := Lib.hid (BE.out.grown hg7 BE.out.size (fun r' e' => by cases e'; exact Nat.le_refl _))
         have O7 : Hid (OwnM 43 w7 W4.heap.size (some ⟨g7, 0, none⟩) i y7 (x.moves.take i)) := Lib.hid (by rw [Nat.zero_add, List.nil_append] at ho7; exact ho7)
         have S7 := Lib.hid (HS4.out.same B7.out)
         have N7 : 0 + i = i := Nat.zero_add i
         clear ho7 hg7 hw7
         simp only [N7]
         clear N7
         refine hK.out _ _ trivial (fun hHeld => ?_)
         clear hK K
         try simp only [Act.put, set9]
         refine wpAnyH_ready (rs := [11]) (by kernel_rfl) (by simp) (AllReadyH.cons (by simp only [get9]; rfl) (fun K hK => ?_) AllReadyH.nil)
         have T2 : Hid (Mvs w7 (some ⟨g, (i + 1) * 4, none⟩) (m - (i + 1)) (x.moves.drop (i + 1))) := Lib.hid ((S7.out.box.moves.items Mv.enc_len).drop9 (by omega))
         refine step_app_someI _ Mv.enc_len (by omega) Mv.cells (by rfl) (.tmp 39) (.tmp 44) 25 (by rfl) 43 i1 (.agg #[.int .i64 0, .bool false, .int .i64 0, .int .i64 0]) 32 Tryz.underlying25 HI1.out.1 HI1.out.2.1 HI1.out.2.2.1 HI1.out.2.2.2 rfl (by rfl) O7.out (by rfl) T2.out (by omega) (by omega) B7.out.size ?_
         intro g8 y8 w8 ho8 hg8 hw8
         have hg7s := (O7.out.span _ rfl).1
         have B8 : Hid (Below W4.heap.size W4 w8) := Lib.hid (B7.out.grown hg8 B7.out.size (fun r' e' => by cases e'; exact hg7s))
         have hg8w : W4.heap.size ≤ g8 := (ho8.span _ rfl).1
         have HNM := Lib.hid (HS4.out.box.newM B8.out (ho8.lower (by omega)) hg8w)
         have SF := Lib.hid (HS4.out.mod HNM.out.1 HNM.out.2)
         have h8 : w8.heap[GB]? = some (.cells #[.int .i64 x.st, .slice p k r, .slice (some ⟨g, 0, none⟩) m d] 27 (0, 0)) := (B8.out.block GB HS4.out.box.lt).trans HS4.out.box.heap
         obtain ⟨h80, h81, h82, k80, k81, k82⟩ := three_cells h8
         clear ho8 hg8 hw8 h8
         refine hK.out _ _ trivial (fun hHeld => ?_)
         clear hK K
         try simp only [Act.put, set9]
         refine wpAnyH_take (i := 12) (v := ?v10) (by simp only [get9]; rfl) (by kernel_rfl) (by kernel_rfl) (by kernel_rfl) (by exact fun _ _ _ h => h) (Or.inl ⟨by rfl, fun w9 hS9 => ?hy10⟩) hHeld ?rest10
         case hy10 =>
          dsimp only at hS9
          skip
          go_simp
          try with_reducible rfl
         try simp only [Act.put, set9]
         refine wpAnyH_ready (rs := [13]) (by kernel_rfl) (by simp) (AllReadyH.cons (by simp only [get9]; rfl) (fun K hK => ?_) AllReadyH.nil)
         go_simp
         refine hK.out _ _ trivial (fun hHeld => ?_)
         clear hK K
         try simp only [Act.put, set9]
         refine wpAnyH_done (by kernel_rfl) ?_ _
         clear h80 h81 h82 k80 k81 k82
         go_wp2_with fail
         go_roundw
         case rel => exact ⟨j', _, p, k, r, _, _, _, by go_num, by omega, SF.out, Lib.hid (HO.out.cut i)⟩
         case measure => simp [intOf]
       ·skip
        have ec : (World.alloc W4 (.cells #[] 43)).cell? ⟨GB, 2, none⟩ = some (.slice (some ⟨g, 0, none⟩) m d) := (three_cells SB0.out.box.heap).2.2.1
        go_simp
        clear ec
        refine hK.out _ _ trivial (fun hHeld => ?_)
        clear hK K
        try simp only [Act.put, set9]
        refine wpAnyH_take (i := 10) (v := ?v11) (by simp only [get9]; rfl) (by kernel_rfl) (by kernel_rfl) (by kernel_rfl) (by exact fun _ _ _ h => h) (Or.inl ⟨by rfl, fun w9 hS9 => ?hy11⟩) hHeld ?rest11
        case hy11 =>
         dsimp only at hS9
         skip
         go_simp
         try with_reducible rfl
        try simp only [Act.put, set9]
        refine wpAnyH_ready (rs := [2]) (by kernel_rfl) (by simp) (AllReadyH.cons (by simp only [get9]; rfl) (fun K hK => ?_) AllReadyH.nil)
        have ec : (World.alloc W4 (.cells #[] 43)).cell? ⟨GB, 2, none⟩ = some (.slice (some ⟨g, 0, none⟩) m d) := (three_cells SB0.out.box.heap).2.2.1
        go_simp
        clear ec
        refine hK.out _ _ trivial (fun hHeld => ?_)
        clear hK K
        try simp only [Act.put, set9]
        refine wpAnyH_take (i := 4) (v := ?v12) (by simp only [get9]; rfl) (by kernel_rfl) (by kernel_rfl) (by kernel_rfl) (by exact fun _ _ _ h => h) (Or.inl ⟨by rfl, fun w9 hS9 => ?hy12⟩) hHeld ?rest12
        case hy12 =>
         dsimp only at hS9
         skip
         go_simp
         try with_reducible rfl
        try simp only [Act.put, set9]
        refine wpAnyH_ready (rs := [5]) (by kernel_rfl) (by simp) (AllReadyH.cons (by simp only [get9]; rfl) (fun K hK => ?_) AllReadyH.nil)
        have T1 : Hid (Mvs (World.drew (World.alloc W4 (.cells #[] 43))) (some ⟨g, 0, none⟩) i (x.moves.take i)) := Lib.hid ((SB0.out.box.moves.items Mv.enc_len).take9 (by omega))
        refine step_app_someI _ Mv.enc_len (by omega) Mv.cells (by rfl) (.tmp 34) (.tmp 38) 25 (by rfl) 43 i1 (.agg #[.int .i64 0, .bool false, .int .i64 0, .int .i64 0]) 32 Tryz.underlying25 HI1.out.1 HI1.out.2.1 HI1.out.2.2.1 HI1.out.2.2.2 rfl (by rfl) OE.out (by rfl) T1.out (by omega) (by omega) BE.out.size ?_
        intro g7 y7 w7 ho7 hg7 hw7
        have B7 : Hid (Below W4.heap.size W4 w7) := Lib.hid (BE.out.grown hg7 BE.out.size (fun r' e' => by cases e'; exact Nat.le_refl _))
        have O7 : Hid (OwnM 43 w7 W4.heap.size (some ⟨g7, 0, none⟩) i y7 (x.moves.take i)) := Lib.hid (by rw [Nat.zero_add, List.nil_append] at ho7; exact ho7)
        have S7 := Lib.hid (HS4.out.same B7.out)
        have N7 : 0 + i = i := Nat.zero_add i
        clear ho7 hg7 hw7
        simp only [N7]
        clear N7
        refine hK.out _ _ trivial (fun hHeld => ?_)
        clear hK K
        try simp only [Act.put, set9]
        refine wpAnyH_ready (rs := [11]) (by kernel_rfl) (by simp) (AllReadyH.cons (by simp only [get9]; rfl) (fun K hK => ?_) AllReadyH.nil)
        have T2 : Hid (Mvs w7 (some ⟨g, (i + 1) * 4, none⟩) (m - (i + 1)) (x.moves.drop (i + 1))) := Lib.hid ((S7.out.box.moves.items Mv.enc_len).drop9 (by omega))
        refine step_app_someI _ Mv.enc_len (by omega) Mv.cells (by rfl) (.tmp 39) (.tmp 44) 25 (by rfl) 43 i1 (.agg #[.int .i64 0, .bool false, .int .i64 0, .int .i64 0]) 32 Tryz.underlying25 HI1.out.1 HI1.out.2.1 HI1.out.2.2.1 HI1.out.2.2.2 rfl (by rfl) O7.out (by rfl) T2.out (by omega) (by omega) B7.out.size ?_
        intro g8 y8 w8 ho8 hg8 hw8
        have hg7s := (O7.out.span _ rfl).1
        have B8 : Hid (Below W4.heap.size W4 w8) := Lib.hid (B7.out.grown hg8 B7.out.size (fun r' e' => by cases e'; exact hg7s))
        have hg8w : W4.heap.size ≤ g8 := (ho8.span _ rfl).1
        have HNM := Lib.hid (HS4.out.box.newM B8.out (ho8.lower (by omega)) hg8w)
        have SF := Lib.hid (HS4.out.mod HNM.out.1 HNM.out.2)
        have h8 : w8.heap[GB]? = some (.cells #[.int .i64 x.st, .slice p k r, .slice (some ⟨g, 0, none⟩) m d] 27 (0, 0)) := (B8.out.block GB HS4.out.box.lt).trans HS4.out.box.heap
        obtain ⟨h80, h81, h82, k80, k81, k82⟩ := three_cells h8
        clear ho8 hg8 hw8 h8
        refine hK.out _ _ trivial (fun hHeld => ?_)
        clear hK K
        try simp only [Act.put, set9]
        refine wpAnyH_take (i := 12) (v := ?v13) (by simp only [get9]; rfl) (by kernel_rfl) (by kernel_rfl) (by kernel_rfl) (by exact fun _ _ _ h => h) (Or.inl ⟨by rfl, fun w9 hS9 => ?hy13⟩) hHeld ?rest13
        case hy13 =>
         dsimp only at hS9
         skip
         go_simp
         try with_reducible rfl
        try simp only [Act.put, set9]
        refine wpAnyH_ready (rs := [13]) (by kernel_rfl) (by simp) (AllReadyH.cons (by simp only [get9]; rfl) (fun K hK => ?_) AllReadyH.nil)
        go_simp
        refine hK.out _ _ trivial (fun hHeld => ?_)
        clear hK K
        try simp only [Act.put, set9]
        refine wpAnyH_done (by kernel_rfl) ?_ _
        clear h80 h81 h82 k80 k81 k82
        go_wp2_with fail
        go_roundw
        case rel => exact ⟨j', _, p, k, r, _, _, _, by go_num, by omega, SF.out, Lib.hid (HO.out.cut i)⟩
        case measure => simp [intOf]
      ·skip
       have ec : W4.cell? ⟨GB, 2, none⟩ = some (.slice (some ⟨g, 0, none⟩) m d) := (three_cells HS4.out.box.heap).2.2.1
       go_simp
       clear ec
       refine hK.out _ _ trivial (fun hHeld => ?_)
       clear hK K
       try simp only [Act.put, set9]
       refine wpAnyH_take (i := 4) (v := ?v14) (by simp only [get9]; rfl) (by kernel_rfl) (by kernel_rfl) (by kernel_rfl) (by exact fun _ _ _ h => h) (Or.inl ⟨by rfl, fun w9 hS9 => ?hy14⟩) hHeld ?rest14
       case hy14 =>
        dsimp only at hS9
        skip
        go_simp
        try with_reducible rfl
       try simp only [Act.put, set9]
       refine wpAnyH_ready (rs := [0, 7]) (by kernel_rfl) (by simp) (AllReadyH.cons (by simp only [get9]; rfl) (fun K hK => ?_) (AllReadyH.cons (by simp only [get9]; rfl) (fun K hK => ?_) AllReadyH.nil))
       ·skip
        go_simp
        have SB0 : Hid (St b a n c WA WA.heap.size SA SA SB GB #[.int .i64 xa.st, .slice pa ka ra, .slice qa ma da] xa (World.drew (World.alloc W4 (.cells #[] 43))) x p k r (some ⟨g, 0, none⟩) m d) := Lib.hid ((HS4.out.same (alloc_same W4 _)).same (Below.refl _ _).drew)
        have OE : Hid (OwnM 43 (World.drew (World.alloc W4 (.cells #[] 43))) W4.heap.size (some ⟨W4.heap.size, 0, none⟩) 0 0 []) := Lib.hid ((own_emptyI (enc := Mv.enc) (s := 4) (w := W4) (B := W4.heap.size) 43 (Nat.le_refl _)).same (Below.refl _ _).drew)
        have BE : Hid (Below W4.heap.size W4 (World.drew (World.alloc W4 (.cells #[] 43)))) := Lib.hid ((alloc_same W4 _).drew)
        refine hK.out _ _ trivial (fun hHeld => ?_)
        clear hK K
        try simp only [Act.put, set9]
        refine wpAnyH_ready (rs := [5, 7]) (by kernel_rfl) (by simp) (AllReadyH.cons (by simp only [get9]; rfl) (fun K hK => ?_) (AllReadyH.cons (by simp only [get9]; rfl) (fun K hK => ?_) AllReadyH.nil))
        ·skip
         have T1 : Hid (Mvs (World.drew (World.alloc W4 (.cells #[] 43))) (some ⟨g, 0, none⟩) i (x.moves.take i)) := Lib.hid ((SB0.out.box.moves.items Mv.enc_len).take9 (by omega))
         refine step_app_someI _ Mv.enc_len (by omega) Mv.cells (by rfl) (.tmp 34) (.tmp 38) 25 (by rfl) 43 i1 (.agg #[.int .i64 0, .bool false, .int .i64 0, .int .i64 0]) 32 Tryz.underlying25 HI1.out.1 HI1.out.2.1 HI1.out.2.2.1 HI1.out.2.2.2 rfl (by rfl) OE.out (by rfl) T1.out (by omega) (by omega) BE.out.size ?_
         intro g7 y7 w7 ho7 hg7 hw7
         have B7 : Hid (Below W4.heap.size W4 w7) := Lib.hid (BE.out.grown hg7 BE.out.size (fun r' e' => by cases e'; exact Nat.le_refl _))
         have O7 : Hid (OwnM 43 w7 W4.heap.size (some ⟨g7, 0, none⟩) i y7 (x.moves.take i)) := Lib.hid (by rw [Nat.zero_add, List.nil_append] at ho7; exact ho7)
         have S7 := Lib.hid (HS4.out.same B7.out)
         have N7 : 0 + i = i := Nat.zero_add i
         clear ho7 hg7 hw7
         simp only [N7]
         clear N7
         refine hK.out _ _ trivial (fun hHeld => ?_)
         clear hK K
         try simp only [Act.put, set9]
         refine wpAnyH_ready (rs := [7]) (by kernel_rfl) (by simp) (AllReadyH.cons (by simp only [get9]; rfl) (fun K hK => ?_) AllReadyH.nil)
         have ec : w7.cell? ⟨GB, 2, none⟩ = some (.slice (some ⟨g, 0, none⟩) m d) := (three_cells S7.out.box.heap).2.2.1
         go_simp
         clear ec
         refine hK.out _ _ trivial (fun hHeld => ?_)
         clear hK K
         try simp only [Act.put, set9]
         refine wpAnyH_take (i := 10) (v := ?v15) (by simp only [get9]; rfl) (by kernel_rfl) (by kernel_rfl) (by kernel_rfl) (by exact fun _ _ _ h => h) (Or.inl ⟨by rfl, fun w9 hS9 => ?hy15⟩) hHeld ?rest15
         case hy15 =>
          dsimp only at hS9
          skip
          go_simp
          try with_reducible rfl
         try simp only [Act.put, set9]
         refine wpAnyH_ready (rs := [11]) (by kernel_rfl) (by simp) (AllReadyH.cons (by simp only [get9]; rfl) (fun K hK => ?_) AllReadyH.nil)
         have T2 : Hid (Mvs w7 (some ⟨g, (i + 1) * 4, none⟩) (m - (i + 1)) (x.moves.drop (i + 1))) := Lib.hid ((S7.out.box.moves.items Mv.enc_len).drop9 (by omega))
         refine step_app_someI _ Mv.enc_len (by omega) Mv.cells (by rfl) (.tmp 39) (.tmp 44) 25 (by rfl) 43 i1 (.agg #[.int .i64 0, .bool false, .int .i64 0, .int .i64 0]) 32 Tryz.underlying25 HI1.out.1 HI1.out.2.1 HI1.out.2.2.1 HI1.out.2.2.2 rfl (by rfl) O7.out (by rfl) T2.out (by omega) (by omega) B7.out.size ?_
         intro g8 y8 w8 ho8 hg8 hw8
         have hg7s := (O7.out.span _ rfl).1
         have B8 : Hid (Below W4.heap.size W4 w8) := Lib.hid (B7.out.grown hg8 B7.out.size (fun r' e' => by cases e'; exact hg7s))
         have hg8w : W4.heap.size ≤ g8 := (ho8.span _ rfl).1
         have HNM := Lib.hid (HS4.out.box.newM B8.out (ho8.lower (by omega)) hg8w)
         have SF := Lib.hid (HS4.out.mod HNM.out.1 HNM.out.2)
         have h8 : w8.heap[GB]? = some (.cells #[.int .i64 x.st, .slice p k r, .slice (some ⟨g, 0, none⟩) m d] 27 (0, 0)) := (B8.out.block GB HS4.out.box.lt).trans HS4.out.box.heap
         obtain ⟨h80, h81, h82, k80, k81, k82⟩ := three_cells h8
         clear ho8 hg8 hw8 h8
         refine hK.out _ _ trivial (fun hHeld => ?_)
         clear hK K
         try simp only [Act.put, set9]
         refine wpAnyH_take (i := 12) (v := ?v16) (by simp only [get9]; rfl) (by kernel_rfl) (by kernel_rfl) (by kernel_rfl) (by exact fun _ _ _ h => h) (Or.inl ⟨by rfl, fun w9 hS9 => ?hy16⟩) hHeld ?rest16
         case hy16 =>
          dsimp only at hS9
          skip
          go_simp
          try with_reducible rfl
         try simp only [Act.put, set9]
         refine wpAnyH_ready (rs := [13]) (by kernel_rfl) (by simp) (AllReadyH.cons (by simp only [get9]; rfl) (fun K hK => ?_) AllReadyH.nil)
         go_simp
         refine hK.out _ _ trivial (fun hHeld => ?_)
         clear hK K
         try simp only [Act.put, set9]
         refine wpAnyH_done (by kernel_rfl) ?_ _
         clear h80 h81 h82 k80 k81 k82
         go_wp2_with fail
         go_roundw
         case rel => exact ⟨j', _, p, k, r, _, _, _, by go_num, by omega, SF.out, Lib.hid (HO.out.cut i)⟩
         case measure => simp [intOf]
        ·skip
         have ec : (World.alloc W4 (.cells #[] 43)).cell? ⟨GB, 2, none⟩ = some (.slice (some ⟨g, 0, none⟩) m d) := (three_cells SB0.out.box.heap).2.2.1
         go_simp
         clear ec
         refine hK.out _ _ trivial (fun hHeld => ?_)
         clear hK K
         try simp only [Act.put, set9]
         refine wpAnyH_take (i := 10) (v := ?v17) (by simp only [get9]; rfl) (by kernel_rfl) (by kernel_rfl) (by kernel_rfl) (by exact fun _ _ _ h => h) (Or.inl ⟨by rfl, fun w9 hS9 => ?hy17⟩) hHeld ?rest17
         case hy17 =>
          dsimp only at hS9
          skip
          go_simp
          try with_reducible rfl
         try simp only [Act.put, set9]
         refine wpAnyH_ready (rs := [5]) (by kernel_rfl) (by simp) (AllReadyH.cons (by simp only [get9]; rfl) (fun K hK => ?_) AllReadyH.nil)
         have T1 : Hid (Mvs (World.drew (World.alloc W4 (.cells #[] 43))) (some ⟨g, 0, none⟩) i (x.moves.take i)) := Lib.hid ((SB0.out.box.moves.items Mv.enc_len).take9 (by omega))
         refine step_app_someI _ Mv.enc_len (by omega) Mv.cells (by rfl) (.tmp 34) (.tmp 38) 25 (by rfl) 43 i1 (.agg #[.int .i64 0, .bool false, .int .i64 0, .int .i64 0]) 32 Tryz.underlying25 HI1.out.1 HI1.out.2.1 HI1.out.2.2.1 HI1.out.2.2.2 rfl (by rfl) OE.out (by rfl) T1.out (by omega) (by omega) BE.out.size ?_
         intro g7 y7 w7 ho7 hg7 hw7
         have B7 : Hid (Below W4.heap.size W4 w7) := Lib.hid (BE.out.grown hg7 BE.out.size (fun r' e' => by cases e'; exact Nat.le_refl _))
         have O7 : Hid (OwnM 43 w7 W4.heap.size (some ⟨g7, 0, none⟩) i y7 (x.moves.take i)) := Lib.hid (by rw [Nat.zero_add, List.nil_append] at ho7; exact ho7)
         have S7 := Lib.hid (HS4.out.same B7.out)
         have N7 : 0 + i = i := Nat.zero_add i
         clear ho7 hg7 hw7
         simp only [N7]
         clear N7
         refine hK.out _ _ trivial (fun hHeld => ?_)
         clear hK K
         try simp only [Act.put, set9]
         refine wpAnyH_ready (rs := [11]) (by kernel_rfl) (by simp) (AllReadyH.cons (by simp only [get9]; rfl) (fun K hK => ?_) AllReadyH.nil)
         have T2 : Hid (Mvs w7 (some ⟨g, (i + 1) * 4, none⟩) (m - (i + 1)) (x.moves.drop (i + 1))) := Lib.hid ((S7.out.box.moves.items Mv.enc_len).drop9 (by omega))
         refine step_app_someI _ Mv.enc_len (by omega) Mv.cells (by rfl) (.tmp 39) (.tmp 44) 25 (by rfl) 43 i1 (.agg #[.int .i64 0, .bool false, .int .i64 0, .int .i64 0]) 32 Tryz.underlying25 HI1.out.1 HI1.out.2.1 HI1.out.2.2.1 HI1.out.2.2.2 rfl (by rfl) O7.out (by rfl) T2.out (by omega) (by omega) B7.out.size ?_
         intro g8 y8 w8 ho8 hg8 hw8
         have hg7s := (O7.out.span _ rfl).1
         have B8 : Hid (Below W4.heap.size W4 w8) := Lib.hid (B7.out.grown hg8 B7.out.size (fun r' e' => by cases e'; exact hg7s))
         have hg8w : W4.heap.size ≤ g8 := (ho8.span _ rfl).1
         have HNM := Lib.hid (HS4.out.box.newM B8.out (ho8.lower (by omega)) hg8w)
         have SF := Lib.hid (HS4.out.mod HNM.out.1 HNM.out.2)
         have h8 : w8.heap[GB]? = some (.cells #[.int .i64 x.st, .slice p k r, .slice (some ⟨g, 0, none⟩) m d] 27 (0, 0)) := (B8.out.block GB HS4.out.box.lt).trans HS4.out.box.heap
         obtain ⟨h80, h81, h82, k80, k81, k82⟩ := three_cells h8
         clear ho8 hg8 hw8 h8
         refine hK.out _ _ trivial (fun hHeld => ?_)
         clear hK K
         try simp only [Act.put, set9]
         refine wpAnyH_take (i := 12) (v := ?v18) (by simp only [get9]; rfl) (by kernel_rfl) (by kernel_rfl) (by kernel_rfl) (by exact fun _ _ _ h => h) (Or.inl ⟨by rfl, fun w9 hS9 => ?hy18⟩) hHeld ?rest18
         case hy18 =>
          dsimp only at hS9
          skip
          go_simp
          try with_reducible rfl
         try simp only [Act.put, set9]
         refine wpAnyH_ready (rs := [13]) (by kernel_rfl) (by simp) (AllReadyH.cons (by simp only [get9]; rfl) (fun K hK => ?_) AllReadyH.nil)
         go_simp
         refine hK.out _ _ trivial (fun hHeld => ?_)
         clear hK K
         try simp only [Act.put, set9]
         refine wpAnyH_done (by kernel_rfl) ?_ _
         clear h80 h81 h82 k80 k81 k82
         go_wp2_with fail
         go_roundw
         case rel => exact ⟨j', _, p, k, r, _, _, _, by go_num, by omega, SF.out, Lib.hid (HO.out.cut i)⟩
         case measure => simp [intOf]
       ·skip
        have ec : W4.cell? ⟨GB, 2, none⟩ = some (.slice (some ⟨g, 0, none⟩) m d) := (three_cells HS4.out.box.heap).2.2.1
        go_simp
        clear ec
        refine hK.out _ _ trivial (fun hHeld => ?_)
        clear hK K
        try simp only [Act.put, set9]
        refine wpAnyH_take (i := 10) (v := ?v19) (by simp only [get9]; rfl) (by kernel_rfl) (by kernel_rfl) (by kernel_rfl) (by exact fun _ _ _ h => h) (Or.inl ⟨by rfl, fun w9 hS9 => ?hy19⟩) hHeld ?rest19
        case hy19 =>
         dsimp only at hS9
         skip
         go_simp
         try with_reducible rfl
        try simp only [Act.put, set9]
        refine wpAnyH_ready (rs := [0]) (by kernel_rfl) (by simp) (AllReadyH.cons (by simp only [get9]; rfl) (fun K hK => ?_) AllReadyH.nil)
        go_simp
        have SB0 : Hid (St b a n c WA WA.heap.size SA SA SB GB #[.int .i64 xa.st, .slice pa ka ra, .slice qa ma da] xa (World.drew (World.alloc W4 (.cells #[] 43))) x p k r (some ⟨g, 0, none⟩) m d) := Lib.hid ((HS4.out.same (alloc_same W4 _)).same (Below.refl _ _).drew)
        have OE : Hid (OwnM 43 (World.drew (World.alloc W4 (.cells #[] 43))) W4.heap.size (some ⟨W4.heap.size, 0, none⟩) 0 0 []) := Lib.hid ((own_emptyI (enc := Mv.enc) (s := 4) (w := W4) (B := W4.heap.size) 43 (Nat.le_refl _)).same (Below.refl _ _).drew)
        have BE : Hid (Below W4.heap.size W4 (World.drew (World.alloc W4 (.cells #[] 43)))) := Lib.hid ((alloc_same W4 _).drew)
        refine hK.out _ _ trivial (fun hHeld => ?_)
        clear hK K
        try simp only [Act.put, set9]
        refine wpAnyH_ready (rs := [5]) (by kernel_rfl) (by simp) (AllReadyH.cons (by simp only [get9]; rfl) (fun K hK => ?_) AllReadyH.nil)
        have T1 : Hid (Mvs (World.drew (World.alloc W4 (.cells #[] 43))) (some ⟨g, 0, none⟩) i (x.moves.take i)) := Lib.hid ((SB0.out.box.moves.items Mv.enc_len).take9 (by omega))
        refine step_app_someI _ Mv.enc_len (by omega) Mv.cells (by rfl) (.tmp 34) (.tmp 38) 25 (by rfl) 43 i1 (.agg #[.int .i64 0, .bool false, .int .i64 0, .int .i64 0]) 32 Tryz.underlying25 HI1.out.1 HI1.out.2.1 HI1.out.2.2.1 HI1.out.2.2.2 rfl (by rfl) OE.out (by rfl) T1.out (by omega) (by omega) BE.out.size ?_
        intro g7 y7 w7 ho7 hg7 hw7
        have B7 : Hid (Below W4.heap.size W4 w7) := Lib.hid (BE.out.grown hg7 BE.out.size (fun r' e' => by cases e'; exact Nat.le_refl _))
        have O7 : Hid (OwnM 43 w7 W4.heap.size (some ⟨g7, 0, none⟩) i y7 (x.moves.take i)) := Lib.hid (by rw [Nat.zero_add, List.nil_append] at ho7; exact ho7)
        have S7 := Lib.hid (HS4.out.same B7.out)
        have N7 : 0 + i = i := Nat.zero_add i
        clear ho7 hg7 hw7
        simp only [N7]
        clear N7
        refine hK.out _ _ trivial (fun hHeld => ?_)
        clear hK K
        try simp only [Act.put, set9]
        refine wpAnyH_ready (rs := [11]) (by kernel_rfl) (by simp) (AllReadyH.cons (by simp only [get9]; rfl) (fun K hK => ?_) AllReadyH.nil)
        have T2 : Hid (Mvs w7 (some ⟨g, (i + 1) * 4, none⟩) (m - (i + 1)) (x.moves.drop (i + 1))) := Lib.hid ((S7.out.box.moves.items Mv.enc_len).drop9 (by omega))
        refine step_app_someI _ Mv.enc_len (by omega) Mv.cells (by rfl) (.tmp 39) (.tmp 44) 25 (by rfl) 43 i1 (.agg #[.int .i64 0, .bool false, .int .i64 0, .int .i64 0]) 32 Tryz.underlying25 HI1.out.1 HI1.out.2.1 HI1.out.2.2.1 HI1.out.2.2.2 rfl (by rfl) O7.out (by rfl) T2.out (by omega) (by omega) B7.out.size ?_
        intro g8 y8 w8 ho8 hg8 hw8
        have hg7s := (O7.out.span _ rfl).1
        have B8 : Hid (Below W4.heap.size W4 w8) := Lib.hid (B7.out.grown hg8 B7.out.size (fun r' e' => by cases e'; exact hg7s))
        have hg8w : W4.heap.size ≤ g8 := (ho8.span _ rfl).1
        have HNM := Lib.hid (HS4.out.box.newM B8.out (ho8.lower (by omega)) hg8w)
        have SF := Lib.hid (HS4.out.mod HNM.out.1 HNM.out.2)
        have h8 : w8.heap[GB]? = some (.cells #[.int .i64 x.st, .slice p k r, .slice (some ⟨g, 0, none⟩) m d] 27 (0, 0)) := (B8.out.block GB HS4.out.box.lt).trans HS4.out.box.heap
        obtain ⟨h80, h81, h82, k80, k81, k82⟩ := three_cells h8
        clear ho8 hg8 hw8 h8
        refine hK.out _ _ trivial (fun hHeld => ?_)
        clear hK K
        try simp only [Act.put, set9]
        refine wpAnyH_take (i := 12) (v := ?v20) (by simp only [get9]; rfl) (by kernel_rfl) (by kernel_rfl) (by kernel_rfl) (by exact fun _ _ _ h => h) (Or.inl ⟨by rfl, fun w9 hS9 => ?hy20⟩) hHeld ?rest20
        case hy20 =>
         dsimp only at hS9
         skip
         go_simp
         try with_reducible rfl
        try simp only [Act.put, set9]
        refine wpAnyH_ready (rs := [13]) (by kernel_rfl) (by simp) (AllReadyH.cons (by simp only [get9]; rfl) (fun K hK => ?_) AllReadyH.nil)
        go_simp
        refine hK.out _ _ trivial (fun hHeld => ?_)
        clear hK K
        try simp only [Act.put, set9]
        refine wpAnyH_done (by kernel_rfl) ?_ _
        clear h80 h81 h82 k80 k81 k82
        go_wp2_with fail
        go_roundw
        case rel => exact ⟨j', _, p, k, r, _, _, _, by go_num, by omega, SF.out, Lib.hid (HO.out.cut i)⟩
        case measure => simp [intOf]
      ·skip
       have ec : W4.cell? ⟨GB, 2, none⟩ = some (.slice (some ⟨g, 0, none⟩) m d) := (three_cells HS4.out.box.heap).2.2.1
       go_simp
       clear ec
       refine hK.out _ _ trivial (fun hHeld => ?_)
       clear hK K
       try simp only [Act.put, set9]
       refine wpAnyH_take (i := 10) (v := ?v21) (by simp only [get9]; rfl) (by kernel_rfl) (by kernel_rfl) (by kernel_rfl) (by exact fun _ _ _ h => h) (Or.inl ⟨by rfl, fun w9 hS9 => ?hy21⟩) hHeld ?rest21
       case hy21 =>
        dsimp only at hS9
        skip
        go_simp
        try with_reducible rfl
       try simp only [Act.put, set9]
       refine wpAnyH_ready (rs := [0, 2]) (by kernel_rfl) (by simp) (AllReadyH.cons (by simp only [get9]; rfl) (fun K hK => ?_) (AllReadyH.cons (by simp only [get9]; rfl) (fun K hK => ?_) AllReadyH.nil))
       ·skip
        go_simp
        have SB0 : Hid (St b a n c WA WA.heap.size SA SA SB GB #[.int .i64 xa.st, .slice pa ka ra, .slice qa ma da] xa (World.drew (World.alloc W4 (.cells #[] 43))) x p k r (some ⟨g, 0, none⟩) m d) := Lib.hid ((HS4.out.same (alloc_same W4 _)).same (Below.refl _ _).drew)
        have OE : Hid (OwnM 43 (World.drew (World.alloc W4 (.cells #[] 43))) W4.heap.size (some ⟨W4.heap.size, 0, none⟩) 0 0 []) := Lib.hid ((own_emptyI (enc := Mv.enc) (s := 4) (w := W4) (B := W4.heap.size) 43 (Nat.le_refl _)).same (Below.refl _ _).drew)
        have BE : Hid (Below W4.heap.size W4 (World.drew (World.alloc W4 (.cells #[] 43)))) := Lib.hid ((alloc_same W4 _).drew)
        refine hK.out _ _ trivial (fun hHeld => ?_)
        clear hK K
        try simp only [Act.put, set9]
        refine wpAnyH_ready (rs := [2]) (by kernel_rfl) (by simp) (AllReadyH.cons (by simp only [get9]; rfl) (fun K hK => ?_) AllReadyH.nil)
        have ec : (World.alloc W4 (.cells #[] 43)).cell? ⟨GB, 2, none⟩ = some (.slice (some ⟨g, 0, none⟩) m d) := (three_cells SB0.out.box.heap).2.2.1
        go_simp
        clear ec
        refine hK.out _ _ trivial (fun hHeld => ?_)
        clear hK K
        try simp only [Act.put, set9]
        refine wpAnyH_take (i := 4) (v := ?v22) (by simp only [get9]; rfl) (by kernel_rfl) (by kernel_rfl) (by kernel_rfl) (by exact fun _ _ _ h => h) (Or.inl ⟨by rfl, fun w9 hS9 => ?hy22⟩) hHeld ?rest22
        case hy22 =>
         dsimp only at hS9
         skip
         go_simp
         try with_reducible rfl
        try simp only [Act.put, set9]
        refine wpAnyH_ready (rs := [5]) (by kernel_rfl) (by simp) (AllReadyH.cons (by simp only [get9]; rfl) (fun K hK => ?_) AllReadyH.nil)
        have T1 : Hid (Mvs (World.drew (World.alloc W4 (.cells #[] 43))) (some ⟨g, 0, none⟩) i (x.moves.take i)) := Lib.hid ((SB0.out.box.moves.items Mv.enc_len).take9 (by omega))
        refine step_app_someI _ Mv.enc_len (by omega) Mv.cells (by rfl) (.tmp 34) (.tmp 38) 25 (by rfl) 43 i1 (.agg #[.int .i64 0, .bool false, .int .i64 0, .int .i64 0]) 32 Tryz.underlying25 HI1.out.1 HI1.out.2.1 HI1.out.2.2.1 HI1.out.2.2.2 rfl (by rfl) OE.out (by rfl) T1.out (by omega) (by omega) BE.out.size ?_
        intro g7 y7 w7 ho7 hg7 hw7
        have B7 : Hid (Below W4.heap.size W4 w7) := Lib.hid (BE.out.grown hg7 BE.out.size (fun r' e' => by cases e'; exact Nat.le_refl _))
        have O7 : Hid (OwnM 43 w7 W4.heap.size (some ⟨g7, 0, none⟩) i y7 (x.moves.take i)) := Lib.hid (by rw [Nat.zero_add, List.nil_append] at ho7; exact ho7)
        have S7 := Lib.hid (HS4.out.same B7.out)
        have N7 : 0 + i = i := Nat.zero_add i
        clear ho7 hg7 hw7
        simp only [N7]
        clear N7
        refine hK.out _ _ trivial (fun hHeld => ?_)
        clear hK K
        try simp only [Act.put, set9]
        refine wpAnyH_ready (rs := [11]) (by kernel_rfl) (by simp) (AllReadyH.cons (by simp only [get9]; rfl) (fun K hK => ?_) AllReadyH.nil)
        have T2 : Hid (Mvs w7 (some ⟨g, (i + 1) * 4, none⟩) (m - (i + 1)) (x.moves.drop (i + 1))) := Lib.hid ((S7.out.box.moves.items Mv.enc_len).drop9 (by omega))
        refine step_app_someI _ Mv.enc_len (by omega) Mv.cells (by rfl) (.tmp 39) (.tmp 44) 25 (by rfl) 43 i1 (.agg #[.int .i64 0, .bool false, .int .i64 0, .int .i64 0]) 32 Tryz.underlying25 HI1.out.1 HI1.out.2.1 HI1.out.2.2.1 HI1.out.2.2.2 rfl (by rfl) O7.out (by rfl) T2.out (by omega) (by omega) B7.out.size ?_
        intro g8 y8 w8 ho8 hg8 hw8
        have hg7s := (O7.out.span _ rfl).1
        have B8 : Hid (Below W4.heap.size W4 w8) := Lib.hid (B7.out.grown hg8 B7.out.size (fun r' e' => by cases e'; exact hg7s))
        have hg8w : W4.heap.size ≤ g8 := (ho8.span _ rfl).1
        have HNM := Lib.hid (HS4.out.box.newM B8.out (ho8.lower (by omega)) hg8w)
        have SF := Lib.hid (HS4.out.mod HNM.out.1 HNM.out.2)
        have h8 : w8.heap[GB]? = some (.cells #[.int .i64 x.st, .slice p k r, .slice (some ⟨g, 0, none⟩) m d] 27 (0, 0)) := (B8.out.block GB HS4.out.box.lt).trans HS4.out.box.heap
        obtain ⟨h80, h81, h82, k80, k81, k82⟩ := three_cells h8
        clear ho8 hg8 hw8 h8
        refine hK.out _ _ trivial (fun hHeld => ?_)
        clear hK K
        try simp only [Act.put, set9]
        refine wpAnyH_take (i := 12) (v := ?v23) (by simp only [get9]; rfl) (by kernel_rfl) (by kernel_rfl) (by kernel_rfl) (by exact fun _ _ _ h => h) (Or.inl ⟨by rfl, fun w9 hS9 => ?hy23⟩) hHeld ?rest23
        case hy23 =>
         dsimp only at hS9
         skip
         go_simp
         try with_reducible rfl
        try simp only [Act.put, set9]
        refine wpAnyH_ready (rs := [13]) (by kernel_rfl) (by simp) (AllReadyH.cons (by simp only [get9]; rfl) (fun K hK => ?_) AllReadyH.nil)
        go_simp
        refine hK.out _ _ trivial (fun hHeld => ?_)
        clear hK K
        try simp only [Act.put, set9]
        refine wpAnyH_done (by kernel_rfl) ?_ _
        clear h80 h81 h82 k80 k81 k82
        go_wp2_with fail
        go_roundw
        case rel => exact ⟨j', _, p, k, r, _, _, _, by go_num, by omega, SF.out, Lib.hid (HO.out.cut i)⟩
        case measure => simp [intOf]
       ·skip
        have ec : W4.cell? ⟨GB, 2, none⟩ = some (.slice (some ⟨g, 0, none⟩) m d) := (three_cells HS4.out.box.heap).2.2.1
        go_simp
        clear ec
        refine hK.out _ _ trivial (fun hHeld => ?_)
        clear hK K
        try simp only [Act.put, set9]
        refine wpAnyH_take (i := 4) (v := ?v24) (by simp only [get9]; rfl) (by kernel_rfl) (by kernel_rfl) (by kernel_rfl) (by exact fun _ _ _ h => h) (Or.inl ⟨by rfl, fun w9 hS9 => ?hy24⟩) hHeld ?rest24
        case hy24 =>
         dsimp only at hS9
         skip
         go_simp
         try with_reducible rfl
        try simp only [Act.put, set9]
        refine wpAnyH_ready (rs := [0]) (by kernel_rfl) (by simp) (AllReadyH.cons (by simp only [get9]; rfl) (fun K hK => ?_) AllReadyH.nil)
        go_simp
        have SB0 : Hid (St b a n c WA WA.heap.size SA SA SB GB #[.int .i64 xa.st, .slice pa ka ra, .slice qa ma da] xa (World.drew (World.alloc W4 (.cells #[] 43))) x p k r (some ⟨g, 0, none⟩) m d) := Lib.hid ((HS4.out.same (alloc_same W4 _)).same (Below.refl _ _).drew)
        have OE : Hid (OwnM 43 (World.drew (World.alloc W4 (.cells #[] 43))) W4.heap.size (some ⟨W4.heap.size, 0, none⟩) 0 0 []) := Lib.hid ((own_emptyI (enc := Mv.enc) (s := 4) (w := W4) (B := W4.heap.size) 43 (Nat.le_refl _)).same (Below.refl _ _).drew)
        have BE : Hid (Below W4.heap.size W4 (World.drew (World.alloc W4 (.cells #[] 43)))) := Lib.hid ((alloc_same W4 _).drew)
        refine hK.out _ _ trivial (fun hHeld => ?_)
        clear hK K
        try simp only [Act.put, set9]
        refine wpAnyH_ready (rs := [5]) (by kernel_rfl) (by simp) (AllReadyH.cons (by simp only [get9]; rfl) (fun K hK => ?_) AllReadyH.nil)
        have T1 : Hid (Mvs (World.drew (World.alloc W4 (.cells #[] 43))) (some ⟨g, 0, none⟩) i (x.moves.take i)) := Lib.hid ((SB0.out.box.moves.items Mv.enc_len).take9 (by omega))
        refine step_app_someI _ Mv.enc_len (by omega) Mv.cells (by rfl) (.tmp 34) (.tmp 38) 25 (by rfl) 43 i1 (.agg #[.int .i64 0, .bool false, .int .i64 0, .int .i64 0]) 32 Tryz.underlying25 HI1.out.1 HI1.out.2.1 HI1.out.2.2.1 HI1.out.2.2.2 rfl (by rfl) OE.out (by rfl) T1.out (by omega) (by omega) BE.out.size ?_
        intro g7 y7 w7 ho7 hg7 hw7
        have B7 : Hid (Below W4.heap.size W4 w7) := Lib.hid (BE.out.grown hg7 BE.out.size (fun r' e' => by cases e'; exact Nat.le_refl _))
        have O7 : Hid (OwnM 43 w7 W4.heap.size (some ⟨g7, 0, none⟩) i y7 (x.moves.take i)) := Lib.hid (by rw [Nat.zero_add, List.nil_append] at ho7; exact ho7)
        have S7 := Lib.hid (HS4.out.same B7.out)
        have N7 : 0 + i = i := Nat.zero_add i
        clear ho7 hg7 hw7
        simp only [N7]
        clear N7
        refine hK.out _ _ trivial (fun hHeld => ?_)
        clear hK K
        try simp only [Act.put, set9]
        refine wpAnyH_ready (rs := [11]) (by kernel_rfl) (by simp) (AllReadyH.cons (by simp only [get9]; rfl) (fun K hK => ?_) AllReadyH.nil)
        have T2 : Hid (Mvs w7 (some ⟨g, (i + 1) * 4, none⟩) (m - (i + 1)) (x.moves.drop (i + 1))) := Lib.hid ((S7.out.box.moves.items Mv.enc_len).drop9 (by omega))
        refine step_app_someI _ Mv.enc_len (by omega) Mv.cells (by rfl) (.tmp 39) (.tmp 44) 25 (by rfl) 43 i1 (.agg #[.int .i64 0, .bool false, .int .i64 0, .int .i64 0]) 32 Tryz.underlying25 HI1.out.1 HI1.out.2.1 HI1.out.2.2.1 HI1.out.2.2.2 rfl (by rfl) O7.out (by rfl) T2.out (by omega) (by omega) B7.out.size ?_
        intro g8 y8 w8 ho8 hg8 hw8
        have hg7s := (O7.out.span _ rfl).1
        have B8 : Hid (Below W4.heap.size W4 w8) := Lib.hid (B7.out.grown hg8 B7.out.size (fun r' e' => by cases e'; exact hg7s))
        have hg8w : W4.heap.size ≤ g8 := (ho8.span _ rfl).1
        have HNM := Lib.hid (HS4.out.box.newM B8.out (ho8.lower (by omega)) hg8w)
        have SF := Lib.hid (HS4.out.mod HNM.out.1 HNM.out.2)
        have h8 : w8.heap[GB]? = some (.cells #[.int .i64 x.st, .slice p k r, .slice (some ⟨g, 0, none⟩) m d] 27 (0, 0)) := (B8.out.block GB HS4.out.box.lt).trans HS4.out.box.heap
        obtain ⟨h80, h81, h82, k80, k81, k82⟩ := three_cells h8
        clear ho8 hg8 hw8 h8
        refine hK.out _ _ trivial (fun hHeld => ?_)
        clear hK K
        try simp only [Act.put, set9]
        refine wpAnyH_take (i := 12) (v := ?v25) (by simp only [get9]; rfl) (by kernel_rfl) (by kernel_rfl) (by kernel_rfl) (by exact fun _ _ _ h => h) (Or.inl ⟨by rfl, fun w9 hS9 => ?hy25⟩) hHeld ?rest25
        case hy25 =>
         dsimp only at hS9
         skip
         go_simp
         try with_reducible rfl
        try simp only [Act.put, set9]
        refine wpAnyH_ready (rs := [13]) (by kernel_rfl) (by simp) (AllReadyH.cons (by simp only [get9]; rfl) (fun K hK => ?_) AllReadyH.nil)
        go_simp
        refine hK.out _ _ trivial (fun hHeld => ?_)
        clear hK K
        try simp only [Act.put, set9]
        refine wpAnyH_done (by kernel_rfl) ?_ _
        clear h80 h81 h82 k80 k81 k82
        go_wp2_with fail
        go_roundw
        case rel => exact ⟨j', _, p, k, r, _, _, _, by go_num, by omega, SF.out, Lib.hid (HO.out.cut i)⟩
        case measure => simp [intOf]
     ·obtain rfl : d = i + 1 := by omega
      refine wp_region_held_drew (S := fun w9 => True) (by kernel_rfl) trivial (fun hHeld => ?_)
      refine wpAnyH_take (i := 1) (v := ?v26) (by simp only [get9]; rfl) (by kernel_rfl) (by kernel_rfl) (by kernel_rfl) (by exact fun _ _ _ h => h) (Or.inl ⟨by rfl, fun w9 hS9 => ?hy26⟩) hHeld ?rest26
      case hy26 =>
       dsimp only at hS9
       skip
       go_simp
       try with_reducible rfl
      try simp only [Act.put, set9]
      refine wpAnyH_take (i := 3) (v := ?v27) (by simp only [get9]; rfl) (by kernel_rfl) (by kernel_rfl) (by kernel_rfl) (by exact fun _ _ _ h => h) (Or.inl ⟨by rfl, fun w9 hS9 => ?hy27⟩) hHeld ?rest27
      case hy27 =>
       dsimp only at hS9
       skip
       go_simp
       try with_reducible rfl
      try simp only [Act.put, set9]
      refine wpAnyH_take (i := 6) (v := ?v28) (by simp only [get9]; rfl) (by kernel_rfl) (by kernel_rfl) (by kernel_rfl) (by exact fun _ _ _ h => h) (Or.inl ⟨by rfl, fun w9 hS9 => ?hy28⟩) hHeld ?rest28
      case hy28 =>
       dsimp only at hS9
       skip
       go_simp
       try with_reducible rfl
      try simp only [Act.put, set9]
      refine wpAnyH_take (i := 8) (v := ?v29) (by simp only [get9]; rfl) (by kernel_rfl) (by kernel_rfl) (by kernel_rfl) (by exact fun _ _ _ h => h) (Or.inl ⟨by rfl, fun w9 hS9 => ?hy29⟩) hHeld ?rest29
      case hy29 =>
       dsimp only at hS9
       skip
       go_simp
       try with_reducible rfl
      try simp only [Act.put, set9]
      refine wpAnyH_take (i := 9) (v := ?v30) (by simp only [get9]; rfl) (by kernel_rfl) (by kernel_rfl) (by kernel_rfl) (by exact fun _ _ _ h => h) (Or.inl ⟨by rfl, fun w9 hS9 => ?hy30⟩) hHeld ?rest30
      case hy30 =>
       dsimp only at hS9
       skip
       go_simp
       try with_reducible rfl
      try simp only [Act.put, set9]
      refine wpAnyH_ready (rs := [0, 2, 7]) (by kernel_rfl) (by simp) (AllReadyH.cons (by simp only [get9]; rfl) (fun K hK => ?_) (AllReadyH.cons (by simp only [get9]; rfl) (fun K hK => ?_) (AllReadyH.cons (by simp only [get9]; rfl) (fun K hK => ?_) AllReadyH.nil)))
      ·skip
       go_simp
       have SB0 : Hid (St b a n c WA WA.heap.size SA SA SB GB #[.int .i64 xa.st, .slice pa ka ra, .slice qa ma da] xa (World.drew (World.alloc W4 (.cells #[] 43))) x p k r (some ⟨g, 0, none⟩) m (i + 1)) := Lib.hid ((HS4.out.same (alloc_same W4 _)).same (Below.refl _ _).drew)
       have OE : Hid (OwnM 43 (World.drew (World.alloc W4 (.cells #[] 43))) W4.heap.size (some ⟨W4.heap.size, 0, none⟩) 0 0 []) := Lib.hid ((own_emptyI (enc := Mv.enc) (s := 4) (w := W4) (B := W4.heap.size) 43 (Nat.le_refl _)).same (Below.refl _ _).drew)
       have BE : Hid (Below W4.heap.size W4 (World.drew (World.alloc W4 (.cells #[] 43)))) := Lib.hid ((alloc_same W4 _).drew)
       refine hK.out _ _ trivial (fun hHeld => ?_)
       clear hK K
       try simp only [Act.put, set9]
       refine wpAnyH_ready (rs := [2, 7]) (by kernel_rfl) (by simp) (AllReadyH.cons (by simp only [get9]; rfl) (fun K hK => ?_) (AllReadyH.cons (by simp only [get9]; rfl) (fun K hK => ?_) AllReadyH.nil))
       ·skip
        have ec : (World.alloc W4 (.cells #[] 43)).cell? ⟨GB, 2, none⟩ = some (.slice (some ⟨g, 0, none⟩) m (i + 1)) := (three_cells SB0.out.box.heap).2.2.1
        go_simp
        clear ec
        refine hK.out _ _ trivial (fun hHeld => ?_)
        clear hK K
        try simp only [Act.put, set9]
        refine wpAnyH_take (i := 4) (v := ?v31) (by simp only [get9]; rfl) (by kernel_rfl) (by kernel_rfl) (by kernel_rfl) (by exact fun _ _ _ h => h) (Or.inl ⟨by rfl, fun w9 hS9 => ?hy31⟩) hHeld ?rest31
        case hy31 =>
         dsimp only at hS9
         skip
         go_simp
         try with_reducible rfl
        try simp only [Act.put, set9]
        refine wpAnyH_ready (rs := [5, 7]) (by kernel_rfl) (by simp) (AllReadyH.cons (by simp only [get9]; rfl) (fun K hK => ?_) (AllReadyH.cons (by simp only [get9]; rfl) (fun K hK => ?_) AllReadyH.nil))
        ·skip
         have T1 : Hid (Mvs (World.drew (World.alloc W4 (.cells #[] 43))) (some ⟨g, 0, none⟩) i (x.moves.take i)) := Lib.hid ((SB0.out.box.moves.items Mv.enc_len).take9 (by omega))
         refine step_app_someI _ Mv.enc_len (by omega) Mv.cells (by rfl) (.tmp 34) (.tmp 38) 25 (by rfl) 43 i1 (.agg #[.int .i64 0, .bool false, .int .i64 0, .int .i64 0]) 32 Tryz.underlying25 HI1.out.1 HI1.out.2.1 HI1.out.2.2.1 HI1.out.2.2.2 rfl (by rfl) OE.out (by rfl) T1.out (by omega) (by omega) BE.out.size ?_
         intro g7 y7 w7 ho7 hg7 hw7
         have B7 : Hid (Below W4.heap.size W4 w7) := Lib.hid (BE.out.grown hg7 BE.out.size (fun r' e' => by cases e'; exact Nat.le_refl _))
         have O7 : Hid (OwnM 43 w7 W4.heap.size (some ⟨g7, 0, none⟩) i y7 (x.moves.take i)) := Lib.hid (by rw [Nat.zero_add, List.nil_append] at ho7; exact ho7)
         have S7 := Lib.hid (HS4.out.same B7.out)
         have N7 : 0 + i = i := Nat.zero_add i
         clear ho7 hg7 hw7
         simp only [N7]
         clear N7
         refine hK.out _ _ trivial (fun hHeld => ?_)
         clear hK K
         try simp only [Act.put, set9]
         refine wpAnyH_ready (rs := [7]) (by kernel_rfl) (by simp) (AllReadyH.cons (by simp only [get9]; rfl) (fun K hK => ?_) AllReadyH.nil)
         have ec : w7.cell? ⟨GB, 2, none⟩ = some (.slice (some ⟨g, 0, none⟩) m (i + 1)) := (three_cells S7.out.box.heap).2.2.1
         go_simp
         clear ec
         refine hK.out _ _ trivial (fun hHeld => ?_)
         clear hK K
         try simp only [Act.put, set9]
         refine wpAnyH_take (i := 10) (v := ?v32) (by simp only [get9]; rfl) (by kernel_rfl) (by kernel_rfl) (by kernel_rfl) (by exact fun _ _ _ h => h) (Or.inl ⟨by rfl, fun w9 hS9 => ?hy32⟩) hHeld ?rest32
         case hy32 =>
          dsimp only at hS9
          skip
          go_simp
          try with_reducible rfl
         try simp only [Act.put, set9]
         refine wpAnyH_ready (rs := [11]) (by kernel_rfl) (by simp) (AllReadyH.cons (by simp only [get9]; rfl) (fun K hK => ?_) AllReadyH.nil)
         have T2 : Hid (Mvs w7 (some ⟨g, 0, none⟩) 0 (x.moves.drop (i + 1))) := Lib.hid (by
       have hl : x.moves.drop (i + 1) = [] := List.drop_eq_nil_of_le (by omega)
       rw [hl]
       exact ⟨rfl, by omega, fun j9 x9 h9 => by simp at h9⟩)
         refine step_app_someI _ Mv.enc_len (by omega) Mv.cells (by rfl) (.tmp 39) (.tmp 44) 25 (by rfl) 43 i1 (.agg #[.int .i64 0, .bool false, .int .i64 0, .int .i64 0]) 32 Tryz.underlying25 HI1.out.1 HI1.out.2.1 HI1.out.2.2.1 HI1.out.2.2.2 rfl (by rfl) O7.out (by rfl) T2.out (by omega) (by omega) B7.out.size ?_
         intro g8 y8 w8 ho8 hg8 hw8
         have hg7s := (O7.out.span _ rfl).1
         have B8 : Hid (Below W4.heap.size W4 w8) := Lib.hid (B7.out.grown hg8 B7.out.size (fun r' e' => by cases e'; exact hg7s))
         have hg8w : W4.heap.size ≤ g8 := (ho8.span _ rfl).1
         have HNM := Lib.hid (HS4.out.box.newM B8.out (ho8.lower (by omega)) hg8w)
         have SF := Lib.hid (HS4.out.mod HNM.out.1 HNM.out.2)
         have h8 : w8.heap[GB]? = some (.cells #[.int .i64 x.st, .slice p k r, .slice (some ⟨g, 0, none⟩) m (i + 1)] 27 (0, 0)) := (B8.out.block GB HS4.out.box.lt).trans HS4.out.box.heap
         obtain ⟨h80, h81, h82, k80, k81, k82⟩ := three_cells h8
         clear ho8 hg8 hw8 h8
         refine hK.out _ _ trivial (fun hHeld => ?_)
         clear hK K
         try simp only [Act.put, set9]
         refine wpAnyH_take (i := 12) (v := ?v33) (by simp only [get9]; rfl) (by kernel_rfl) (by kernel_rfl) (by kernel_rfl) (by exact fun _ _ _ h => h) (Or.inl ⟨by rfl, fun w9 hS9 => ?hy33⟩) hHeld ?rest33
         case hy33 =>
          dsimp only at hS9
          skip
          go_simp
          try with_reducible rfl
         try simp only [Act.put, set9]
         refine wpAnyH_ready (rs := [13]) (by kernel_rfl) (by simp) (AllReadyH.cons (by simp only [get9]; rfl) (fun K hK => ?_) AllReadyH.nil)
         go_simp
         refine hK.out _ _ trivial (fun hHeld => ?_)
         clear hK K
         try simp only [Act.put, set9]
         refine wpAnyH_done (by kernel_rfl) ?_ _
         clear h80 h81 h82 k80 k81 k82
         go_wp2_with fail
         go_roundw
         case rel => exact ⟨j', _, p, k, r, _, _, _, by go_num, by omega, SF.out, Lib.hid (HO.out.cut i)⟩
         case measure => simp [intOf]
        ·skip
         have ec : (World.alloc W4 (.cells #[] 43)).cell? ⟨GB, 2, none⟩ = some (.slice (some ⟨g, 0, none⟩) m (i + 1)) := (three_cells SB0.out.box.heap).2.2.1
         go_simp
         clear ec
         refine hK.out _ _ trivial (fun hHeld => ?_)
         clear hK K
         try simp only [Act.put, set9]
         refine wpAnyH_take (i := 10) (v := ?v34) (by simp only [get9]; rfl) (by kernel_rfl) (by kernel_rfl) (by kernel_rfl) (by exact fun _ _ _ h => h) (Or.inl ⟨by rfl, fun w9 hS9 => ?hy34⟩) hHeld ?rest34
         case hy34 =>
          dsimp only at hS9
          skip
          go_simp
          try with_reducible rfl
         try simp only [Act.put, set9]
         refine wpAnyH_ready (rs := [5]) (by kernel_rfl) (by simp) (AllReadyH.cons (by simp only [get9]; rfl) (fun K hK => ?_) AllReadyH.nil)
         have T1 : Hid (Mvs (World.drew (World.alloc W4 (.cells #[] 43))) (some ⟨g, 0, none⟩) i (x.moves.take i)) := Lib.hid ((SB0.out.box.moves.items Mv.enc_len).take9 (by omega))
         refine step_app_someI _ Mv.enc_len (by omega) Mv.cells (by rfl) (.tmp 34) (.tmp 38) 25 (by rfl) 43 i1 (.agg #[.int .i64 0, .bool false, .int .i64 0, .int .i64 0]) 32 Tryz.underlying25 HI1.out.1 HI1.out.2.1 HI1.out.2.2.1 HI1.out.2.2.2 rfl (by rfl) OE.out (by rfl) T1.out (by omega) (by omega) BE.out.size ?_
         intro g7 y7 w7 ho7 hg7 hw7
         have B7 : Hid (Below W4.heap.size W4 w7) := Lib.hid (BE.out.grown hg7 BE.out.size (fun r' e' => by cases e'; exact Nat.le_refl _))
         have O7 : Hid (OwnM 43 w7 W4.heap.size (some ⟨g7, 0, none⟩) i y7 (x.moves.take i)) := Lib.hid (by rw [Nat.zero_add, List.nil_append] at ho7; exact ho7)
         have S7 := Lib.hid (HS4.out.same B7.out)
         have N7 : 0 + i = i := Nat.zero_add i
         clear ho7 hg7 hw7
         simp only [N7]
         clear N7
         refine hK.out _ _ trivial (fun hHeld => ?_)
         clear hK K
         try simp only [Act.put, set9]
         refine wpAnyH_ready (rs := [11]) (by kernel_rfl) (by simp) (AllReadyH.cons (by simp only [get9]; rfl) (fun K hK => ?_) AllReadyH.nil)
         have T2 : Hid (Mvs w7 (some ⟨g, 0, none⟩) 0 (x.moves.drop (i + 1))) := Lib.hid (by
       have hl : x.moves.drop (i + 1) = [] := List.drop_eq_nil_of_le (by omega)
       rw [hl]
       exact ⟨rfl, by omega, fun j9 x9 h9 => by simp at h9⟩)
         refine step_app_someI _ Mv.enc_len (by omega) Mv.cells (by rfl) (.tmp 39) (.tmp 44) 25 (by rfl) 43 i1 (.agg #[.int .i64 0, .bool false, .int .i64 0, .int .i64 0]) 32 Tryz.underlying25 HI1.out.1 HI1.out.2.1 HI1.out.2.2.1 HI1.out.2.2.2 rfl (by rfl) O7.out (by rfl) T2.out (by omega) (by omega) B7.out.size ?_
         intro g8 y8 w8 ho8 hg8 hw8
         have hg7s := (O7.out.span _ rfl).1
         have B8 : Hid (Below W4.heap.size W4 w8) := Lib.hid (B7.out.grown hg8 B7.out.size (fun r' e' => by cases e'; exact hg7s))
         have hg8w : W4.heap.size ≤ g8 := (ho8.span _ rfl).1
         have HNM := Lib.hid (HS4.out.box.newM B8.out (ho8.lower (by omega)) hg8w)
         have SF := Lib.hid (HS4.out.mod HNM.out.1 HNM.out.2)
         have h8 : w8.heap[GB]? = some (.cells #[.int .i64 x.st, .slice p k r, .slice (some ⟨g, 0, none⟩) m (i + 1)] 27 (0, 0)) := (B8.out.block GB HS4.out.box.lt).trans HS4.out.box.heap
         obtain ⟨h80, h81, h82, k80, k81, k82⟩ := three_cells h8
         clear ho8 hg8 hw8 h8
         refine hK.out _ _ trivial (fun hHeld => ?_)
         clear hK K
         try simp only [Act.put, set9]
         refine wpAnyH_take (i := 12) (v := ?v35) (by simp only [get9]; rfl) (by kernel_rfl) (by kernel_rfl) (by kernel_rfl) (by exact fun _ _ _ h => h) (Or.inl ⟨by rfl, fun w9 hS9 => ?hy35⟩) hHeld ?rest35
         case hy35 =>
          dsimp only at hS9
          skip
          go_simp
          try with_reducible rfl
         try simp only [Act.put, set9]
         refine wpAnyH_ready (rs := [13]) (by kernel_rfl) (by simp) (AllReadyH.cons (by simp only [get9]; rfl) (fun K hK => ?_) AllReadyH.nil)
         go_simp
         refine hK.out _ _ trivial (fun hHeld => ?_)
         clear hK K
         try simp only [Act.put, set9]
         refine wpAnyH_done (by kernel_rfl) ?_ _
         clear h80 h81 h82 k80 k81 k82
         go_wp2_with fail
         go_roundw
         case rel => exact ⟨j', _, p, k, r, _, _, _, by go_num, by omega, SF.out, Lib.hid (HO.out.cut i)⟩
         case measure => simp [intOf]
       ·skip
        have ec : (World.alloc W4 (.cells #[] 43)).cell? ⟨GB, 2, none⟩ = some (.slice (some ⟨g, 0, none⟩) m (i + 1)) := (three_cells SB0.out.box.heap).2.2.1
        go_simp
        clear ec
        refine hK.out _ _ trivial (fun hHeld => ?_)
        clear hK K
        try simp only [Act.put, set9]
        refine wpAnyH_take (i := 10) (v := ?v36) (by simp only [get9]; rfl) (by kernel_rfl) (by kernel_rfl) (by kernel_rfl) (by exact fun _ _ _ h => h) (Or.inl ⟨by rfl, fun w9 hS9 => ?hy36⟩) hHeld ?rest36
        case hy36 =>
         dsimp only at hS9
         skip
         go_simp
         try with_reducible rfl
        try simp only [Act.put, set9]
        refine wpAnyH_ready (rs := [2]) (by kernel_rfl) (by simp) (AllReadyH.cons (by simp only [get9]; rfl) (fun K hK => ?_) AllReadyH.nil)
        have ec : (World.alloc W4 (.cells #[] 43)).cell? ⟨GB, 2, none⟩ = some (.slice (some ⟨g, 0, none⟩) m (i + 1)) := (three_cells SB0.out.box.heap).2.2.1
        go_simp
        clear ec
        refine hK.out _ _ trivial (fun hHeld => ?_)
        clear hK K
        try simp only [Act.put, set9]
        refine wpAnyH_take (i := 4) (v := ?v37) (by simp only [get9]; rfl) (by kernel_rfl) (by kernel_rfl) (by kernel_rfl) (by exact fun _ _ _ h => h) (Or.inl ⟨by rfl, fun w9 hS9 => ?hy37⟩) hHeld ?rest37
        case hy37 =>
         dsimp only at hS9
         skip
         go_simp
         try with_reducible rfl
        try simp only [Act.put, set9]
        refine wpAnyH_ready (rs := [5]) (by kernel_rfl) (by simp) (AllReadyH.cons (by simp only [get9]; rfl) (fun K hK => ?_) AllReadyH.nil)
        have T1 : Hid (Mvs (World.drew (World.alloc W4 (.cells #[] 43))) (some ⟨g, 0, none⟩) i (x.moves.take i)) := Lib.hid ((SB0.out.box.moves.items Mv.enc_len).take9 (by omega))
        refine step_app_someI _ Mv.enc_len (by omega) Mv.cells (by rfl) (.tmp 34) (.tmp 38) 25 (by rfl) 43 i1 (.agg #[.int .i64 0, .bool false, .int .i64 0, .int .i64 0]) 32 Tryz.underlying25 HI1.out.1 HI1.out.2.1 HI1.out.2.2.1 HI1.out.2.2.2 rfl (by rfl) OE.out (by rfl) T1.out (by omega) (by omega) BE.out.size ?_
        intro g7 y7 w7 ho7 hg7 hw7
        have B7 : Hid (Below W4.heap.size W4 w7) := Lib.hid (BE.out.grown hg7 BE.out.size (fun r' e' => by cases e'; exact Nat.le_refl _))
        have O7 : Hid (OwnM 43 w7 W4.heap.size (some ⟨g7, 0, none⟩) i y7 (x.moves.take i)) := Lib.hid (by rw [Nat.zero_add, List.nil_append] at ho7; exact ho7)
        have S7 := Lib.hid (HS4.out.same B7.out)
        have N7 : 0 + i = i := Nat.zero_add i
        clear ho7 hg7 hw7
        simp only [N7]
        clear N7
        refine hK.out _ _ trivial (fun hHeld => ?_)
        clear hK K
        try simp only [Act.put, set9]
        refine wpAnyH_ready (rs := [11]) (by kernel_rfl) (by simp) (AllReadyH.cons (by simp only [get9]; rfl) (fun K hK => ?_) AllReadyH.nil)
        have T2 : Hid (Mvs w7 (some ⟨g, 0, none⟩) 0 (x.moves.drop (i + 1))) := Lib.hid (by
       have hl : x.moves.drop (i + 1) = [] := List.drop_eq_nil_of_le (by omega)
       rw [hl]
       exact ⟨rfl, by omega, fun j9 x9 h9 => by simp at h9⟩)
        refine step_app_someI _ Mv.enc_len (by omega) Mv.cells (by rfl) (.tmp 39) (.tmp 44) 25 (by rfl) 43 i1 (.agg #[.int .i64 0, .bool false, .int .i64 0, .int .i64 0]) 32 Tryz.underlying25 HI1.out.1 HI1.out.2.1 HI1.out.2.2.1 HI1.out.2.2.2 rfl (by rfl) O7.out (by rfl) T2.out (by omega) (by omega) B7.out.size ?_
        intro g8 y8 w8 ho8 hg8 hw8
        have hg7s := (O7.out.span _ rfl).1
        have B8 : Hid (Below W4.heap.size W4 w8) := Lib.hid (B7.out.grown hg8 B7.out.size (fun r' e' => by cases e'; exact hg7s))
        have hg8w : W4.heap.size ≤ g8 := (ho8.span _ rfl).1
        have HNM := Lib.hid (HS4.out.box.newM B8.out (ho8.lower (by omega)) hg8w)
        have SF := Lib.hid (HS4.out.mod HNM.out.1 HNM.out.2)
        have h8 : w8.heap[GB]? = some (.cells #[.int .i64 x.st, .slice p k r, .slice (some ⟨g, 0, none⟩) m (i + 1)] 27 (0, 0)) := (B8.out.block GB HS4.out.box.lt).trans HS4.out.box.heap
        obtain ⟨h80, h81, h82, k80, k81, k82⟩ := three_cells h8
        clear ho8 hg8 hw8 h8
        refine hK.out _ _ trivial (fun hHeld => ?_)
        clear hK K
        try simp only [Act.put, set9]
        refine wpAnyH_take (i := 12) (v := ?v38) (by simp only [get9]; rfl) (by kernel_rfl) (by kernel_rfl) (by kernel_rfl) (by exact fun _ _ _ h => h) (Or.inl ⟨by rfl, fun w9 hS9 => ?hy38⟩) hHeld ?rest38
        case hy38 =>
         dsimp only at hS9
         skip
         go_simp
         try with_reducible rfl
        try simp only [Act.put, set9]
        refine wpAnyH_ready (rs := [13]) (by kernel_rfl) (by simp) (AllReadyH.cons (by simp only [get9]; rfl) (fun K hK => ?_) AllReadyH.nil)
        go_simp
        refine hK.out _ _ trivial (fun hHeld => ?_)
        clear hK K
        try simp only [Act.put, set9]
        refine wpAnyH_done (by kernel_rfl) ?_ _
        clear h80 h81 h82 k80 k81 k82
        go_wp2_with fail
        go_roundw
        case rel => exact ⟨j', _, p, k, r, _, _, _, by go_num, by omega, SF.out, Lib.hid (HO.out.cut i)⟩
        case measure => simp [intOf]
      ·skip
       have ec : W4.cell? ⟨GB, 2, none⟩ = some (.slice (some ⟨g, 0, none⟩) m (i + 1)) := (three_cells HS4.out.box.heap).2.2.1
       go_simp
       clear ec
       refine hK.out _ _ trivial (fun hHeld => ?_)
       clear hK K
       try simp only [Act.put, set9]
       refine wpAnyH_take (i := 4) (v := ?v39) (by simp only [get9]; rfl) (by kernel_rfl) (by kernel_rfl) (by kernel_rfl) (by exact fun _ _ _ h => h) (Or.inl ⟨by rfl, fun w9 hS9 => ?hy39⟩) hHeld ?rest39
       case hy39 =>
        dsimp only at hS9
        skip
        go_simp
        try with_reducible rfl
       try simp only [Act.put, set9]
       refine wpAnyH_ready (rs := [0, 7]) (by kernel_rfl) (by simp) (AllReadyH.cons (by simp only [get9]; rfl) (fun K hK => ?_) (AllReadyH.cons (by simp only [get9]; rfl) (fun K hK => ?_) AllReadyH.nil))
       ·skip
        go_simp
        have SB0 : Hid (St b a n c WA WA.heap.size SA SA SB GB #[.int .i64 xa.st, .slice pa ka ra, .slice qa ma da] xa (World.drew (World.alloc W4 (.cells #[] 43))) x p k r (some ⟨g, 0, none⟩) m (i + 1)) := Lib.hid ((HS4.out.same (alloc_same W4 _)).same (Below.refl _ _).drew)
        have OE : Hid (OwnM 43 (World.drew (World.alloc W4 (.cells #[] 43))) W4.heap.size (some ⟨W4.heap.size, 0, none⟩) 0 0 []) := Lib.hid ((own_emptyI (enc := Mv.enc) (s := 4) (w := W4) (B := W4.heap.size) 43 (Nat.le_refl _)).same (Below.refl _ _).drew)
        have BE : Hid (Below W4.heap.size W4 (World.drew (World.alloc W4 (.cells #[] 43)))) := Lib.hid ((alloc_same W4 _).drew)
        refine hK.out _ _ trivial (fun hHeld => ?_)
        clear hK K
        try simp only [Act.put, set9]
        refine wpAnyH_ready (rs := [5, 7]) (by kernel_rfl) (by simp) (AllReadyH.cons (by simp only [get9]; rfl) (fun K hK => ?_) (AllReadyH.cons (by simp only [get9]; rfl) (fun K hK => ?_) AllReadyH.nil))
        ·skip
         have T1 : Hid (Mvs (World.drew (World.alloc W4 (.cells #[] 43))) (some ⟨g, 0, none⟩) i (x.moves.take i)) := Lib.hid ((SB0.out.box.moves.items Mv.enc_len).take9 (by omega))
         refine step_app_someI _ Mv.enc_len (by omega) Mv.cells (by rfl) (.tmp 34) (.tmp 38) 25 (by rfl) 43 i1 (.agg #[.int .i64 0, .bool false, .int .i64 0, .int .i64 0]) 32 Tryz.underlying25 HI1.out.1 HI1.out.2.1 HI1.out.2.2.1 HI1.out.2.2.2 rfl (by rfl) OE.out (by rfl) T1.out (by omega) (by omega) BE.out.size ?_
         intro g7 y7 w7 ho7 hg7 hw7
         have B7 : Hid (Below W4.heap.size W4 w7) := Lib.hid (BE.out.grown hg7 BE.out.size (fun r' e' => by cases e'; exact Nat.le_refl _))
         have O7 : Hid (OwnM 43 w7 W4.heap.size (some ⟨g7, 0, none⟩) i y7 (x.moves.take i)) := Lib.hid (by rw [Nat.zero_add, List.nil_append] at ho7; exact ho7)
         have S7 := Lib.hid (HS4.out.same B7.out)
         have N7 : 0 + i = i := Nat.zero_add i
         clear ho7 hg7 hw7
         simp only [N7]
         clear N7
         refine hK.out _ _ trivial (fun hHeld => ?_)
         clear hK K
         try simp only [Act.put, set9]
         refine wpAnyH_ready (rs := [7]) (by kernel_rfl) (by simp) (AllReadyH.cons (by simp only [get9]; rfl) (fun K hK => ?_) AllReadyH.nil)
         have ec : w7.cell? ⟨GB, 2, none⟩ = some (.slice (some ⟨g, 0, none⟩) m (i + 1)) := (three_cells S7.out.box.heap).2.2.1
         go_simp
         clear ec
         refine hK.out _ _ trivial (fun hHeld => ?_)
         clear hK K
         try simp only [Act.put, set9]
         refine wpAnyH_take (i := 10) (v := ?v40) (by simp only [get9]; rfl) (by kernel_rfl) (by kernel_rfl) (by kernel_rfl) (by exact fun _ _ _ h => h) (Or.inl ⟨by rfl, fun w9 hS9 => ?hy40⟩) hHeld ?rest40
         case hy40 =>
          dsimp only at hS9
          skip
          go_simp
          try with_reducible rfl
         try simp only [Act.put, set9]
         refine wpAnyH_ready (rs := [11]) (by kernel_rfl) (by simp) (AllReadyH.cons (by simp only [get9]; rfl) (fun K hK => ?_) AllReadyH.nil)
         have T2 : Hid (Mvs w7 (some ⟨g, 0, none⟩) 0 (x.moves.drop (i + 1))) := Lib.hid (by
       have hl : x.moves.drop (i + 1) = [] := List.drop_eq_nil_of_le (by omega)
       rw [hl]
       exact ⟨rfl, by omega, fun j9 x9 h9 => by simp at h9⟩)
         refine step_app_someI _ Mv.enc_len (by omega) Mv.cells (by rfl) (.tmp 39) (.tmp 44) 25 (by rfl) 43 i1 (.agg #[.int .i64 0, .bool false, .int .i64 0, .int .i64 0]) 32 Tryz.underlying25 HI1.out.1 HI1.out.2.1 HI1.out.2.2.1 HI1.out.2.2.2 rfl (by rfl) O7.out (by rfl) T2.out (by omega) (by omega) B7.out.size ?_
         intro g8 y8 w8 ho8 hg8 hw8
         have hg7s := (O7.out.span _ rfl).1
         have B8 : Hid (Below W4.heap.size W4 w8) := Lib.hid (B7.out.grown hg8 B7.out.size (fun r' e' => by cases e'; exact hg7s))
         have hg8w : W4.heap.size ≤ g8 := (ho8.span _ rfl).1
         have HNM := Lib.hid (HS4.out.box.newM B8.out (ho8.lower (by omega)) hg8w)
         have SF := Lib.hid (HS4.out.mod HNM.out.1 HNM.out.2)
         have h8 : w8.heap[GB]? = some (.cells #[.int .i64 x.st, .slice p k r, .slice (some ⟨g, 0, none⟩) m (i + 1)] 27 (0, 0)) := (B8.out.block GB HS4.out.box.lt).trans HS4.out.box.heap
         obtain ⟨h80, h81, h82, k80, k81, k82⟩ := three_cells h8
         clear ho8 hg8 hw8 h8
         refine hK.out _ _ trivial (fun hHeld => ?_)
         clear hK K
         try simp only [Act.put, set9]
         refine wpAnyH_take (i := 12) (v := ?v41) (by simp only [get9]; rfl) (by kernel_rfl) (by kernel_rfl) (by kernel_rfl) (by exact fun _ _ _ h => h) (Or.inl ⟨by rfl, fun w9 hS9 => ?hy41⟩) hHeld ?rest41
         case hy41 =>
          dsimp only at hS9
          skip
          go_simp
          try with_reducible rfl
         try simp only [Act.put, set9]
         refine wpAnyH_ready (rs := [13]) (by kernel_rfl) (by simp) (AllReadyH.cons (by simp only [get9]; rfl) (fun K hK => ?_) AllReadyH.nil)
         go_simp
         refine hK.out _ _ trivial (fun hHeld => ?_)
         clear hK K
         try simp only [Act.put, set9]
         refine wpAnyH_done (by kernel_rfl) ?_ _
         clear h80 h81 h82 k80 k81 k82
         go_wp2_with fail
         go_roundw
         case rel => exact ⟨j', _, p, k, r, _, _, _, by go_num, by omega, SF.out, Lib.hid (HO.out.cut i)⟩
         case measure => simp [intOf]
        ·skip
         have ec : (World.alloc W4 (.cells #[] 43)).cell? ⟨GB, 2, none⟩ = some (.slice (some ⟨g, 0, none⟩) m (i + 1)) := (three_cells SB0.out.box.heap).2.2.1
         go_simp
         clear ec
         refine hK.out _ _ trivial (fun hHeld => ?_)
         clear hK K
         try simp only [Act.put, set9]
         refine wpAnyH_take (i := 10) (v := ?v42) (by simp only [get9]; rfl) (by kernel_rfl) (by kernel_rfl) (by kernel_rfl) (by exact fun _ _ _ h => h) (Or.inl ⟨by rfl, fun w9 hS9 => ?hy42⟩) hHeld ?rest42
         case hy42 =>
          dsimp only at hS9
          skip
          go_simp
          try with_reducible rfl
         try simp only [Act.put, set9]
         refine wpAnyH_ready (rs := [5]) (by kernel_rfl) (by simp) (AllReadyH.cons (by simp only [get9]; rfl) (fun K hK => ?_) AllReadyH.nil)
         have T1 : Hid (Mvs (World.drew (World.alloc W4 (.cells #[] 43))) (some ⟨g, 0, none⟩) i (x.moves.take i)) := Lib.hid ((SB0.out.box.moves.items Mv.enc_len).take9 (by omega))
         refine step_app_someI _ Mv.enc_len (by omega) Mv.cells (by rfl) (.tmp 34) (.tmp 38) 25 (by rfl) 43 i1 (.agg #[.int .i64 0, .bool false, .int .i64 0, .int .i64 0]) 32 Tryz.underlying25 HI1.out.1 HI1.out.2.1 HI1.out.2.2.1 HI1.out.2.2.2 rfl (by rfl) OE.out (by rfl) T1.out (by omega) (by omega) BE.out.size ?_
         intro g7 y7 w7 ho7 hg7 hw7
         have B7 : Hid (Below W4.heap.size W4 w7) := Lib.hid (BE.out.grown hg7 BE.out.size (fun r' e' => by cases e'; exact Nat.le_refl _))
         have O7 : Hid (OwnM 43 w7 W4.heap.size (some ⟨g7, 0, none⟩) i y7 (x.moves.take i)) := Lib.hid (by rw [Nat.zero_add, List.nil_append] at ho7; exact ho7)
         have S7 := Lib.hid (HS4.out.same B7.out)
         have N7 : 0 + i = i := Nat.zero_add i
         clear ho7 hg7 hw7
         simp only [N7]
         clear N7
         refine hK.out _ _ trivial (fun hHeld => ?_)
         clear hK K
         try simp only [Act.put, set9]
         refine wpAnyH_ready (rs := [11]) (by kernel_rfl) (by simp) (AllReadyH.cons (by simp only [get9]; rfl) (fun K hK => ?_) AllReadyH.nil)
         have T2 : Hid (Mvs w7 (some ⟨g, 0, none⟩) 0 (x.moves.drop (i + 1))) := Lib.hid (by
       have hl : x.moves.drop (i + 1) = [] := List.drop_eq_nil_of_le (by omega)
       rw [hl]
       exact ⟨rfl, by omega, fun j9 x9 h9 => by simp at h9⟩)
         refine step_app_someI _ Mv.enc_len (by omega) Mv.cells (by rfl) (.tmp 39) (.tmp 44) 25 (by rfl) 43 i1 (.agg #[.int .i64 0, .bool false, .int .i64 0, .int .i64 0]) 32 Tryz.underlying25 HI1.out.1 HI1.out.2.1 HI1.out.2.2.1 HI1.out.2.2.2 rfl (by rfl) O7.out (by rfl) T2.out (by omega) (by omega) B7.out.size ?_
         intro g8 y8 w8 ho8 hg8 hw8
         have hg7s := (O7.out.span _ rfl).1
         have B8 : Hid (Below W4.heap.size W4 w8) := Lib.hid (B7.out.grown hg8 B7.out.size (fun r' e' => by cases e'; exact hg7s))
         have hg8w : W4.heap.size ≤ g8 := (ho8.span _ rfl).1
         have HNM := Lib.hid (HS4.out.box.newM B8.out (ho8.lower (by omega)) hg8w)
         have SF := Lib.hid (HS4.out.mod HNM.out.1 HNM.out.2)
         have h8 : w8.heap[GB]? = some (.cells #[.int .i64 x.st, .slice p k r, .slice (some ⟨g, 0, none⟩) m (i + 1)] 27 (0, 0)) := (B8.out.block GB HS4.out.box.lt).trans HS4.out.box.heap
         obtain ⟨h80, h81, h82, k80, k81, k82⟩ := three_cells h8
         clear ho8 hg8 hw8 h8
         refine hK.out _ _ trivial (fun hHeld => ?_)
         clear hK K
         try simp only [Act.put, set9]
         refine wpAnyH_take (i := 12) (v := ?v43) (by simp only [get9]; rfl) (by kernel_rfl) (by kernel_rfl) (by kernel_rfl) (by exact fun _ _ _ h => h) (Or.inl ⟨by rfl, fun w9 hS9 => ?hy43⟩) hHeld ?rest43
         case hy43 =>
          dsimp only at hS9
          skip
          go_simp
          try with_reducible rfl
         try simp only [Act.put, set9]
         refine wpAnyH_ready (rs := [13]) (by kernel_rfl) (by simp) (AllReadyH.cons (by simp only [get9]; rfl) (fun K hK => ?_) AllReadyH.nil)
         go_simp
         refine hK.out _ _ trivial (fun hHeld => ?_)
         clear hK K
         try simp only [Act.put, set9]
         refine wpAnyH_done (by kernel_rfl) ?_ _
         clear h80 h81 h82 k80 k81 k82
         go_wp2_with fail
         go_roundw
         case rel => exact ⟨j', _, p, k, r, _, _, _, by go_num, by omega, SF.out, Lib.hid (HO.out.cut i)⟩
         case measure => simp [intOf]
       ·skip
        have ec : W4.cell? ⟨GB, 2, none⟩ = some (.slice (some ⟨g, 0, none⟩) m (i + 1)) := (three_cells HS4.out.box.heap).2.2.1
        go_simp
        clear ec
        refine hK.out _ _ trivial (fun hHeld => ?_)
        clear hK K
        try simp only [Act.put, set9]
        refine wpAnyH_take (i := 10) (v := ?v44) (by simp only [get9]; rfl) (by kernel_rfl) (by kernel_rfl) (by kernel_rfl) (by exact fun _ _ _ h => h) (Or.inl ⟨by rfl, fun w9 hS9 => ?hy44⟩) hHeld ?rest44
        case hy44 =>
         dsimp only at hS9
         skip
         go_simp
         try with_reducible rfl
        try simp only [Act.put, set9]
        refine wpAnyH_ready (rs := [0]) (by kernel_rfl) (by simp) (AllReadyH.cons (by simp only [get9]; rfl) (fun K hK => ?_) AllReadyH.nil)
        go_simp
        have SB0 : Hid (St b a n c WA WA.heap.size SA SA SB GB #[.int .i64 xa.st, .slice pa ka ra, .slice qa ma da] xa (World.drew (World.alloc W4 (.cells #[] 43))) x p k r (some ⟨g, 0, none⟩) m (i + 1)) := Lib.hid ((HS4.out.same (alloc_same W4 _)).same (Below.refl _ _).drew)
        have OE : Hid (OwnM 43 (World.drew (World.alloc W4 (.cells #[] 43))) W4.heap.size (some ⟨W4.heap.size, 0, none⟩) 0 0 []) := Lib.hid ((own_emptyI (enc := Mv.enc) (s := 4) (w := W4) (B := W4.heap.size) 43 (Nat.le_refl _)).same (Below.refl _ _).drew)
        have BE : Hid (Below W4.heap.size W4 (World.drew (World.alloc W4 (.cells #[] 43)))) := Lib.hid ((alloc_same W4 _).drew)
        refine hK.out _ _ trivial (fun hHeld => ?_)
        clear hK K
        try simp only [Act.put, set9]
        refine wpAnyH_ready (rs := [5]) (by kernel_rfl) (by simp) (AllReadyH.cons (by simp only [get9]; rfl) (fun K hK => ?_) AllReadyH.nil)
        have T1 : Hid (Mvs (World.drew (World.alloc W4 (.cells #[] 43))) (some ⟨g, 0, none⟩) i (x.moves.take i)) := Lib.hid ((SB0.out.box.moves.items Mv.enc_len).take9 (by omega))
        refine step_app_someI _ Mv.enc_len (by omega) Mv.cells (by rfl) (.tmp 34) (.tmp 38) 25 (by rfl) 43 i1 (.agg #[.int .i64 0, .bool false, .int .i64 0, .int .i64 0]) 32 Tryz.underlying25 HI1.out.1 HI1.out.2.1 HI1.out.2.2.1 HI1.out.2.2.2 rfl (by rfl) OE.out (by rfl) T1.out (by omega) (by omega) BE.out.size ?_
        intro g7 y7 w7 ho7 hg7 hw7
        have B7 : Hid (Below W4.heap.size W4 w7) := Lib.hid (BE.out.grown hg7 BE.out.size (fun r' e' => by cases e'; exact Nat.le_refl _))
        have O7 : Hid (OwnM 43 w7 W4.heap.size (some ⟨g7, 0, none⟩) i y7 (x.moves.take i)) := Lib.hid (by rw [Nat.zero_add, List.nil_append] at ho7; exact ho7)
        have S7 := Lib.hid (HS4.out.same B7.out)
        have N7 : 0 + i = i := Nat.zero_add i
        clear ho7 hg7 hw7
        simp only [N7]
        clear N7
        refine hK.out _ _ trivial (fun hHeld => ?_)
        clear hK K
        try simp only [Act.put, set9]
        refine wpAnyH_ready (rs := [11]) (by kernel_rfl) (by simp) (AllReadyH.cons (by simp only [get9]; rfl) (fun K hK => ?_) AllReadyH.nil)
        have T2 : Hid (Mvs w7 (some ⟨g, 0, none⟩) 0 (x.moves.drop (i + 1))) := Lib.hid (by
       have hl : x.moves.drop (i + 1) = [] := List.drop_eq_nil_of_le (by omega)
       rw [hl]
       exact ⟨rfl, by omega, fun j9 x9 h9 => by simp at h9⟩)
        refine step_app_someI _ Mv.enc_len (by omega) Mv.cells (by rfl) (.tmp 39) (.tmp 44) 25 (by rfl) 43 i1 (.agg #[.int .i64 0, .bool false, .int .i64 0, .int .i64 0]) 32 Tryz.underlying25 HI1.out.1 HI1.out.2.1 HI1.out.2.2.1 HI1.out.2.2.2 rfl (by rfl) O7.out (by rfl) T2.out (by omega) (by omega) B7.out.size ?_
        intro g8 y8 w8 ho8 hg8 hw8
        have hg7s := (O7.out.span _ rfl).1
        have B8 : Hid (Below W4.heap.size W4 w8) := Lib.hid (B7.out.grown hg8 B7.out.size (fun r' e' => by cases e'; exact hg7s))
        have hg8w : W4.heap.size ≤ g8 := (ho8.span _ rfl).1
        have HNM := Lib.hid (HS4.out.box.newM B8.out (ho8.lower (by omega)) hg8w)
        have SF := Lib.hid (HS4.out.mod HNM.out.1 HNM.out.2)
        have h8 : w8.heap[GB]? = some (.cells #[.int .i64 x.st, .slice p k r, .slice (some ⟨g, 0, none⟩) m (i + 1)] 27 (0, 0)) := (B8.out.block GB HS4.out.box.lt).trans HS4.out.box.heap
        obtain ⟨h80, h81, h82, k80, k81, k82⟩ := three_cells h8
        clear ho8 hg8 hw8 h8
        refine hK.out _ _ trivial (fun hHeld => ?_)
        clear hK K
        try simp only [Act.put, set9]
        refine wpAnyH_take (i := 12) (v := ?v45) (by simp only [get9]; rfl) (by kernel_rfl) (by kernel_rfl) (by kernel_rfl) (by exact fun _ _ _ h => h) (Or.inl ⟨by rfl, fun w9 hS9 => ?hy45⟩) hHeld ?rest45
        case hy45 =>
         dsimp only at hS9
         skip
         go_simp
         try with_reducible rfl
        try simp only [Act.put, set9]
        refine wpAnyH_ready (rs := [13]) (by kernel_rfl) (by simp) (AllReadyH.cons (by simp only [get9]; rfl) (fun K hK => ?_) AllReadyH.nil)
        go_simp
        refine hK.out _ _ trivial (fun hHeld => ?_)
        clear hK K
        try simp only [Act.put, set9]
        refine wpAnyH_done (by kernel_rfl) ?_ _
        clear h80 h81 h82 k80 k81 k82
        go_wp2_with fail
        go_roundw
        case rel => exact ⟨j', _, p, k, r, _, _, _, by go_num, by omega, SF.out, Lib.hid (HO.out.cut i)⟩
        case measure => simp [intOf]
      ·skip
       have ec : W4.cell? ⟨GB, 2, none⟩ = some (.slice (some ⟨g, 0, none⟩) m (i + 1)) := (three_cells HS4.out.box.heap).2.2.1
       go_simp
       clear ec
       refine hK.out _ _ trivial (fun hHeld => ?_)
       clear hK K
       try simp only [Act.put, set9]
       refine wpAnyH_take (i := 10) (v := ?v46) (by simp only [get9]; rfl) (by kernel_rfl) (by kernel_rfl) (by kernel_rfl) (by exact fun _ _ _ h => h) (Or.inl ⟨by rfl, fun w9 hS9 => ?hy46⟩) hHeld ?rest46
       case hy46 =>
        dsimp only at hS9
        skip
        go_simp
        try with_reducible rfl
       try simp only [Act.put, set9]
       refine wpAnyH_ready (rs := [0, 2]) (by kernel_rfl) (by simp) (AllReadyH.cons (by simp only [get9]; rfl) (fun K hK => ?_) (AllReadyH.cons (by simp only [get9]; rfl) (fun K hK => ?_) AllReadyH.nil))
       ·skip
        go_simp
        have SB0 : Hid (St b a n c WA WA.heap.size SA SA SB GB #[.int .i64 xa.st, .slice pa ka ra, .slice qa ma da] xa (World.drew (World.alloc W4 (.cells #[] 43))) x p k r (some ⟨g, 0, none⟩) m (i + 1)) := Lib.hid ((HS4.out.same (alloc_same W4 _)).same (Below.refl _ _).drew)
        have OE : Hid (OwnM 43 (World.drew (World.alloc W4 (.cells #[] 43))) W4.heap.size (some ⟨W4.heap.size, 0, none⟩) 0 0 []) := Lib.hid ((own_emptyI (enc := Mv.enc) (s := 4) (w := W4) (B := W4.heap.size) 43 (Nat.le_refl _)).same (Below.refl _ _).drew)
        have BE : Hid (Below W4.heap.size W4 (World.drew (World.alloc W4 (.cells #[] 43)))) := Lib.hid ((alloc_same W4 _).drew)
        refine hK.out _ _ trivial (fun hHeld => ?_)
        clear hK K
        try simp only [Act.put, set9]
        refine wpAnyH_ready (rs := [2]) (by kernel_rfl) (by simp) (AllReadyH.cons (by simp only [get9]; rfl) (fun K hK => ?_) AllReadyH.nil)
        have ec : (World.alloc W4 (.cells #[] 43)).cell? ⟨GB, 2, none⟩ = some (.slice (some ⟨g, 0, none⟩) m (i + 1)) := (three_cells SB0.out.box.heap).2.2.1
        go_simp
        clear ec
        refine hK.out _ _ trivial (fun hHeld => ?_)
        clear hK K
        try simp only [Act.put, set9]
        refine wpAnyH_take (i := 4) (v := ?v47) (by simp only [get9]; rfl) (by kernel_rfl) (by kernel_rfl) (by kernel_rfl) (by exact fun _ _ _ h => h) (Or.inl ⟨by rfl, fun w9 hS9 => ?hy47⟩) hHeld ?rest47
        case hy47 =>
         dsimp only at hS9
         skip
         go_simp
         try with_reducible rfl
        try simp only [Act.put, set9]
        refine wpAnyH_ready (rs := [5]) (by kernel_rfl) (by simp) (AllReadyH.cons (by simp only [get9]; rfl) (fun K hK => ?_) AllReadyH.nil)
        have T1 : Hid (Mvs (World.drew (World.alloc W4 (.cells #[] 43))) (some ⟨g, 0, none⟩) i (x.moves.take i)) := Lib.hid ((SB0.out.box.moves.items Mv.enc_len).take9 (by omega))
        refine step_app_someI _ Mv.enc_len (by omega) Mv.cells (by rfl) (.tmp 34) (.tmp 38) 25 (by rfl) 43 i1 (.agg #[.int .i64 0, .bool false, .int .i64 0, .int .i64 0]) 32 Tryz.underlying25 HI1.out.1 HI1.out.2.1 HI1.out.2.2.1 HI1.out.2.2.2 rfl (by rfl) OE.out (by rfl) T1.out (by omega) (by omega) BE.out.size ?_
        intro g7 y7 w7 ho7 hg7 hw7
        have B7 : Hid (Below W4.heap.size W4 w7) := Lib.hid (BE.out.grown hg7 BE.out.size (fun r' e' => by cases e'; exact Nat.le_refl _))
        have O7 : Hid (OwnM 43 w7 W4.heap.size (some ⟨g7, 0, none⟩) i y7 (x.moves.take i)) := Lib.hid (by rw [Nat.zero_add, List.nil_append] at ho7; exact ho7)
        have S7 := Lib.hid (HS4.out.same B7.out)
        have N7 : 0 + i = i := Nat.zero_add i
        clear ho7 hg7 hw7
        simp only [N7]
        clear N7
        refine hK.out _ _ trivial (fun hHeld => ?_)
        clear hK K
        try simp only [Act.put, set9]
        refine wpAnyH_ready (rs := [11]) (by kernel_rfl) (by simp) (AllReadyH.cons (by simp only [get9]; rfl) (fun K hK => ?_) AllReadyH.nil)
        have T2 : Hid (Mvs w7 (some ⟨g, 0, none⟩) 0 (x.moves.drop (i + 1))) := Lib.hid (by
       have hl : x.moves.drop (i + 1) = [] := List.drop_eq_nil_of_le (by omega)
       rw [hl]
       exact ⟨rfl, by omega, fun j9 x9 h9 => by simp at h9⟩)
        refine step_app_someI _ Mv.enc_len (by omega) Mv.cells (by rfl) (.tmp 39) (.tmp 44) 25 (by rfl) 43 i1 (.agg #[.int .i64 0, .bool false, .int .i64 0, .int .i64 0]) 32 Tryz.underlying25 HI1.out.1 HI1.out.2.1 HI1.out.2.2.1 HI1.out.2.2.2 rfl (by rfl) O7.out (by rfl) T2.out (by omega) (by omega) B7.out.size ?_
        intro g8 y8 w8 ho8 hg8 hw8
        have hg7s := (O7.out.span _ rfl).1
        have B8 : Hid (Below W4.heap.size W4 w8) := Lib.hid (B7.out.grown hg8 B7.out.size (fun r' e' => by cases e'; exact hg7s))
        have hg8w : W4.heap.size ≤ g8 := (ho8.span _ rfl).1
        have HNM := Lib.hid (HS4.out.box.newM B8.out (ho8.lower (by omega)) hg8w)
        have SF := Lib.hid (HS4.out.mod HNM.out.1 HNM.out.2)
        have h8 : w8.heap[GB]? = some (.cells #[.int .i64 x.st, .slice p k r, .slice (some ⟨g, 0, none⟩) m (i + 1)] 27 (0, 0)) := (B8.out.block GB HS4.out.box.lt).trans HS4.out.box.heap
        obtain ⟨h80, h81, h82, k80, k81, k82⟩ := three_cells h8
        clear ho8 hg8 hw8 h8
        refine hK.out _ _ trivial (fun hHeld => ?_)
        clear hK K
        try simp only [Act.put, set9]
        refine wpAnyH_take (i := 12) (v := ?v48) (by simp only [get9]; rfl) (by kernel_rfl) (by kernel_rfl) (by kernel_rfl) (by exact fun _ _ _ h => h) (Or.inl ⟨by rfl, fun w9 hS9 => ?hy48⟩) hHeld ?rest48
        case hy48 =>
         dsimp only at hS9
         skip
         go_simp
         try with_reducible rfl
        try simp only [Act.put, set9]
        refine wpAnyH_ready (rs := [13]) (by kernel_rfl) (by simp) (AllReadyH.cons (by simp only [get9]; rfl) (fun K hK => ?_) AllReadyH.nil)
        go_simp
        refine hK.out _ _ trivial (fun hHeld => ?_)
        clear hK K
        try simp only [Act.put, set9]
        refine wpAnyH_done (by kernel_rfl) ?_ _
        clear h80 h81 h82 k80 k81 k82
        go_wp2_with fail
        go_roundw
        case rel => exact ⟨j', _, p, k, r, _, _, _, by go_num, by omega, SF.out, Lib.hid (HO.out.cut i)⟩
        case measure => simp [intOf]
       ·skip
        have ec : W4.cell? ⟨GB, 2, none⟩ = some (.slice (some ⟨g, 0, none⟩) m (i + 1)) := (three_cells HS4.out.box.heap).2.2.1
        go_simp
        clear ec
        refine hK.out _ _ trivial (fun hHeld => ?_)
        clear hK K
        try simp only [Act.put, set9]
        refine wpAnyH_take (i := 4) (v := ?v49) (by simp only [get9]; rfl) (by kernel_rfl) (by kernel_rfl) (by kernel_rfl) (by exact fun _ _ _ h => h) (Or.inl ⟨by rfl, fun w9 hS9 => ?hy49⟩) hHeld ?rest49
        case hy49 =>
         dsimp only at hS9
         skip
         go_simp
         try with_reducible rfl
        try simp only [Act.put, set9]
        refine wpAnyH_ready (rs := [0]) (by kernel_rfl) (by simp) (AllReadyH.cons (by simp only [get9]; rfl) (fun K hK => ?_) AllReadyH.nil)
        go_simp
        have SB0 : Hid (St b a n c WA WA.heap.size SA SA SB GB #[.int .i64 xa.st, .slice pa ka ra, .slice qa ma da] xa (World.drew (World.alloc W4 (.cells #[] 43))) x p k r (some ⟨g, 0, none⟩) m (i + 1)) := Lib.hid ((HS4.out.same (alloc_same W4 _)).same (Below.refl _ _).drew)
        have OE : Hid (OwnM 43 (World.drew (World.alloc W4 (.cells #[] 43))) W4.heap.size (some ⟨W4.heap.size, 0, none⟩) 0 0 []) := Lib.hid ((own_emptyI (enc := Mv.enc) (s := 4) (w := W4) (B := W4.heap.size) 43 (Nat.le_refl _)).same (Below.refl _ _).drew)
        have BE : Hid (Below W4.heap.size W4 (World.drew (World.alloc W4 (.cells #[] 43)))) := Lib.hid ((alloc_same W4 _).drew)
        refine hK.out _ _ trivial (fun hHeld => ?_)
        clear hK K
        try simp only [Act.put, set9]
        refine wpAnyH_ready (rs := [5]) (by kernel_rfl) (by simp) (AllReadyH.cons (by simp only [get9]; rfl) (fun K hK => ?_) AllReadyH.nil)
        have T1 : Hid (Mvs (World.drew (World.alloc W4 (.cells #[] 43))) (some ⟨g, 0, none⟩) i (x.moves.take i)) := Lib.hid ((SB0.out.box.moves.items Mv.enc_len).take9 (by omega))
        refine step_app_someI _ Mv.enc_len (by omega) Mv.cells (by rfl) (.tmp 34) (.tmp 38) 25 (by rfl) 43 i1 (.agg #[.int .i64 0, .bool false, .int .i64 0, .int .i64 0]) 32 Tryz.underlying25 HI1.out.1 HI1.out.2.1 HI1.out.2.2.1 HI1.out.2.2.2 rfl (by rfl) OE.out (by rfl) T1.out (by omega) (by omega) BE.out.size ?_
        intro g7 y7 w7 ho7 hg7 hw7
        have B7 : Hid (Below W4.heap.size W4 w7) := Lib.hid (BE.out.grown hg7 BE.out.size (fun r' e' => by cases e'; exact Nat.le_refl _))
        have O7 : Hid (OwnM 43 w7 W4.heap.size (some ⟨g7, 0, none⟩) i y7 (x.moves.take i)) := Lib.hid (by rw [Nat.zero_add, List.nil_append] at ho7; exact ho7)
        have S7 := Lib.hid (HS4.out.same B7.out)
        have N7 : 0 + i = i := Nat.zero_add i
        clear ho7 hg7 hw7
        simp only [N7]
        clear N7
        refine hK.out _ _ trivial (fun hHeld => ?_)
        clear hK K
        try simp only [Act.put, set9]
        refine wpAnyH_ready (rs := [11]) (by kernel_rfl) (by simp) (AllReadyH.cons (by simp only [get9]; rfl) (fun K hK => ?_) AllReadyH.nil)
        have T2 : Hid (Mvs w7 (some ⟨g, 0, none⟩) 0 (x.moves.drop (i + 1))) := Lib.hid (by
       have hl : x.moves.drop (i + 1) = [] := List.drop_eq_nil_of_le (by omega)
       rw [hl]
       exact ⟨rfl, by omega, fun j9 x9 h9 => by simp at h9⟩)
        refine step_app_someI _ Mv.enc_len (by omega) Mv.cells (by rfl) (.tmp 39) (.tmp 44) 25 (by rfl) 43 i1 (.agg #[.int .i64 0, .bool false, .int .i64 0, .int .i64 0]) 32 Tryz.underlying25 HI1.out.1 HI1.out.2.1 HI1.out.2.2.1 HI1.out.2.2.2 rfl (by rfl) O7.out (by rfl) T2.out (by omega) (by omega) B7.out.size ?_
        intro g8 y8 w8 ho8 hg8 hw8
        have hg7s := (O7.out.span _ rfl).1
        have B8 : Hid (Below W4.heap.size W4 w8) := Lib.hid (B7.out.grown hg8 B7.out.size (fun r' e' => by cases e'; exact hg7s))
        have hg8w : W4.heap.size ≤ g8 := (ho8.span _ rfl).1
        have HNM := Lib.hid (HS4.out.box.newM B8.out (ho8.lower (by omega)) hg8w)
        have SF := Lib.hid (HS4.out.mod HNM.out.1 HNM.out.2)
        have h8 : w8.heap[GB]? = some (.cells #[.int .i64 x.st, .slice p k r, .slice (some ⟨g, 0, none⟩) m (i + 1)] 27 (0, 0)) := (B8.out.block GB HS4.out.box.lt).trans HS4.out.box.heap
        obtain ⟨h80, h81, h82, k80, k81, k82⟩ := three_cells h8
        clear ho8 hg8 hw8 h8
        refine hK.out _ _ trivial (fun hHeld => ?_)
        clear hK K
        try simp only [Act.put, set9]
        refine wpAnyH_take (i := 12) (v := ?v50) (by simp only [get9]; rfl) (by kernel_rfl) (by kernel_rfl) (by kernel_rfl) (by exact fun _ _ _ h => h) (Or.inl ⟨by rfl, fun w9 hS9 => ?hy50⟩) hHeld ?rest50
        case hy50 =>
         dsimp only at hS9
         skip
         go_simp
         try with_reducible rfl
        try simp only [Act.put, set9]
        refine wpAnyH_ready (rs := [13]) (by kernel_rfl) (by simp) (AllReadyH.cons (by simp only [get9]; rfl) (fun K hK => ?_) AllReadyH.nil)
        go_simp
        refine hK.out _ _ trivial (fun hHeld => ?_)
        clear hK K
        try simp only [Act.put, set9]
        refine wpAnyH_done (by kernel_rfl) ?_ _
        clear h80 h81 h82 k80 k81 k82
        go_wp2_with fail
        go_roundw
        case rel => exact ⟨j', _, p, k, r, _, _, _, by go_num, by omega, SF.out, Lib.hid (HO.out.cut i)⟩
        case measure => simp [intOf]
    ·have f0 : (y == 0) = false := by simp [n0]
     by_cases n1 : y = 1
     ·subst n1
      obtain ⟨c0, c1, c2, c3⟩ := CZ.out
      obtain ⟨e0, e1, e2, -, -, -⟩ := three_cells HS4.out.box.heap
      have G5 := Lib.hid (heap_alloc_new W4 (.cells #[.int .i64 z.frm, .bool z.send, .int .i64 z.msg, .int .i64 z.to] 43 (0, 0)))
      change Hid ((W4.alloc (.cells #[.int .i64 z.frm, .bool z.send, .int .i64 z.msg, .int .i64 z.to] 43)).heap[W4.heap.size]? = _) at G5
      have S5 := Lib.hid (HS4.out.same (alloc_same W4 (.cells #[.int .i64 z.frm, .bool z.send, .int .i64 z.msg, .int .i64 z.to] 43)))
      have hs45 : W4.heap.size < (W4.alloc (.cells #[.int .i64 z.frm, .bool z.send, .int .i64 z.msg, .int .i64 z.to] 43)).heap.size := by simp
      go_wp2_with fail
      clear c0 c1 c2 c3 e0 e1 e2
      obtain ⟨Gm, hGm⟩ : ∃ u, u = W4.heap.size := ⟨_, rfl⟩
      have hpG : Hid (∀ ad, p = some ad → ad.block ≠ Gm) := Lib.hid fun ad e => by have := (HS4.out.box.ends.span ad e).2; omega
      have hqG : Hid (∀ ad, some (⟨g, 0, none⟩ : Addr) = some ad → ad.block ≠ Gm) := Lib.hid fun ad e => by have := (HS4.out.box.moves.span ad e).2; omega
      rw [← hGm] at G5
      rw [← hGm]
      have hGm2 : GB < Gm := by omega
      have hGm3 : W4.heap.size ≤ Gm := by omega
      clear hGm
      generalize W4.alloc (.cells #[.int .i64 z.frm, .bool z.send, .int .i64 z.msg, .int .i64 z.to] 43) = W5 at *
      refine (below_any b a n c 4 (by omega) (by omega) _ S5.out.dr.1).mono ?_
      rintro e w6 ⟨y2, hy20, hy21, rfl, hd6⟩
      have S6 := Lib.hid (S5.out.only hd6)
      have G6 := Lib.hid ((hd6.2.block Gm (Array.getElem?_eq_some_iff.1 G5.out).1 (by omega)).trans G5.out)
      clear hd6
      obtain ⟨c0, c1, c2, c3⟩ := four_at9 G6.out
      have f2 := block_frozen G6.out 2
      have G7 := Lib.hid (heap_setCell_same w6 Gm 2 _ _ (.int .i64 y2) G6.out)
      have S7 := Lib.hid (S6.out.put1 (Gm := Gm) hpG.out hqG.out (by omega) (by omega) 2 (.int .i64 y2))
      replace G7 : Hid ((w6.setCell ⟨Gm, 2, none⟩ (.int .i64 y2)).heap[Gm]? = some (.cells #[.int .i64 z.frm, .bool z.send, .int .i64 y2, .int .i64 z.to] 43 (0, 0))) := Lib.hid G7.out
      obtain ⟨d0, d1, d2, d3⟩ := four_at9 G7.out
      obtain ⟨e0, e1, e2, -, -, -⟩ := three_cells S7.out.box.heap
      go_wp2_with fail
      clear c0 c1 c2 c3 f2 d0 d1 d2 d3 e0 e1 e2
      generalize w6.setCell ⟨Gm, 2, none⟩ (.int .i64 y2) = W7 at *
      refine (specMoveOf_any z.frm z.send y2 S7.out.box.mac).mono ?_
      rintro e w8 ⟨rfl, hb8⟩
      have S8 := Lib.hid (S7.out.same hb8)
      have G8 := Lib.hid ((hb8.block Gm (Array.getElem?_eq_some_iff.1 G7.out).1).trans G7.out)
      clear hb8
      by_cases hneg : moveOf x z.frm z.send y2 < 0
      ·obtain ⟨c0, c1, c2, c3⟩ := four_at9 G8.out
       obtain ⟨e0, e1, e2, g0, g1, g2⟩ := three_cells S8.out.box.heap
       have S9 := Lib.hid (S8.out.same (alloc_same w8 (.cells #[.int .i64 z.frm, .bool z.send, .int .i64 y2, .int .i64 z.to] 43)))
       have HN : Hid (Mvs (w8.alloc (.cells #[.int .i64 z.frm, .bool z.send, .int .i64 y2, .int .i64 z.to] 43)) (some ⟨w8.heap.size, 0, none⟩) 1 [⟨z.frm, z.send, y2, z.to⟩]) := Lib.hid (items_new (enc := Mv.enc) (s := 4) Mv.enc_len w8 ⟨z.frm, z.send, y2, z.to⟩ 43)
       have hs9 : SB ≤ (w8.alloc (.cells #[.int .i64 z.frm, .bool z.send, .int .i64 y2, .int .i64 z.to] 43)).heap.size := by have := S9.out.box.base; have := S9.out.box.lt; omega
       go_wp2_with (at_builtin; refine wpl_appW _ Mv.enc_len (by omega) Mv.cells rfl (.tmp 67) (.tmp 69) 25 rfl 43 i1 (.agg #[.int .i64 0, .bool false, .int .i64 0, .int .i64 0]) 32 Tryz.underlying25 HI1.out.1 HI1.out.2.1 HI1.out.2.2.1 HI1.out.2.2.2 rfl rfl S9.out.box.moves rfl HN.out (by omega) ?ca ?cb ?_)
       case ca => omega
       case cb => exact hs9
       intro q7 y7 w9 ho7 hg7 hw7
       have HP := Lib.hid (S9.out.box.pushM ho7 hg7 hw7)
       have SP := Lib.hid (S9.out.mod HP.out.1 HP.out.2)
       have h7 : w9.heap[GB]? = some (.cells #[.int .i64 x.st, .slice p k r, .slice (some ⟨g, 0, none⟩) m d] 27 (0, 0)) := (hg7.block GB S9.out.box.lt (fun e => by obtain ⟨ad, f1, f2⟩ := block_of e.symm; exact S9.out.box.qG ad f1 f2)).trans S9.out.box.heap
       obtain ⟨h70, h71, h72, k70, k71, k72⟩ := three_cells h7
       clear ho7 hg7 hw7 h7 e0 e1 e2 g0 g1 g2 c0 c1 c2 c3 hs9
       go_wp2_with fail
       go_roundw
       case rel => exact ⟨j', _, p, k, r, _, _, _, by go_num, by omega, SP.out, Lib.hid (HO.out.push (y := ⟨z.frm, z.send, y2, z.to⟩) ⟨by unfold I64; dsimp only; omega, HZM.out.2⟩)⟩
       case measure => simp [intOf]
      ·have hneg2 : decide (moveOf x z.frm z.send y2 < 0) = false := decide_eq_false hneg
       go_wp2_with fail
       go_roundw
       case rel => exact ⟨j', x, p, k, r, (some ⟨g, 0, none⟩), m, d, by go_num, by omega, S8.out, Lib.hid (HO.out.less)⟩
       case measure => simp [intOf]
     ·have f1 : (y == 1) = false := by simp [n1]
      by_cases n2 : y = 2
      ·subst n2
       have DS : Hid (St b a n c WA WA.heap.size SA SA SB GB #[.int .i64 xa.st, .slice pa ka ra, .slice qa ma da] xa W4.drew x p k r (some ⟨g, 0, none⟩) m d) := Lib.hid (HS4.out.same (Below.refl _ W4).drew)
       go_wp2_with fail
       refine wp_region_held_drew (S := fun w9 => w9.cell? ⟨GB, 0, none⟩ = some (.int .i64 x.st) ∧ w9.cell? ⟨GB, 2, none⟩ = some (.slice (some ⟨g, 0, none⟩) m d)) (by kernel_rfl) ⟨(three_cells DS.out.box.heap).1, (three_cells DS.out.box.heap).2.2.1⟩ (fun hHeld => ?_)
       refine wpAnyH_take (i := 0) (v := ?v51) (by simp only [get9]; rfl) (by kernel_rfl) (by kernel_rfl) (by kernel_rfl) (by exact fun _ _ _ h => h) (Or.inl ⟨by rfl, fun w9 hS9 => ?hy51⟩) hHeld ?rest51
       case hy51 =>
        dsimp only at hS9
        obtain ⟨q0, q2⟩ := hS9
        go_simp
        try with_reducible rfl
       try simp only [Act.put, set9]
       refine wpAnyH_take (i := 1) (v := ?v52) (by simp only [get9]; rfl) (by kernel_rfl) (by kernel_rfl) (by kernel_rfl) (by exact fun _ _ _ h => h) (Or.inl ⟨by rfl, fun w9 hS9 => ?hy52⟩) hHeld ?rest52
       case hy52 =>
        dsimp only at hS9
        obtain ⟨q0, q2⟩ := hS9
        go_simp
        try with_reducible rfl
       try simp only [Act.put, set9]
       refine wpAnyH_take (i := 2) (v := ?v53) (by simp only [get9]; rfl) (by kernel_rfl) (by kernel_rfl) (by kernel_rfl) (by exact fun _ _ _ h => h) (Or.inl ⟨by rfl, fun w9 hS9 => ?hy53⟩) hHeld ?rest53
       case hy53 =>
        dsimp only at hS9
        obtain ⟨q0, q2⟩ := hS9
        go_simp
        try with_reducible rfl
       try simp only [Act.put, set9]
       refine wpAnyH_take (i := 3) (v := ?v54) (by simp only [get9]; rfl) (by kernel_rfl) (by kernel_rfl) (by kernel_rfl) (by exact fun _ _ _ h => h) (Or.inl ⟨by rfl, fun w9 hS9 => ?hy54⟩) hHeld ?rest54
       case hy54 =>
        dsimp only at hS9
        obtain ⟨q0, q2⟩ := hS9
        go_simp
        try with_reducible rfl
       try simp only [Act.put, set9]
       refine wpAnyH_take (i := 4) (v := ?v55) (by simp only [get9]; rfl) (by kernel_rfl) (by kernel_rfl) (by kernel_rfl) (by exact fun _ _ _ h => h) (Or.inl ⟨by rfl, fun w9 hS9 => ?hy55⟩) hHeld ?rest55
       case hy55 =>
        dsimp only at hS9
        obtain ⟨q0, q2⟩ := hS9
        go_simp
        try with_reducible rfl
       try simp only [Act.put, set9]
       refine wpAnyH_take (i := 5) (v := ?v56) (by simp only [get9]; rfl) (by kernel_rfl) (by kernel_rfl) (by kernel_rfl) (by exact fun _ _ _ h => h) (Or.inl ⟨by rfl, fun w9 hS9 => ?hy56⟩) hHeld ?rest56
       case hy56 =>
        dsimp only at hS9
        obtain ⟨q0, q2⟩ := hS9
        go_simp
        try with_reducible rfl
       try simp only [Act.put, set9]
       refine wpAnyH_ready (rs := [6]) (by kernel_rfl) (by simp) (AllReadyH.cons (by simp only [get9]; rfl) (fun K hK => ?_) AllReadyH.nil)
       go_simp
       refine (below_any b a n c x.st (by omega) (by omega) W4.drew DS.out.dr.1).mono ?_
       rintro e v5 ⟨z5, hz50, hz51, rfl, hd5⟩
       have S5 := Lib.hid (DS.out.only hd5)
       clear hd5
       go_wp2_with fail
       refine hK.out _ _ ⟨(three_cells S5.out.box.heap).1, (three_cells S5.out.box.heap).2.2.1⟩ (fun hHeld => ?_)
       clear hK K
       try simp only [Act.put, set9]
       refine wpAnyH_take (i := 7) (v := ?v57) (by simp only [get9]; rfl) (by kernel_rfl) (by kernel_rfl) (by kernel_rfl) (by exact fun _ _ _ h => h) (Or.inl ⟨by rfl, fun w9 hS9 => ?hy57⟩) hHeld ?rest57
       case hy57 =>
        dsimp only at hS9
        obtain ⟨q0, q2⟩ := hS9
        go_simp
        try with_reducible rfl
       try simp only [Act.put, set9]
       refine wpAnyH_take (i := 8) (v := ?v58) (by simp only [get9]; rfl) (by kernel_rfl) (by kernel_rfl) (by kernel_rfl) (by exact fun _ _ _ h => h) (Or.inl ⟨by rfl, fun w9 hS9 => ?hy58⟩) hHeld ?rest58
       case hy58 =>
        dsimp only at hS9
        obtain ⟨q0, q2⟩ := hS9
        go_simp
        try with_reducible rfl
       try simp only [Act.put, set9]
       refine wpAnyH_ready (rs := [9]) (by kernel_rfl) (by simp) (AllReadyH.cons (by simp only [get9]; rfl) (fun K hK => ?_) AllReadyH.nil)
       obtain ⟨u5, hu5⟩ := own_cell3 S5.out.box hil 3 (by omega)
       have hf5 := S5.out.box.moves.row.frozenAt (i * 4 + 3)
       have HP := Lib.hid (S5.out.box.putM (i := 3) (y := ⟨z.frm, z.send, z.msg, z5⟩) (v := .int .i64 z5) HZ.out (by omega) rfl)
       have SP := Lib.hid (S5.out.mod HP.out.1 HP.out.2)
       go_simp
       refine hK.out _ _ ⟨(three_cells SP.out.box.heap).1, (three_cells SP.out.box.heap).2.2.1⟩ (fun hHeld => ?_)
       clear hK K
       try simp only [Act.put, set9]
       refine wpAnyH_done (by kernel_rfl) ?_ _
       go_wp2_with fail
       go_roundw
       case rel => exact ⟨j', _, p, k, r, _, _, _, by go_num, by omega, SP.out, Lib.hid (HO.out.set i (y := ⟨z.frm, z.send, z.msg, z5⟩) ⟨HZM.out.1, by unfold I64; dsimp only; omega⟩)⟩
       case measure => simp [intOf]
      ·have f2 : (y == 2) = false := by simp [n2]
       go_wp2_with fail
       go_roundw
       case rel => exact ⟨j', x, p, k, r, (some ⟨g, 0, none⟩), m, d, by go_num, by omega, HS4.out, Lib.hid (HO.out.less)⟩
       case measure => simp [intOf]
end Go.Proofs.YtckmgbobkffabaaGreat
namespace Go.Proofs.YtckmgbobkffabaaGreat
open Go.ChangeShapes Go.WideShapes Go.ChangeAt Go.RowKit
set_option linter.unusedVariables false
set_option linter.unusedSimpArgs false

/-- Two machines, each in a box too, and the cursor. -/
structure St2 (b : Nat) (a : Option Addr) (n c : Nat) (WA : World) (S GA GB : Nat) (ca cb : Array Value) (xa xb : Mac) (wr : World) : Prop where
 ownA : OwnMac S wr WA.heap.size (.agg ca) xa
 ownB : OwnMac S wr WA.heap.size (.agg cb) xb
 ga : wr.heap[GA]? = some (.cells ca 27 (0, 0))
 gb : wr.heap[GB]? = some (.cells cb 27 (0, 0))
 dr : Drawn b a n c WA wr
 c1 : b < WA.heap.size
 c2 : WA.heap.size ≤ GA
 c3 : WA.heap.size ≤ GB
section
variable {b : Nat} {a : Option Addr} {n c : Nat} {WA : World} {S GA GB : Nat} {ca cb : Array Value} {xa xb : Mac} {wr w' : World}
theorem St2.only (h : St2 b a n c WA S GA GB ca cb xa xb wr) (hd : Drawn b a n c wr w') : St2 b a n c WA S GA GB ca cb xa xb w' := by
 have h1 := h.c1
 have h2 := h.c2
 have h3 := h.c3
 exact ⟨h.ownA.onlyC hd.2 h1, h.ownB.onlyC hd.2 h1, (hd.2.block GA (Array.getElem?_eq_some_iff.1 h.ga).1 (by omega)).trans h.ga, (hd.2.block GB (Array.getElem?_eq_some_iff.1 h.gb).1 (by omega)).trans h.gb, h.dr.trans hd, h1, h2, h3⟩
theorem St2.same (h : St2 b a n c WA S GA GB ca cb xa xb wr) (hb : Below wr.heap.size wr w') : St2 b a n c WA S GA GB ca cb xa xb w' :=
 ⟨h.ownA.same hb, h.ownB.same hb, (hb.block GA (Array.getElem?_eq_some_iff.1 h.ga).1).trans h.ga, (hb.block GB (Array.getElem?_eq_some_iff.1 h.gb).1).trans h.gb, h.dr.same hb, h.c1, h.c2, h.c3⟩
end
theorem leave2 {b : Nat} {a : Option Addr} {n c : Nat} {w WA wr w' : World} {S1 S2 B1 B2 : Nat} {v v' : Value} {x x' : Mac} (h1 : OwnMac S1 wr B1 v x) (h2 : OwnMac S2 wr B2 v' x') (hB1 : WA.heap.size ≤ B1) (hB2 : WA.heap.size ≤ B2) (dr : Drawn b a n c WA wr) (hc : Curs w b a n c) (hal : Below w.heap.size w WA)
  (hA : w.heap.size + 2 ≤ WA.heap.size) (hi : Inside w.heap.size (w.heap.size + 2) wr w') (hx : OkP x) (hx' : OkP x') : DrewPair b a n c w (.returned (.tuple #[v, v'])) w' := by
 have hsz := hi.size
 have hw := dr.2.size
 have e1 : S1 ≤ wr.heap.size := by
  obtain ⟨_, _, _, _, _, _, _, _, _, _, _, _, h6, _⟩ := h1
  exact h6
 have e2 : S2 ≤ wr.heap.size := by
  obtain ⟨_, _, _, _, _, _, _, _, _, _, _, _, h6, _⟩ := h2
  exact h6
 have hb9 : Below w.heap.size wr w' := ⟨hi.os, hi.tape, hi.output, hi.size, fun k hk => hi.block k (by omega) (Or.inl hk)⟩
 exact ⟨_, x, _, x', rfl, ((h1.aside hi (Or.inl (by omega))).lower (by omega)).upper (by omega) (Nat.le_refl _), hx, ((h2.aside hi (Or.inl (by omega))).lower (by omega)).upper (by omega) (Nat.le_refl _), hx', (((Drawn.refl hc).same hal).trans dr).under hc hb9 (Nat.le_refl _)⟩
def DrewTwo (w : World) (e : Ending) (w' : World) : Prop :=
 ∃ v x v' x', e = .returned (.tuple #[v, v']) ∧ OwnMac w'.heap.size w' w.heap.size v x ∧ OkP x ∧ OwnMac w'.heap.size w' w.heap.size v' x' ∧ OkP x' ∧ Below w.heap.size w w'
set_option maxHeartbeats 8000000 in
set_option maxRecDepth 100000 in
theorem l14Any_any (b : Nat) (a : Option Addr) (n c : Nat) (w : World) (hc : Curs w b a n c) :
  Calls Tryz.prog 27 #[.pointer (some ⟨b, 0, none⟩)] w (DrewPair b a n c w) := by
 have hblt := hc.lt
 obtain ⟨hAL, hR0, hR1, hS⟩ := twice w #[.int .i64 0, .slice none 0 0, .slice none 0 0] #[.int .i64 0, .slice none 0 0, .slice none 0 0] 27 27
 have HAL := Lib.hid hAL
 have HR0 := Lib.hid hR0
 have HR1 := Lib.hid hR1
 have HC := Lib.hid (hc.same hAL)
 have HCW := Lib.hid hc
 have hsA : w.heap.size + 2 ≤ ((w.alloc (.cells #[.int .i64 0, .slice none 0 0, .slice none 0 0] 27)).alloc (.cells #[.int .i64 0, .slice none 0 0, .slice none 0 0] 27)).heap.size := by omega
 clear hc hAL hR0 hR1 hS
 go_enter Tryz.func27, Tryz.ntmps27
 go_wp2_with fail
 generalize (w.alloc (.cells #[.int .i64 0, .slice none 0 0, .slice none 0 0] 27)).alloc (.cells #[.int .i64 0, .slice none 0 0, .slice none 0 0] 27) = WA at *
 refine (l14Pair_any b a n c _ HC.out).mono ?_
 rintro e w1 ⟨va, xa, vb, xb, rfl, hoa, hka, hob, hkb, hd1⟩
 obtain ⟨pa, ka, ra, qa, ma, da, rfl⟩ := hoa.shape
 obtain ⟨pb, kb, rb, qb, mb, db, rfl⟩ := hob.shape
 have HKA := Lib.hid hka
 have HKB := Lib.hid hkb
 have hs1 := hd1.2.size
 obtain ⟨hBB, hX, hY, hS2⟩ := twice w1 #[.int .i64 xa.st, .slice pa ka ra, .slice qa ma da] #[.int .i64 xb.st, .slice pb kb rb, .slice qb mb db] 27 27
 have HS0 : Hid (St2 b a n c WA w1.heap.size w1.heap.size (w1.heap.size + 1) #[.int .i64 xa.st, .slice pa ka ra, .slice qa ma da] #[.int .i64 xb.st, .slice pb kb rb, .slice qb mb db] xa xb ((w1.alloc (.cells #[.int .i64 xa.st, .slice pa ka ra, .slice qa ma da] 27)).alloc (.cells #[.int .i64 xb.st, .slice pb kb rb, .slice qb mb db] 27))) := Lib.hid ⟨hoa.same hBB, hob.same hBB, hX, hY, hd1.same hBB, by omega, hs1, by omega⟩
 have HIX : Hid (w1.heap.size + 2 = ((w1.alloc (.cells #[.int .i64 xa.st, .slice pa ka ra, .slice qa ma da] 27)).alloc (.cells #[.int .i64 xb.st, .slice pb kb rb, .slice qb mb db] 27)).heap.size) := Lib.hid hS2.symm
 clear hoa hob hka hkb hd1 hBB hX hY hS2
 go_wp2_with fail
 generalize (w1.alloc (.cells #[.int .i64 xa.st, .slice pa ka ra, .slice qa ma da] 27)).alloc (.cells #[.int .i64 xb.st, .slice pb kb rb, .slice qb mb db] 27) = W2 at *
 obtain ⟨S, hSe⟩ : ∃ u, u = w1.heap.size := ⟨_, rfl⟩
 obtain ⟨GB, hGBe⟩ : ∃ u, u = w1.heap.size + 1 := ⟨_, rfl⟩
 rw [← hGBe, ← hSe] at HS0
 rw [← hGBe, ← hSe]
 clear hSe hGBe HIX hs1
 refine (below_any b a n c 6 (by omega) (by omega) _ HS0.out.dr.1).mono ?_
 rintro e W4 ⟨y, hy0, hy1, rfl, hd4⟩
 have HS := Lib.hid (HS0.out.only hd4)
 clear hd4 HS0
 have hsw := HS.out.dr.2.size
 have hbx1 := HS.out.c1
 have hbx2 := HS.out.c2
 have hbx3 := HS.out.c3
 have Z0 : Hid (W4.heap[w.heap.size]? = _) := Lib.hid ((HS.out.dr.2.block w.heap.size (by omega) (by omega)).trans HR0.out)
 have Z1 : Hid (W4.heap[w.heap.size + 1]? = _) := Lib.hid ((HS.out.dr.2.block (w.heap.size + 1) (by omega) (by omega)).trans HR1.out)
 have EA := Lib.hid (three_cells HS.out.ga)
 have EB := Lib.hid (three_cells HS.out.gb)
 by_cases n0 : y = 0
 ·subst n0
  have DS : Hid (St2 b a n c WA S S GB #[.int .i64 xa.st, .slice pa ka ra, .slice qa ma da] #[.int .i64 xb.st, .slice pb kb rb, .slice qb mb db] xa xb W4.drew) := Lib.hid (HS.out.same (Below.refl _ W4).drew)
  go_wp2_with fail
  refine wp_region_held_drew (S := fun w9 => w9.cell? ⟨S, 0, none⟩ = some (.int .i64 xa.st) ∧ w9.cell? ⟨S, 1, none⟩ = some (.slice pa ka ra) ∧ w9.cell? ⟨S, 2, none⟩ = some (.slice qa ma da) ∧ w9.cell? ⟨GB, 0, none⟩ = some (.int .i64 xb.st) ∧ w9.cell? ⟨GB, 1, none⟩ = some (.slice pb kb rb) ∧ w9.cell? ⟨GB, 2, none⟩ = some (.slice qb mb db)) (by kernel_rfl) ⟨EA.out.1, EA.out.2.1, EA.out.2.2.1, EB.out.1, EB.out.2.1, EB.out.2.2.1⟩ (fun hHeld => ?_)
  refine wpAnyH_take (i := 0) (v := ?v3) (by simp only [get9]; rfl) (by kernel_rfl) (by kernel_rfl) (by kernel_rfl) (by exact fun _ _ _ h => h) (Or.inl ⟨by rfl, fun w9 hS9 => ?hy3⟩) hHeld ?rest3
  case hy3 =>
   dsimp only at hS9
   obtain ⟨u0, u1, u2, u3, u4, u5⟩ := hS9
   go_simp
   try with_reducible rfl
  try simp only [Act.put, set9]
  refine wpAnyH_take (i := 1) (v := ?v4) (by simp only [get9]; rfl) (by kernel_rfl) (by kernel_rfl) (by kernel_rfl) (by exact fun _ _ _ h => h) (Or.inl ⟨by rfl, fun w9 hS9 => ?hy4⟩) hHeld ?rest4
  case hy4 =>
   dsimp only at hS9
   obtain ⟨u0, u1, u2, u3, u4, u5⟩ := hS9
   go_simp
   try with_reducible rfl
  try simp only [Act.put, set9]
  refine wpAnyH_ready (rs := [2]) (by kernel_rfl) (by simp) (AllReadyH.cons (by simp only [get9]; rfl) (fun K hK => ?_) AllReadyH.nil)
  go_simp
  refine (l13Any_any b a n c _ DS.out.dr.1).mono ?_
  rintro e v5 ⟨vc, xc, rfl, hoc, hkc, hd5⟩
  obtain ⟨pc, kc, rc, qc, mc, dc, rfl⟩ := hoc.shape
  have S5 := Lib.hid (DS.out.only hd5)
  have HOC := Lib.hid hoc
  have HKC := Lib.hid hkc
  have h45 : W4.heap.size ≤ v5.heap.size := hd5.2.size
  have h45b : W4.heap.size ≤ W4.drew.heap.size := Nat.le_refl _
  have Z05 : Hid (v5.heap[w.heap.size]? = _) := Lib.hid ((hd5.2.block w.heap.size (by omega) (by omega)).trans Z0.out)
  have Z15 : Hid (v5.heap[w.heap.size + 1]? = _) := Lib.hid ((hd5.2.block (w.heap.size + 1) (by omega) (by omega)).trans Z1.out)
  have EA5 := Lib.hid (three_cells S5.out.ga)
  have EB5 := Lib.hid (three_cells S5.out.gb)
  have FK5 : Hid ((v5).cell? ⟨S, 0, none⟩ = some (.int .i64 xa.st) ∧ (v5).cell? ⟨S, 1, none⟩ = some (.slice pa ka ra) ∧ (v5).cell? ⟨S, 2, none⟩ = some (.slice qa ma da) ∧ (v5).cell? ⟨GB, 0, none⟩ = some (.int .i64 xb.st) ∧ (v5).cell? ⟨GB, 1, none⟩ = some (.slice pb kb rb) ∧ (v5).cell? ⟨GB, 2, none⟩ = some (.slice qb mb db)) := Lib.hid ⟨EA5.out.1, EA5.out.2.1, EA5.out.2.2.1, EB5.out.1, EB5.out.2.1, EB5.out.2.2.1⟩
  clear hoc hkc hd5
  go_wp2_with fail
  refine hK.out _ _ FK5.out (fun hHeld => ?_)
  clear hK K
  try simp only [Act.put, set9]
  refine wpAnyH_ready (rs := [3]) (by kernel_rfl) (by simp) (AllReadyH.cons (by simp only [get9]; rfl) (fun K hK => ?_) AllReadyH.nil)
  have HGW0 : Hid (v5.grownBy (((v5.setCell ⟨w.heap.size, 0, none⟩ (.int .i64 xa.st)).setCell ⟨w.heap.size, 1, none⟩ (.slice pa ka ra)).setCell ⟨w.heap.size, 2, none⟩ (.slice qa ma da)) (some (w.heap.size))) := Lib.hid (((put_grown _ _ _ _).trans (put_grown _ _ _ _)).trans (put_grown _ _ _ _))
  have Z1B : Hid ((((v5.setCell ⟨w.heap.size, 0, none⟩ (.int .i64 xa.st)).setCell ⟨w.heap.size, 1, none⟩ (.slice pa ka ra)).setCell ⟨w.heap.size, 2, none⟩ (.slice qa ma da)).heap[w.heap.size + 1]? = _) := Lib.hid ((HGW0.out.block (w.heap.size + 1) (by omega) (by simp)).trans Z15.out)
  have FK0 : Hid (((((v5.setCell ⟨w.heap.size, 0, none⟩ (.int .i64 xa.st)).setCell ⟨w.heap.size, 1, none⟩ (.slice pa ka ra)).setCell ⟨w.heap.size, 2, none⟩ (.slice qa ma da))).cell? ⟨S, 0, none⟩ = some (.int .i64 xa.st) ∧ ((((v5.setCell ⟨w.heap.size, 0, none⟩ (.int .i64 xa.st)).setCell ⟨w.heap.size, 1, none⟩ (.slice pa ka ra)).setCell ⟨w.heap.size, 2, none⟩ (.slice qa ma da))).cell? ⟨S, 1, none⟩ = some (.slice pa ka ra) ∧ ((((v5.setCell ⟨w.heap.size, 0, none⟩ (.int .i64 xa.st)).setCell ⟨w.heap.size, 1, none⟩ (.slice pa ka ra)).setCell ⟨w.heap.size, 2, none⟩ (.slice qa ma da))).cell? ⟨S, 2, none⟩ = some (.slice qa ma da) ∧ ((((v5.setCell ⟨w.heap.size, 0, none⟩ (.int .i64 xa.st)).setCell ⟨w.heap.size, 1, none⟩ (.slice pa ka ra)).setCell ⟨w.heap.size, 2, none⟩ (.slice qa ma da))).cell? ⟨GB, 0, none⟩ = some (.int .i64 xb.st) ∧ ((((v5.setCell ⟨w.heap.size, 0, none⟩ (.int .i64 xa.st)).setCell ⟨w.heap.size, 1, none⟩ (.slice pa ka ra)).setCell ⟨w.heap.size, 2, none⟩ (.slice qa ma da))).cell? ⟨GB, 1, none⟩ = some (.slice pb kb rb) ∧ ((((v5.setCell ⟨w.heap.size, 0, none⟩ (.int .i64 xa.st)).setCell ⟨w.heap.size, 1, none⟩ (.slice pa ka ra)).setCell ⟨w.heap.size, 2, none⟩ (.slice qa ma da))).cell? ⟨GB, 2, none⟩ = some (.slice qb mb db)) := Lib.hid ⟨cell_apart FK5.out.1 HGW0.out (by simp; omega), cell_apart FK5.out.2.1 HGW0.out (by simp; omega), cell_apart FK5.out.2.2.1 HGW0.out (by simp; omega), cell_apart FK5.out.2.2.2.1 HGW0.out (by simp; omega), cell_apart FK5.out.2.2.2.2.1 HGW0.out (by simp; omega), cell_apart FK5.out.2.2.2.2.2 HGW0.out (by simp; omega)⟩
  have FD0 : Hid ((World.drew (((v5.setCell ⟨w.heap.size, 0, none⟩ (.int .i64 xa.st)).setCell ⟨w.heap.size, 1, none⟩ (.slice pa ka ra)).setCell ⟨w.heap.size, 2, none⟩ (.slice qa ma da))).cell? ⟨S, 0, none⟩ = some (.int .i64 xa.st) ∧ (World.drew (((v5.setCell ⟨w.heap.size, 0, none⟩ (.int .i64 xa.st)).setCell ⟨w.heap.size, 1, none⟩ (.slice pa ka ra)).setCell ⟨w.heap.size, 2, none⟩ (.slice qa ma da))).cell? ⟨S, 1, none⟩ = some (.slice pa ka ra) ∧ (World.drew (((v5.setCell ⟨w.heap.size, 0, none⟩ (.int .i64 xa.st)).setCell ⟨w.heap.size, 1, none⟩ (.slice pa ka ra)).setCell ⟨w.heap.size, 2, none⟩ (.slice qa ma da))).cell? ⟨S, 2, none⟩ = some (.slice qa ma da) ∧ (World.drew (((v5.setCell ⟨w.heap.size, 0, none⟩ (.int .i64 xa.st)).setCell ⟨w.heap.size, 1, none⟩ (.slice pa ka ra)).setCell ⟨w.heap.size, 2, none⟩ (.slice qa ma da))).cell? ⟨GB, 0, none⟩ = some (.int .i64 xb.st) ∧ (World.drew (((v5.setCell ⟨w.heap.size, 0, none⟩ (.int .i64 xa.st)).setCell ⟨w.heap.size, 1, none⟩ (.slice pa ka ra)).setCell ⟨w.heap.size, 2, none⟩ (.slice qa ma da))).cell? ⟨GB, 1, none⟩ = some (.slice pb kb rb) ∧ (World.drew (((v5.setCell ⟨w.heap.size, 0, none⟩ (.int .i64 xa.st)).setCell ⟨w.heap.size, 1, none⟩ (.slice pa ka ra)).setCell ⟨w.heap.size, 2, none⟩ (.slice qa ma da))).cell? ⟨GB, 2, none⟩ = some (.slice qb mb db)) := Lib.hid (by simp only [cell_drew9]; exact FK0.out)
  obtain ⟨f0, f1, f2, g0, g1, g2⟩ := three_cells Z05.out
  have HP0 := Lib.hid (three_put Z05.out (.int .i64 xa.st) (.slice pa ka ra) (.slice qa ma da))
  go_simp
  clear f0 f1 f2 g0 g1 g2
  refine hK.out _ _ FK0.out (fun hHeld => ?_)
  clear hK K
  try simp only [Act.put, set9]
  refine wpAnyH_ready (rs := [4]) (by kernel_rfl) (by simp) (AllReadyH.cons (by simp only [get9]; rfl) (fun K hK => ?_) AllReadyH.nil)
  have HGW1 : Hid ((((v5.setCell ⟨w.heap.size, 0, none⟩ (.int .i64 xa.st)).setCell ⟨w.heap.size, 1, none⟩ (.slice pa ka ra)).setCell ⟨w.heap.size, 2, none⟩ (.slice qa ma da)).grownBy ((((((v5.setCell ⟨w.heap.size, 0, none⟩ (.int .i64 xa.st)).setCell ⟨w.heap.size, 1, none⟩ (.slice pa ka ra)).setCell ⟨w.heap.size, 2, none⟩ (.slice qa ma da)).setCell ⟨w.heap.size + 1, 0, none⟩ (.int .i64 xc.st)).setCell ⟨w.heap.size + 1, 1, none⟩ (.slice pc kc rc)).setCell ⟨w.heap.size + 1, 2, none⟩ (.slice qc mc dc)) (some (w.heap.size + 1))) := Lib.hid (((put_grown _ _ _ _).trans (put_grown _ _ _ _)).trans (put_grown _ _ _ _))
  have FK1 : Hid ((((((((v5.setCell ⟨w.heap.size, 0, none⟩ (.int .i64 xa.st)).setCell ⟨w.heap.size, 1, none⟩ (.slice pa ka ra)).setCell ⟨w.heap.size, 2, none⟩ (.slice qa ma da)).setCell ⟨w.heap.size + 1, 0, none⟩ (.int .i64 xc.st)).setCell ⟨w.heap.size + 1, 1, none⟩ (.slice pc kc rc)).setCell ⟨w.heap.size + 1, 2, none⟩ (.slice qc mc dc))).cell? ⟨S, 0, none⟩ = some (.int .i64 xa.st) ∧ (((((((v5.setCell ⟨w.heap.size, 0, none⟩ (.int .i64 xa.st)).setCell ⟨w.heap.size, 1, none⟩ (.slice pa ka ra)).setCell ⟨w.heap.size, 2, none⟩ (.slice qa ma da)).setCell ⟨w.heap.size + 1, 0, none⟩ (.int .i64 xc.st)).setCell ⟨w.heap.size + 1, 1, none⟩ (.slice pc kc rc)).setCell ⟨w.heap.size + 1, 2, none⟩ (.slice qc mc dc))).cell? ⟨S, 1, none⟩ = some (.slice pa ka ra) ∧ (((((((v5.setCell ⟨w.heap.size, 0, none⟩ (.int .i64 xa.st)).setCell ⟨w.heap.size, 1, none⟩ (.slice pa ka ra)).setCell ⟨w.heap.size, 2, none⟩ (.slice qa ma da)).setCell ⟨w.heap.size + 1, 0, none⟩ (.int .i64 xc.st)).setCell ⟨w.heap.size + 1, 1, none⟩ (.slice pc kc rc)).setCell ⟨w.heap.size + 1, 2, none⟩ (.slice qc mc dc))).cell? ⟨S, 2, none⟩ = some (.slice qa ma da) ∧ (((((((v5.setCell ⟨w.heap.size, 0, none⟩ (.int .i64 xa.st)).setCell ⟨w.heap.size, 1, none⟩ (.slice pa ka ra)).setCell ⟨w.heap.size, 2, none⟩ (.slice qa ma da)).setCell ⟨w.heap.size + 1, 0, none⟩ (.int .i64 xc.st)).setCell ⟨w.heap.size + 1, 1, none⟩ (.slice pc kc rc)).setCell ⟨w.heap.size + 1, 2, none⟩ (.slice qc mc dc))).cell? ⟨GB, 0, none⟩ = some (.int .i64 xb.st) ∧ (((((((v5.setCell ⟨w.heap.size, 0, none⟩ (.int .i64 xa.st)).setCell ⟨w.heap.size, 1, none⟩ (.slice pa ka ra)).setCell ⟨w.heap.size, 2, none⟩ (.slice qa ma da)).setCell ⟨w.heap.size + 1, 0, none⟩ (.int .i64 xc.st)).setCell ⟨w.heap.size + 1, 1, none⟩ (.slice pc kc rc)).setCell ⟨w.heap.size + 1, 2, none⟩ (.slice qc mc dc))).cell? ⟨GB, 1, none⟩ = some (.slice pb kb rb) ∧ (((((((v5.setCell ⟨w.heap.size, 0, none⟩ (.int .i64 xa.st)).setCell ⟨w.heap.size, 1, none⟩ (.slice pa ka ra)).setCell ⟨w.heap.size, 2, none⟩ (.slice qa ma da)).setCell ⟨w.heap.size + 1, 0, none⟩ (.int .i64 xc.st)).setCell ⟨w.heap.size + 1, 1, none⟩ (.slice pc kc rc)).setCell ⟨w.heap.size + 1, 2, none⟩ (.slice qc mc dc))).cell? ⟨GB, 2, none⟩ = some (.slice qb mb db)) := Lib.hid ⟨cell_apart FK0.out.1 HGW1.out (by simp; omega), cell_apart FK0.out.2.1 HGW1.out (by simp; omega), cell_apart FK0.out.2.2.1 HGW1.out (by simp; omega), cell_apart FK0.out.2.2.2.1 HGW1.out (by simp; omega), cell_apart FK0.out.2.2.2.2.1 HGW1.out (by simp; omega), cell_apart FK0.out.2.2.2.2.2 HGW1.out (by simp; omega)⟩
  have FD1 : Hid ((World.drew ((((((v5.setCell ⟨w.heap.size, 0, none⟩ (.int .i64 xa.st)).setCell ⟨w.heap.size, 1, none⟩ (.slice pa ka ra)).setCell ⟨w.heap.size, 2, none⟩ (.slice qa ma da)).setCell ⟨w.heap.size + 1, 0, none⟩ (.int .i64 xc.st)).setCell ⟨w.heap.size + 1, 1, none⟩ (.slice pc kc rc)).setCell ⟨w.heap.size + 1, 2, none⟩ (.slice qc mc dc))).cell? ⟨S, 0, none⟩ = some (.int .i64 xa.st) ∧ (World.drew ((((((v5.setCell ⟨w.heap.size, 0, none⟩ (.int .i64 xa.st)).setCell ⟨w.heap.size, 1, none⟩ (.slice pa ka ra)).setCell ⟨w.heap.size, 2, none⟩ (.slice qa ma da)).setCell ⟨w.heap.size + 1, 0, none⟩ (.int .i64 xc.st)).setCell ⟨w.heap.size + 1, 1, none⟩ (.slice pc kc rc)).setCell ⟨w.heap.size + 1, 2, none⟩ (.slice qc mc dc))).cell? ⟨S, 1, none⟩ = some (.slice pa ka ra) ∧ (World.drew ((((((v5.setCell ⟨w.heap.size, 0, none⟩ (.int .i64 xa.st)).setCell ⟨w.heap.size, 1, none⟩ (.slice pa ka ra)).setCell ⟨w.heap.size, 2, none⟩ (.slice qa ma da)).setCell ⟨w.heap.size + 1, 0, none⟩ (.int .i64 xc.st)).setCell ⟨w.heap.size + 1, 1, none⟩ (.slice pc kc rc)).setCell ⟨w.heap.size + 1, 2, none⟩ (.slice qc mc dc))).cell? ⟨S, 2, none⟩ = some (.slice qa ma da) ∧ (World.drew ((((((v5.setCell ⟨w.heap.size, 0, none⟩ (.int .i64 xa.st)).setCell ⟨w.heap.size, 1, none⟩ (.slice pa ka ra)).setCell ⟨w.heap.size, 2, none⟩ (.slice qa ma da)).setCell ⟨w.heap.size + 1, 0, none⟩ (.int .i64 xc.st)).setCell ⟨w.heap.size + 1, 1, none⟩ (.slice pc kc rc)).setCell ⟨w.heap.size + 1, 2, none⟩ (.slice qc mc dc))).cell? ⟨GB, 0, none⟩ = some (.int .i64 xb.st) ∧ (World.drew ((((((v5.setCell ⟨w.heap.size, 0, none⟩ (.int .i64 xa.st)).setCell ⟨w.heap.size, 1, none⟩ (.slice pa ka ra)).setCell ⟨w.heap.size, 2, none⟩ (.slice qa ma da)).setCell ⟨w.heap.size + 1, 0, none⟩ (.int .i64 xc.st)).setCell ⟨w.heap.size + 1, 1, none⟩ (.slice pc kc rc)).setCell ⟨w.heap.size + 1, 2, none⟩ (.slice qc mc dc))).cell? ⟨GB, 1, none⟩ = some (.slice pb kb rb) ∧ (World.drew ((((((v5.setCell ⟨w.heap.size, 0, none⟩ (.int .i64 xa.st)).setCell ⟨w.heap.size, 1, none⟩ (.slice pa ka ra)).setCell ⟨w.heap.size, 2, none⟩ (.slice qa ma da)).setCell ⟨w.heap.size + 1, 0, none⟩ (.int .i64 xc.st)).setCell ⟨w.heap.size + 1, 1, none⟩ (.slice pc kc rc)).setCell ⟨w.heap.size + 1, 2, none⟩ (.slice qc mc dc))).cell? ⟨GB, 2, none⟩ = some (.slice qb mb db)) := Lib.hid (by simp only [cell_drew9]; exact FK1.out)
  obtain ⟨f0, f1, f2, g0, g1, g2⟩ := three_cells Z1B.out
  have HP1 := Lib.hid (three_put Z1B.out (.int .i64 xc.st) (.slice pc kc rc) (.slice qc mc dc))
  go_simp
  clear f0 f1 f2 g0 g1 g2
  refine hK.out _ _ FK1.out (fun hHeld => ?_)
  clear hK K
  try simp only [Act.put, set9]
  refine wpAnyH_done (by kernel_rfl) ?_ _
  have HZ0 : Hid (((((((v5.setCell ⟨w.heap.size, 0, none⟩ (.int .i64 xa.st)).setCell ⟨w.heap.size, 1, none⟩ (.slice pa ka ra)).setCell ⟨w.heap.size, 2, none⟩ (.slice qa ma da)).setCell ⟨w.heap.size + 1, 0, none⟩ (.int .i64 xc.st)).setCell ⟨w.heap.size + 1, 1, none⟩ (.slice pc kc rc)).setCell ⟨w.heap.size + 1, 2, none⟩ (.slice qc mc dc)).heap[w.heap.size]? = _) := Lib.hid ((HGW1.out.block w.heap.size (by have := HGW0.out.size; omega) (by simp)).trans HP0.out.2.2.2)
  have HZ1 := Lib.hid HP1.out.2.2.2
  have HIN : Hid (Inside w.heap.size (w.heap.size + 2) v5 ((((((v5.setCell ⟨w.heap.size, 0, none⟩ (.int .i64 xa.st)).setCell ⟨w.heap.size, 1, none⟩ (.slice pa ka ra)).setCell ⟨w.heap.size, 2, none⟩ (.slice qa ma da)).setCell ⟨w.heap.size + 1, 0, none⟩ (.int .i64 xc.st)).setCell ⟨w.heap.size + 1, 1, none⟩ (.slice pc kc rc)).setCell ⟨w.heap.size + 1, 2, none⟩ (.slice qc mc dc))) := Lib.hid ((Inside.row HGW0.out (fun r' e' => by cases e'; omega)).trans (Inside.row HGW1.out (fun r' e' => by cases e'; omega)))
  clear HP0 HP1 HGW0 HGW1 Z1B FK0 FK1 FD0 FD1
  obtain ⟨f0, f1, f2, -, -, -⟩ := three_cells HZ0.out
  obtain ⟨g0, g1, g2, -, -, -⟩ := three_cells HZ1.out
  go_wp2_with fail
  (try simp only [Exit.inBlock, Exit.then])
  refine bodyPost_ret (by simp [results, Tryz.results27, go_sem, f0, f1, f2, g0, g1, g2]; try rfl) rfl ?_
  exact leave2 S5.out.ownA HOC.out (by omega) (by omega) S5.out.dr HCW.out HAL.out hsA HIN.out HKA.out HKC.out.p
 ·have f0 : (y == 0) = false := by simp [n0]
  by_cases n1 : y = 1
  ·subst n1
   have DS : Hid (St2 b a n c WA S S GB #[.int .i64 xa.st, .slice pa ka ra, .slice qa ma da] #[.int .i64 xb.st, .slice pb kb rb, .slice qb mb db] xa xb W4.drew) := Lib.hid (HS.out.same (Below.refl _ W4).drew)
   go_wp2_with fail
   refine wp_region_held_drew (S := fun w9 => w9.cell? ⟨S, 0, none⟩ = some (.int .i64 xa.st) ∧ w9.cell? ⟨S, 1, none⟩ = some (.slice pa ka ra) ∧ w9.cell? ⟨S, 2, none⟩ = some (.slice qa ma da) ∧ w9.cell? ⟨GB, 0, none⟩ = some (.int .i64 xb.st) ∧ w9.cell? ⟨GB, 1, none⟩ = some (.slice pb kb rb) ∧ w9.cell? ⟨GB, 2, none⟩ = some (.slice qb mb db)) (by kernel_rfl) ⟨EA.out.1, EA.out.2.1, EA.out.2.2.1, EB.out.1, EB.out.2.1, EB.out.2.2.1⟩ (fun hHeld => ?_)
   refine wpAnyH_take (i := 0) (v := ?v5) (by simp only [get9]; rfl) (by kernel_rfl) (by kernel_rfl) (by kernel_rfl) (by exact fun _ _ _ h => h) (Or.inl ⟨by rfl, fun w9 hS9 => ?hy5⟩) hHeld ?rest5
   case hy5 =>
    dsimp only at hS9
    obtain ⟨u0, u1, u2, u3, u4, u5⟩ := hS9
    go_simp
    try with_reducible rfl
   try simp only [Act.put, set9]
   refine wpAnyH_take (i := 2) (v := ?v6) (by simp only [get9]; rfl) (by kernel_rfl) (by kernel_rfl) (by kernel_rfl) (by exact fun _ _ _ h => h) (Or.inl ⟨by rfl, fun w9 hS9 => ?hy6⟩) hHeld ?rest6
   case hy6 =>
    dsimp only at hS9
    obtain ⟨u0, u1, u2, u3, u4, u5⟩ := hS9
    go_simp
    try with_reducible rfl
   try simp only [Act.put, set9]
   refine wpAnyH_ready (rs := [1]) (by kernel_rfl) (by simp) (AllReadyH.cons (by simp only [get9]; rfl) (fun K hK => ?_) AllReadyH.nil)
   go_simp
   refine (l13Any_any b a n c _ DS.out.dr.1).mono ?_
   rintro e v5 ⟨vc, xc, rfl, hoc, hkc, hd5⟩
   obtain ⟨pc, kc, rc, qc, mc, dc, rfl⟩ := hoc.shape
   have S5 := Lib.hid (DS.out.only hd5)
   have HOC := Lib.hid hoc
   have HKC := Lib.hid hkc
   have h45 : W4.heap.size ≤ v5.heap.size := hd5.2.size
   have h45b : W4.heap.size ≤ W4.drew.heap.size := Nat.le_refl _
   have Z05 : Hid (v5.heap[w.heap.size]? = _) := Lib.hid ((hd5.2.block w.heap.size (by omega) (by omega)).trans Z0.out)
   have Z15 : Hid (v5.heap[w.heap.size + 1]? = _) := Lib.hid ((hd5.2.block (w.heap.size + 1) (by omega) (by omega)).trans Z1.out)
   have EA5 := Lib.hid (three_cells S5.out.ga)
   have EB5 := Lib.hid (three_cells S5.out.gb)
   have FK5 : Hid ((v5).cell? ⟨S, 0, none⟩ = some (.int .i64 xa.st) ∧ (v5).cell? ⟨S, 1, none⟩ = some (.slice pa ka ra) ∧ (v5).cell? ⟨S, 2, none⟩ = some (.slice qa ma da) ∧ (v5).cell? ⟨GB, 0, none⟩ = some (.int .i64 xb.st) ∧ (v5).cell? ⟨GB, 1, none⟩ = some (.slice pb kb rb) ∧ (v5).cell? ⟨GB, 2, none⟩ = some (.slice qb mb db)) := Lib.hid ⟨EA5.out.1, EA5.out.2.1, EA5.out.2.2.1, EB5.out.1, EB5.out.2.1, EB5.out.2.2.1⟩
   clear hoc hkc hd5
   go_wp2_with fail
   refine hK.out _ _ FK5.out (fun hHeld => ?_)
   clear hK K
   try simp only [Act.put, set9]
   refine wpAnyH_ready (rs := [3]) (by kernel_rfl) (by simp) (AllReadyH.cons (by simp only [get9]; rfl) (fun K hK => ?_) AllReadyH.nil)
   have HGW0 : Hid (v5.grownBy (((v5.setCell ⟨w.heap.size, 0, none⟩ (.int .i64 xc.st)).setCell ⟨w.heap.size, 1, none⟩ (.slice pc kc rc)).setCell ⟨w.heap.size, 2, none⟩ (.slice qc mc dc)) (some (w.heap.size))) := Lib.hid (((put_grown _ _ _ _).trans (put_grown _ _ _ _)).trans (put_grown _ _ _ _))
   have Z1B : Hid ((((v5.setCell ⟨w.heap.size, 0, none⟩ (.int .i64 xc.st)).setCell ⟨w.heap.size, 1, none⟩ (.slice pc kc rc)).setCell ⟨w.heap.size, 2, none⟩ (.slice qc mc dc)).heap[w.heap.size + 1]? = _) := Lib.hid ((HGW0.out.block (w.heap.size + 1) (by omega) (by simp)).trans Z15.out)
   have FK0 : Hid (((((v5.setCell ⟨w.heap.size, 0, none⟩ (.int .i64 xc.st)).setCell ⟨w.heap.size, 1, none⟩ (.slice pc kc rc)).setCell ⟨w.heap.size, 2, none⟩ (.slice qc mc dc))).cell? ⟨S, 0, none⟩ = some (.int .i64 xa.st) ∧ ((((v5.setCell ⟨w.heap.size, 0, none⟩ (.int .i64 xc.st)).setCell ⟨w.heap.size, 1, none⟩ (.slice pc kc rc)).setCell ⟨w.heap.size, 2, none⟩ (.slice qc mc dc))).cell? ⟨S, 1, none⟩ = some (.slice pa ka ra) ∧ ((((v5.setCell ⟨w.heap.size, 0, none⟩ (.int .i64 xc.st)).setCell ⟨w.heap.size, 1, none⟩ (.slice pc kc rc)).setCell ⟨w.heap.size, 2, none⟩ (.slice qc mc dc))).cell? ⟨S, 2, none⟩ = some (.slice qa ma da) ∧ ((((v5.setCell ⟨w.heap.size, 0, none⟩ (.int .i64 xc.st)).setCell ⟨w.heap.size, 1, none⟩ (.slice pc kc rc)).setCell ⟨w.heap.size, 2, none⟩ (.slice qc mc dc))).cell? ⟨GB, 0, none⟩ = some (.int .i64 xb.st) ∧ ((((v5.setCell ⟨w.heap.size, 0, none⟩ (.int .i64 xc.st)).setCell ⟨w.heap.size, 1, none⟩ (.slice pc kc rc)).setCell ⟨w.heap.size, 2, none⟩ (.slice qc mc dc))).cell? ⟨GB, 1, none⟩ = some (.slice pb kb rb) ∧ ((((v5.setCell ⟨w.heap.size, 0, none⟩ (.int .i64 xc.st)).setCell ⟨w.heap.size, 1, none⟩ (.slice pc kc rc)).setCell ⟨w.heap.size, 2, none⟩ (.slice qc mc dc))).cell? ⟨GB, 2, none⟩ = some (.slice qb mb db)) := Lib.hid ⟨cell_apart FK5.out.1 HGW0.out (by simp; omega), cell_apart FK5.out.2.1 HGW0.out (by simp; omega), cell_apart FK5.out.2.2.1 HGW0.out (by simp; omega), cell_apart FK5.out.2.2.2.1 HGW0.out (by simp; omega), cell_apart FK5.out.2.2.2.2.1 HGW0.out (by simp; omega), cell_apart FK5.out.2.2.2.2.2 HGW0.out (by simp; omega)⟩
   have FD0 : Hid ((World.drew (((v5.setCell ⟨w.heap.size, 0, none⟩ (.int .i64 xc.st)).setCell ⟨w.heap.size, 1, none⟩ (.slice pc kc rc)).setCell ⟨w.heap.size, 2, none⟩ (.slice qc mc dc))).cell? ⟨S, 0, none⟩ = some (.int .i64 xa.st) ∧ (World.drew (((v5.setCell ⟨w.heap.size, 0, none⟩ (.int .i64 xc.st)).setCell ⟨w.heap.size, 1, none⟩ (.slice pc kc rc)).setCell ⟨w.heap.size, 2, none⟩ (.slice qc mc dc))).cell? ⟨S, 1, none⟩ = some (.slice pa ka ra) ∧ (World.drew (((v5.setCell ⟨w.heap.size, 0, none⟩ (.int .i64 xc.st)).setCell ⟨w.heap.size, 1, none⟩ (.slice pc kc rc)).setCell ⟨w.heap.size, 2, none⟩ (.slice qc mc dc))).cell? ⟨S, 2, none⟩ = some (.slice qa ma da) ∧ (World.drew (((v5.setCell ⟨w.heap.size, 0, none⟩ (.int .i64 xc.st)).setCell ⟨w.heap.size, 1, none⟩ (.slice pc kc rc)).setCell ⟨w.heap.size, 2, none⟩ (.slice qc mc dc))).cell? ⟨GB, 0, none⟩ = some (.int .i64 xb.st) ∧ (World.drew (((v5.setCell ⟨w.heap.size, 0, none⟩ (.int .i64 xc.st)).setCell ⟨w.heap.size, 1, none⟩ (.slice pc kc rc)).setCell ⟨w.heap.size, 2, none⟩ (.slice qc mc dc))).cell? ⟨GB, 1, none⟩ = some (.slice pb kb rb) ∧ (World.drew (((v5.setCell ⟨w.heap.size, 0, none⟩ (.int .i64 xc.st)).setCell ⟨w.heap.size, 1, none⟩ (.slice pc kc rc)).setCell ⟨w.heap.size, 2, none⟩ (.slice qc mc dc))).cell? ⟨GB, 2, none⟩ = some (.slice qb mb db)) := Lib.hid (by simp only [cell_drew9]; exact FK0.out)
   obtain ⟨f0, f1, f2, g0, g1, g2⟩ := three_cells Z05.out
   have HP0 := Lib.hid (three_put Z05.out (.int .i64 xc.st) (.slice pc kc rc) (.slice qc mc dc))
   go_simp
   clear f0 f1 f2 g0 g1 g2
   refine hK.out _ _ FK0.out (fun hHeld => ?_)
   clear hK K
   try simp only [Act.put, set9]
   refine wpAnyH_ready (rs := [4]) (by kernel_rfl) (by simp) (AllReadyH.cons (by simp only [get9]; rfl) (fun K hK => ?_) AllReadyH.nil)
   have HGW1 : Hid ((((v5.setCell ⟨w.heap.size, 0, none⟩ (.int .i64 xc.st)).setCell ⟨w.heap.size, 1, none⟩ (.slice pc kc rc)).setCell ⟨w.heap.size, 2, none⟩ (.slice qc mc dc)).grownBy ((((((v5.setCell ⟨w.heap.size, 0, none⟩ (.int .i64 xc.st)).setCell ⟨w.heap.size, 1, none⟩ (.slice pc kc rc)).setCell ⟨w.heap.size, 2, none⟩ (.slice qc mc dc)).setCell ⟨w.heap.size + 1, 0, none⟩ (.int .i64 xb.st)).setCell ⟨w.heap.size + 1, 1, none⟩ (.slice pb kb rb)).setCell ⟨w.heap.size + 1, 2, none⟩ (.slice qb mb db)) (some (w.heap.size + 1))) := Lib.hid (((put_grown _ _ _ _).trans (put_grown _ _ _ _)).trans (put_grown _ _ _ _))
   have FK1 : Hid ((((((((v5.setCell ⟨w.heap.size, 0, none⟩ (.int .i64 xc.st)).setCell ⟨w.heap.size, 1, none⟩ (.slice pc kc rc)).setCell ⟨w.heap.size, 2, none⟩ (.slice qc mc dc)).setCell ⟨w.heap.size + 1, 0, none⟩ (.int .i64 xb.st)).setCell ⟨w.heap.size + 1, 1, none⟩ (.slice pb kb rb)).setCell ⟨w.heap.size + 1, 2, none⟩ (.slice qb mb db))).cell? ⟨S, 0, none⟩ = some (.int .i64 xa.st) ∧ (((((((v5.setCell ⟨w.heap.size, 0, none⟩ (.int .i64 xc.st)).setCell ⟨w.heap.size, 1, none⟩ (.slice pc kc rc)).setCell ⟨w.heap.size, 2, none⟩ (.slice qc mc dc)).setCell ⟨w.heap.size + 1, 0, none⟩ (.int .i64 xb.st)).setCell ⟨w.heap.size + 1, 1, none⟩ (.slice pb kb rb)).setCell ⟨w.heap.size + 1, 2, none⟩ (.slice qb mb db))).cell? ⟨S, 1, none⟩ = some (.slice pa ka ra) ∧ (((((((v5.setCell ⟨w.heap.size, 0, none⟩ (.int .i64 xc.st)).setCell ⟨w.heap.size, 1, none⟩ (.slice pc kc rc)).setCell ⟨w.heap.size, 2, none⟩ (.slice qc mc dc)).setCell ⟨w.heap.size + 1, 0, none⟩ (.int .i64 xb.st)).setCell ⟨w.heap.size + 1, 1, none⟩ (.slice pb kb rb)).setCell ⟨w.heap.size + 1, 2, none⟩ (.slice qb mb db))).cell? ⟨S, 2, none⟩ = some (.slice qa ma da) ∧ (((((((v5.setCell ⟨w.heap.size, 0, none⟩ (.int .i64 xc.st)).setCell ⟨w.heap.size, 1, none⟩ (.slice pc kc rc)).setCell ⟨w.heap.size, 2, none⟩ (.slice qc mc dc)).setCell ⟨w.heap.size + 1, 0, none⟩ (.int .i64 xb.st)).setCell ⟨w.heap.size + 1, 1, none⟩ (.slice pb kb rb)).setCell ⟨w.heap.size + 1, 2, none⟩ (.slice qb mb db))).cell? ⟨GB, 0, none⟩ = some (.int .i64 xb.st) ∧ (((((((v5.setCell ⟨w.heap.size, 0, none⟩ (.int .i64 xc.st)).setCell ⟨w.heap.size, 1, none⟩ (.slice pc kc rc)).setCell ⟨w.heap.size, 2, none⟩ (.slice qc mc dc)).setCell ⟨w.heap.size + 1, 0, none⟩ (.int .i64 xb.st)).setCell ⟨w.heap.size + 1, 1, none⟩ (.slice pb kb rb)).setCell ⟨w.heap.size + 1, 2, none⟩ (.slice qb mb db))).cell? ⟨GB, 1, none⟩ = some (.slice pb kb rb) ∧ (((((((v5.setCell ⟨w.heap.size, 0, none⟩ (.int .i64 xc.st)).setCell ⟨w.heap.size, 1, none⟩ (.slice pc kc rc)).setCell ⟨w.heap.size, 2, none⟩ (.slice qc mc dc)).setCell ⟨w.heap.size + 1, 0, none⟩ (.int .i64 xb.st)).setCell ⟨w.heap.size + 1, 1, none⟩ (.slice pb kb rb)).setCell ⟨w.heap.size + 1, 2, none⟩ (.slice qb mb db))).cell? ⟨GB, 2, none⟩ = some (.slice qb mb db)) := Lib.hid ⟨cell_apart FK0.out.1 HGW1.out (by simp; omega), cell_apart FK0.out.2.1 HGW1.out (by simp; omega), cell_apart FK0.out.2.2.1 HGW1.out (by simp; omega), cell_apart FK0.out.2.2.2.1 HGW1.out (by simp; omega), cell_apart FK0.out.2.2.2.2.1 HGW1.out (by simp; omega), cell_apart FK0.out.2.2.2.2.2 HGW1.out (by simp; omega)⟩
   have FD1 : Hid ((World.drew ((((((v5.setCell ⟨w.heap.size, 0, none⟩ (.int .i64 xc.st)).setCell ⟨w.heap.size, 1, none⟩ (.slice pc kc rc)).setCell ⟨w.heap.size, 2, none⟩ (.slice qc mc dc)).setCell ⟨w.heap.size + 1, 0, none⟩ (.int .i64 xb.st)).setCell ⟨w.heap.size + 1, 1, none⟩ (.slice pb kb rb)).setCell ⟨w.heap.size + 1, 2, none⟩ (.slice qb mb db))).cell? ⟨S, 0, none⟩ = some (.int .i64 xa.st) ∧ (World.drew ((((((v5.setCell ⟨w.heap.size, 0, none⟩ (.int .i64 xc.st)).setCell ⟨w.heap.size, 1, none⟩ (.slice pc kc rc)).setCell ⟨w.heap.size, 2, none⟩ (.slice qc mc dc)).setCell ⟨w.heap.size + 1, 0, none⟩ (.int .i64 xb.st)).setCell ⟨w.heap.size + 1, 1, none⟩ (.slice pb kb rb)).setCell ⟨w.heap.size + 1, 2, none⟩ (.slice qb mb db))).cell? ⟨S, 1, none⟩ = some (.slice pa ka ra) ∧ (World.drew ((((((v5.setCell ⟨w.heap.size, 0, none⟩ (.int .i64 xc.st)).setCell ⟨w.heap.size, 1, none⟩ (.slice pc kc rc)).setCell ⟨w.heap.size, 2, none⟩ (.slice qc mc dc)).setCell ⟨w.heap.size + 1, 0, none⟩ (.int .i64 xb.st)).setCell ⟨w.heap.size + 1, 1, none⟩ (.slice pb kb rb)).setCell ⟨w.heap.size + 1, 2, none⟩ (.slice qb mb db))).cell? ⟨S, 2, none⟩ = some (.slice qa ma da) ∧ (World.drew ((((((v5.setCell ⟨w.heap.size, 0, none⟩ (.int .i64 xc.st)).setCell ⟨w.heap.size, 1, none⟩ (.slice pc kc rc)).setCell ⟨w.heap.size, 2, none⟩ (.slice qc mc dc)).setCell ⟨w.heap.size + 1, 0, none⟩ (.int .i64 xb.st)).setCell ⟨w.heap.size + 1, 1, none⟩ (.slice pb kb rb)).setCell ⟨w.heap.size + 1, 2, none⟩ (.slice qb mb db))).cell? ⟨GB, 0, none⟩ = some (.int .i64 xb.st) ∧ (World.drew ((((((v5.setCell ⟨w.heap.size, 0, none⟩ (.int .i64 xc.st)).setCell ⟨w.heap.size, 1, none⟩ (.slice pc kc rc)).setCell ⟨w.heap.size, 2, none⟩ (.slice qc mc dc)).setCell ⟨w.heap.size + 1, 0, none⟩ (.int .i64 xb.st)).setCell ⟨w.heap.size + 1, 1, none⟩ (.slice pb kb rb)).setCell ⟨w.heap.size + 1, 2, none⟩ (.slice qb mb db))).cell? ⟨GB, 1, none⟩ = some (.slice pb kb rb) ∧ (World.drew ((((((v5.setCell ⟨w.heap.size, 0, none⟩ (.int .i64 xc.st)).setCell ⟨w.heap.size, 1, none⟩ (.slice pc kc rc)).setCell ⟨w.heap.size, 2, none⟩ (.slice qc mc dc)).setCell ⟨w.heap.size + 1, 0, none⟩ (.int .i64 xb.st)).setCell ⟨w.heap.size + 1, 1, none⟩ (.slice pb kb rb)).setCell ⟨w.heap.size + 1, 2, none⟩ (.slice qb mb db))).cell? ⟨GB, 2, none⟩ = some (.slice qb mb db)) := Lib.hid (by simp only [cell_drew9]; exact FK1.out)
   obtain ⟨f0, f1, f2, g0, g1, g2⟩ := three_cells Z1B.out
   have HP1 := Lib.hid (three_put Z1B.out (.int .i64 xb.st) (.slice pb kb rb) (.slice qb mb db))
   go_simp
   clear f0 f1 f2 g0 g1 g2
   refine hK.out _ _ FK1.out (fun hHeld => ?_)
   clear hK K
   try simp only [Act.put, set9]
   refine wpAnyH_done (by kernel_rfl) ?_ _
   have HZ0 : Hid (((((((v5.setCell ⟨w.heap.size, 0, none⟩ (.int .i64 xc.st)).setCell ⟨w.heap.size, 1, none⟩ (.slice pc kc rc)).setCell ⟨w.heap.size, 2, none⟩ (.slice qc mc dc)).setCell ⟨w.heap.size + 1, 0, none⟩ (.int .i64 xb.st)).setCell ⟨w.heap.size + 1, 1, none⟩ (.slice pb kb rb)).setCell ⟨w.heap.size + 1, 2, none⟩ (.slice qb mb db)).heap[w.heap.size]? = _) := Lib.hid ((HGW1.out.block w.heap.size (by have := HGW0.out.size; omega) (by simp)).trans HP0.out.2.2.2)
   have HZ1 := Lib.hid HP1.out.2.2.2
   have HIN : Hid (Inside w.heap.size (w.heap.size + 2) v5 ((((((v5.setCell ⟨w.heap.size, 0, none⟩ (.int .i64 xc.st)).setCell ⟨w.heap.size, 1, none⟩ (.slice pc kc rc)).setCell ⟨w.heap.size, 2, none⟩ (.slice qc mc dc)).setCell ⟨w.heap.size + 1, 0, none⟩ (.int .i64 xb.st)).setCell ⟨w.heap.size + 1, 1, none⟩ (.slice pb kb rb)).setCell ⟨w.heap.size + 1, 2, none⟩ (.slice qb mb db))) := Lib.hid ((Inside.row HGW0.out (fun r' e' => by cases e'; omega)).trans (Inside.row HGW1.out (fun r' e' => by cases e'; omega)))
   clear HP0 HP1 HGW0 HGW1 Z1B FK0 FK1 FD0 FD1
   obtain ⟨f0, f1, f2, -, -, -⟩ := three_cells HZ0.out
   obtain ⟨g0, g1, g2, -, -, -⟩ := three_cells HZ1.out
   go_wp2_with fail
   (try simp only [Exit.inBlock, Exit.then])
   refine bodyPost_ret (by simp [results, Tryz.results27, go_sem, f0, f1, f2, g0, g1, g2]; try rfl) rfl ?_
   exact leave2 HOC.out S5.out.ownB (by omega) (by omega) S5.out.dr HCW.out HAL.out hsA HIN.out HKC.out.p HKB.out
  ·have f1 : (y == 1) = false := by simp [n1]
   have FK : Hid ((W4).cell? ⟨S, 0, none⟩ = some (.int .i64 xa.st) ∧ (W4).cell? ⟨S, 1, none⟩ = some (.slice pa ka ra) ∧ (W4).cell? ⟨S, 2, none⟩ = some (.slice qa ma da) ∧ (W4).cell? ⟨GB, 0, none⟩ = some (.int .i64 xb.st) ∧ (W4).cell? ⟨GB, 1, none⟩ = some (.slice pb kb rb) ∧ (W4).cell? ⟨GB, 2, none⟩ = some (.slice qb mb db)) := Lib.hid ⟨EA.out.1, EA.out.2.1, EA.out.2.2.1, EB.out.1, EB.out.2.1, EB.out.2.2.1⟩
   go_wp2_with fail
   refine wp_region_held_drew (S := fun w9 => w9.cell? ⟨S, 0, none⟩ = some (.int .i64 xa.st) ∧ w9.cell? ⟨S, 1, none⟩ = some (.slice pa ka ra) ∧ w9.cell? ⟨S, 2, none⟩ = some (.slice qa ma da) ∧ w9.cell? ⟨GB, 0, none⟩ = some (.int .i64 xb.st) ∧ w9.cell? ⟨GB, 1, none⟩ = some (.slice pb kb rb) ∧ w9.cell? ⟨GB, 2, none⟩ = some (.slice qb mb db)) (by kernel_rfl) ⟨EA.out.1, EA.out.2.1, EA.out.2.2.1, EB.out.1, EB.out.2.1, EB.out.2.2.1⟩ (fun hHeld => ?_)
   refine wpAnyH_take (i := 0) (v := ?v1) (by simp only [get9]; rfl) (by kernel_rfl) (by kernel_rfl) (by kernel_rfl) (by exact fun _ _ _ h => h) (Or.inl ⟨by rfl, fun w9 hS9 => ?hy1⟩) hHeld ?rest1
   case hy1 =>
    dsimp only at hS9
    obtain ⟨u0, u1, u2, u3, u4, u5⟩ := hS9
    go_simp
    try with_reducible rfl
   try simp only [Act.put, set9]
   refine wpAnyH_take (i := 1) (v := ?v2) (by simp only [get9]; rfl) (by kernel_rfl) (by kernel_rfl) (by kernel_rfl) (by exact fun _ _ _ h => h) (Or.inl ⟨by rfl, fun w9 hS9 => ?hy2⟩) hHeld ?rest2
   case hy2 =>
    dsimp only at hS9
    obtain ⟨u0, u1, u2, u3, u4, u5⟩ := hS9
    go_simp
    try with_reducible rfl
   try simp only [Act.put, set9]
   refine wpAnyH_ready (rs := [2]) (by kernel_rfl) (by simp) (AllReadyH.cons (by simp only [get9]; rfl) (fun K hK => ?_) AllReadyH.nil)
   have HGW0 : Hid (W4.grownBy (((W4.setCell ⟨w.heap.size, 0, none⟩ (.int .i64 xa.st)).setCell ⟨w.heap.size, 1, none⟩ (.slice pa ka ra)).setCell ⟨w.heap.size, 2, none⟩ (.slice qa ma da)) (some (w.heap.size))) := Lib.hid (((put_grown _ _ _ _).trans (put_grown _ _ _ _)).trans (put_grown _ _ _ _))
   have Z1B : Hid ((((W4.setCell ⟨w.heap.size, 0, none⟩ (.int .i64 xa.st)).setCell ⟨w.heap.size, 1, none⟩ (.slice pa ka ra)).setCell ⟨w.heap.size, 2, none⟩ (.slice qa ma da)).heap[w.heap.size + 1]? = _) := Lib.hid ((HGW0.out.block (w.heap.size + 1) (by omega) (by simp)).trans Z1.out)
   have FK0 : Hid (((((W4.setCell ⟨w.heap.size, 0, none⟩ (.int .i64 xa.st)).setCell ⟨w.heap.size, 1, none⟩ (.slice pa ka ra)).setCell ⟨w.heap.size, 2, none⟩ (.slice qa ma da))).cell? ⟨S, 0, none⟩ = some (.int .i64 xa.st) ∧ ((((W4.setCell ⟨w.heap.size, 0, none⟩ (.int .i64 xa.st)).setCell ⟨w.heap.size, 1, none⟩ (.slice pa ka ra)).setCell ⟨w.heap.size, 2, none⟩ (.slice qa ma da))).cell? ⟨S, 1, none⟩ = some (.slice pa ka ra) ∧ ((((W4.setCell ⟨w.heap.size, 0, none⟩ (.int .i64 xa.st)).setCell ⟨w.heap.size, 1, none⟩ (.slice pa ka ra)).setCell ⟨w.heap.size, 2, none⟩ (.slice qa ma da))).cell? ⟨S, 2, none⟩ = some (.slice qa ma da) ∧ ((((W4.setCell ⟨w.heap.size, 0, none⟩ (.int .i64 xa.st)).setCell ⟨w.heap.size, 1, none⟩ (.slice pa ka ra)).setCell ⟨w.heap.size, 2, none⟩ (.slice qa ma da))).cell? ⟨GB, 0, none⟩ = some (.int .i64 xb.st) ∧ ((((W4.setCell ⟨w.heap.size, 0, none⟩ (.int .i64 xa.st)).setCell ⟨w.heap.size, 1, none⟩ (.slice pa ka ra)).setCell ⟨w.heap.size, 2, none⟩ (.slice qa ma da))).cell? ⟨GB, 1, none⟩ = some (.slice pb kb rb) ∧ ((((W4.setCell ⟨w.heap.size, 0, none⟩ (.int .i64 xa.st)).setCell ⟨w.heap.size, 1, none⟩ (.slice pa ka ra)).setCell ⟨w.heap.size, 2, none⟩ (.slice qa ma da))).cell? ⟨GB, 2, none⟩ = some (.slice qb mb db)) := Lib.hid ⟨cell_apart FK.out.1 HGW0.out (by simp; omega), cell_apart FK.out.2.1 HGW0.out (by simp; omega), cell_apart FK.out.2.2.1 HGW0.out (by simp; omega), cell_apart FK.out.2.2.2.1 HGW0.out (by simp; omega), cell_apart FK.out.2.2.2.2.1 HGW0.out (by simp; omega), cell_apart FK.out.2.2.2.2.2 HGW0.out (by simp; omega)⟩
   have FD0 : Hid ((World.drew (((W4.setCell ⟨w.heap.size, 0, none⟩ (.int .i64 xa.st)).setCell ⟨w.heap.size, 1, none⟩ (.slice pa ka ra)).setCell ⟨w.heap.size, 2, none⟩ (.slice qa ma da))).cell? ⟨S, 0, none⟩ = some (.int .i64 xa.st) ∧ (World.drew (((W4.setCell ⟨w.heap.size, 0, none⟩ (.int .i64 xa.st)).setCell ⟨w.heap.size, 1, none⟩ (.slice pa ka ra)).setCell ⟨w.heap.size, 2, none⟩ (.slice qa ma da))).cell? ⟨S, 1, none⟩ = some (.slice pa ka ra) ∧ (World.drew (((W4.setCell ⟨w.heap.size, 0, none⟩ (.int .i64 xa.st)).setCell ⟨w.heap.size, 1, none⟩ (.slice pa ka ra)).setCell ⟨w.heap.size, 2, none⟩ (.slice qa ma da))).cell? ⟨S, 2, none⟩ = some (.slice qa ma da) ∧ (World.drew (((W4.setCell ⟨w.heap.size, 0, none⟩ (.int .i64 xa.st)).setCell ⟨w.heap.size, 1, none⟩ (.slice pa ka ra)).setCell ⟨w.heap.size, 2, none⟩ (.slice qa ma da))).cell? ⟨GB, 0, none⟩ = some (.int .i64 xb.st) ∧ (World.drew (((W4.setCell ⟨w.heap.size, 0, none⟩ (.int .i64 xa.st)).setCell ⟨w.heap.size, 1, none⟩ (.slice pa ka ra)).setCell ⟨w.heap.size, 2, none⟩ (.slice qa ma da))).cell? ⟨GB, 1, none⟩ = some (.slice pb kb rb) ∧ (World.drew (((W4.setCell ⟨w.heap.size, 0, none⟩ (.int .i64 xa.st)).setCell ⟨w.heap.size, 1, none⟩ (.slice pa ka ra)).setCell ⟨w.heap.size, 2, none⟩ (.slice qa ma da))).cell? ⟨GB, 2, none⟩ = some (.slice qb mb db)) := Lib.hid (by simp only [cell_drew9]; exact FK0.out)
   obtain ⟨f0, f1, f2, g0, g1, g2⟩ := three_cells Z0.out
   have HP0 := Lib.hid (three_put Z0.out (.int .i64 xa.st) (.slice pa ka ra) (.slice qa ma da))
   go_simp
   clear f0 f1 f2 g0 g1 g2
   refine hK.out _ _ FD0.out (fun hHeld => ?_)
   clear hK K
   try simp only [Act.put, set9]
   refine wpAnyH_ready (rs := [3]) (by kernel_rfl) (by simp) (AllReadyH.cons (by simp only [get9]; rfl) (fun K hK => ?_) AllReadyH.nil)
   have HGW1 : Hid ((((W4.setCell ⟨w.heap.size, 0, none⟩ (.int .i64 xa.st)).setCell ⟨w.heap.size, 1, none⟩ (.slice pa ka ra)).setCell ⟨w.heap.size, 2, none⟩ (.slice qa ma da)).grownBy ((((((W4.setCell ⟨w.heap.size, 0, none⟩ (.int .i64 xa.st)).setCell ⟨w.heap.size, 1, none⟩ (.slice pa ka ra)).setCell ⟨w.heap.size, 2, none⟩ (.slice qa ma da)).setCell ⟨w.heap.size + 1, 0, none⟩ (.int .i64 xb.st)).setCell ⟨w.heap.size + 1, 1, none⟩ (.slice pb kb rb)).setCell ⟨w.heap.size + 1, 2, none⟩ (.slice qb mb db)) (some (w.heap.size + 1))) := Lib.hid (((put_grown _ _ _ _).trans (put_grown _ _ _ _)).trans (put_grown _ _ _ _))
   have FK1 : Hid ((((((((W4.setCell ⟨w.heap.size, 0, none⟩ (.int .i64 xa.st)).setCell ⟨w.heap.size, 1, none⟩ (.slice pa ka ra)).setCell ⟨w.heap.size, 2, none⟩ (.slice qa ma da)).setCell ⟨w.heap.size + 1, 0, none⟩ (.int .i64 xb.st)).setCell ⟨w.heap.size + 1, 1, none⟩ (.slice pb kb rb)).setCell ⟨w.heap.size + 1, 2, none⟩ (.slice qb mb db))).cell? ⟨S, 0, none⟩ = some (.int .i64 xa.st) ∧ (((((((W4.setCell ⟨w.heap.size, 0, none⟩ (.int .i64 xa.st)).setCell ⟨w.heap.size, 1, none⟩ (.slice pa ka ra)).setCell ⟨w.heap.size, 2, none⟩ (.slice qa ma da)).setCell ⟨w.heap.size + 1, 0, none⟩ (.int .i64 xb.st)).setCell ⟨w.heap.size + 1, 1, none⟩ (.slice pb kb rb)).setCell ⟨w.heap.size + 1, 2, none⟩ (.slice qb mb db))).cell? ⟨S, 1, none⟩ = some (.slice pa ka ra) ∧ (((((((W4.setCell ⟨w.heap.size, 0, none⟩ (.int .i64 xa.st)).setCell ⟨w.heap.size, 1, none⟩ (.slice pa ka ra)).setCell ⟨w.heap.size, 2, none⟩ (.slice qa ma da)).setCell ⟨w.heap.size + 1, 0, none⟩ (.int .i64 xb.st)).setCell ⟨w.heap.size + 1, 1, none⟩ (.slice pb kb rb)).setCell ⟨w.heap.size + 1, 2, none⟩ (.slice qb mb db))).cell? ⟨S, 2, none⟩ = some (.slice qa ma da) ∧ (((((((W4.setCell ⟨w.heap.size, 0, none⟩ (.int .i64 xa.st)).setCell ⟨w.heap.size, 1, none⟩ (.slice pa ka ra)).setCell ⟨w.heap.size, 2, none⟩ (.slice qa ma da)).setCell ⟨w.heap.size + 1, 0, none⟩ (.int .i64 xb.st)).setCell ⟨w.heap.size + 1, 1, none⟩ (.slice pb kb rb)).setCell ⟨w.heap.size + 1, 2, none⟩ (.slice qb mb db))).cell? ⟨GB, 0, none⟩ = some (.int .i64 xb.st) ∧ (((((((W4.setCell ⟨w.heap.size, 0, none⟩ (.int .i64 xa.st)).setCell ⟨w.heap.size, 1, none⟩ (.slice pa ka ra)).setCell ⟨w.heap.size, 2, none⟩ (.slice qa ma da)).setCell ⟨w.heap.size + 1, 0, none⟩ (.int .i64 xb.st)).setCell ⟨w.heap.size + 1, 1, none⟩ (.slice pb kb rb)).setCell ⟨w.heap.size + 1, 2, none⟩ (.slice qb mb db))).cell? ⟨GB, 1, none⟩ = some (.slice pb kb rb) ∧ (((((((W4.setCell ⟨w.heap.size, 0, none⟩ (.int .i64 xa.st)).setCell ⟨w.heap.size, 1, none⟩ (.slice pa ka ra)).setCell ⟨w.heap.size, 2, none⟩ (.slice qa ma da)).setCell ⟨w.heap.size + 1, 0, none⟩ (.int .i64 xb.st)).setCell ⟨w.heap.size + 1, 1, none⟩ (.slice pb kb rb)).setCell ⟨w.heap.size + 1, 2, none⟩ (.slice qb mb db))).cell? ⟨GB, 2, none⟩ = some (.slice qb mb db)) := Lib.hid ⟨cell_apart FK0.out.1 HGW1.out (by simp; omega), cell_apart FK0.out.2.1 HGW1.out (by simp; omega), cell_apart FK0.out.2.2.1 HGW1.out (by simp; omega), cell_apart FK0.out.2.2.2.1 HGW1.out (by simp; omega), cell_apart FK0.out.2.2.2.2.1 HGW1.out (by simp; omega), cell_apart FK0.out.2.2.2.2.2 HGW1.out (by simp; omega)⟩
   have FD1 : Hid ((World.drew ((((((W4.setCell ⟨w.heap.size, 0, none⟩ (.int .i64 xa.st)).setCell ⟨w.heap.size, 1, none⟩ (.slice pa ka ra)).setCell ⟨w.heap.size, 2, none⟩ (.slice qa ma da)).setCell ⟨w.heap.size + 1, 0, none⟩ (.int .i64 xb.st)).setCell ⟨w.heap.size + 1, 1, none⟩ (.slice pb kb rb)).setCell ⟨w.heap.size + 1, 2, none⟩ (.slice qb mb db))).cell? ⟨S, 0, none⟩ = some (.int .i64 xa.st) ∧ (World.drew ((((((W4.setCell ⟨w.heap.size, 0, none⟩ (.int .i64 xa.st)).setCell ⟨w.heap.size, 1, none⟩ (.slice pa ka ra)).setCell ⟨w.heap.size, 2, none⟩ (.slice qa ma da)).setCell ⟨w.heap.size + 1, 0, none⟩ (.int .i64 xb.st)).setCell ⟨w.heap.size + 1, 1, none⟩ (.slice pb kb rb)).setCell ⟨w.heap.size + 1, 2, none⟩ (.slice qb mb db))).cell? ⟨S, 1, none⟩ = some (.slice pa ka ra) ∧ (World.drew ((((((W4.setCell ⟨w.heap.size, 0, none⟩ (.int .i64 xa.st)).setCell ⟨w.heap.size, 1, none⟩ (.slice pa ka ra)).setCell ⟨w.heap.size, 2, none⟩ (.slice qa ma da)).setCell ⟨w.heap.size + 1, 0, none⟩ (.int .i64 xb.st)).setCell ⟨w.heap.size + 1, 1, none⟩ (.slice pb kb rb)).setCell ⟨w.heap.size + 1, 2, none⟩ (.slice qb mb db))).cell? ⟨S, 2, none⟩ = some (.slice qa ma da) ∧ (World.drew ((((((W4.setCell ⟨w.heap.size, 0, none⟩ (.int .i64 xa.st)).setCell ⟨w.heap.size, 1, none⟩ (.slice pa ka ra)).setCell ⟨w.heap.size, 2, none⟩ (.slice qa ma da)).setCell ⟨w.heap.size + 1, 0, none⟩ (.int .i64 xb.st)).setCell ⟨w.heap.size + 1, 1, none⟩ (.slice pb kb rb)).setCell ⟨w.heap.size + 1, 2, none⟩ (.slice qb mb db))).cell? ⟨GB, 0, none⟩ = some (.int .i64 xb.st) ∧ (World.drew ((((((W4.setCell ⟨w.heap.size, 0, none⟩ (.int .i64 xa.st)).setCell ⟨w.heap.size, 1, none⟩ (.slice pa ka ra)).setCell ⟨w.heap.size, 2, none⟩ (.slice qa ma da)).setCell ⟨w.heap.size + 1, 0, none⟩ (.int .i64 xb.st)).setCell ⟨w.heap.size + 1, 1, none⟩ (.slice pb kb rb)).setCell ⟨w.heap.size + 1, 2, none⟩ (.slice qb mb db))).cell? ⟨GB, 1, none⟩ = some (.slice pb kb rb) ∧ (World.drew ((((((W4.setCell ⟨w.heap.size, 0, none⟩ (.int .i64 xa.st)).setCell ⟨w.heap.size, 1, none⟩ (.slice pa ka ra)).setCell ⟨w.heap.size, 2, none⟩ (.slice qa ma da)).setCell ⟨w.heap.size + 1, 0, none⟩ (.int .i64 xb.st)).setCell ⟨w.heap.size + 1, 1, none⟩ (.slice pb kb rb)).setCell ⟨w.heap.size + 1, 2, none⟩ (.slice qb mb db))).cell? ⟨GB, 2, none⟩ = some (.slice qb mb db)) := Lib.hid (by simp only [cell_drew9]; exact FK1.out)
   obtain ⟨f0, f1, f2, g0, g1, g2⟩ := three_cells Z1B.out
   have HP1 := Lib.hid (three_put Z1B.out (.int .i64 xb.st) (.slice pb kb rb) (.slice qb mb db))
   go_simp
   clear f0 f1 f2 g0 g1 g2
   refine hK.out _ _ FD1.out (fun hHeld => ?_)
   clear hK K
   try simp only [Act.put, set9]
   refine wpAnyH_done (by kernel_rfl) ?_ _
   have HZ0 : Hid (((((((W4.setCell ⟨w.heap.size, 0, none⟩ (.int .i64 xa.st)).setCell ⟨w.heap.size, 1, none⟩ (.slice pa ka ra)).setCell ⟨w.heap.size, 2, none⟩ (.slice qa ma da)).setCell ⟨w.heap.size + 1, 0, none⟩ (.int .i64 xb.st)).setCell ⟨w.heap.size + 1, 1, none⟩ (.slice pb kb rb)).setCell ⟨w.heap.size + 1, 2, none⟩ (.slice qb mb db)).heap[w.heap.size]? = _) := Lib.hid ((HGW1.out.block w.heap.size (by have := HGW0.out.size; omega) (by simp)).trans HP0.out.2.2.2)
   have HZ1 := Lib.hid HP1.out.2.2.2
   have HIN : Hid (Inside w.heap.size (w.heap.size + 2) W4 ((((((W4.setCell ⟨w.heap.size, 0, none⟩ (.int .i64 xa.st)).setCell ⟨w.heap.size, 1, none⟩ (.slice pa ka ra)).setCell ⟨w.heap.size, 2, none⟩ (.slice qa ma da)).setCell ⟨w.heap.size + 1, 0, none⟩ (.int .i64 xb.st)).setCell ⟨w.heap.size + 1, 1, none⟩ (.slice pb kb rb)).setCell ⟨w.heap.size + 1, 2, none⟩ (.slice qb mb db))) := Lib.hid ((Inside.row HGW0.out (fun r' e' => by cases e'; omega)).trans (Inside.row HGW1.out (fun r' e' => by cases e'; omega)))
   clear HP0 HP1 HGW0 HGW1 Z1B FK0 FK1 FD0 FD1
   obtain ⟨f0, f1, f2, -, -, -⟩ := three_cells HZ0.out
   obtain ⟨g0, g1, g2, -, -, -⟩ := three_cells HZ1.out
   go_wp2_with fail
   (try simp only [Exit.inBlock, Exit.then])
   refine bodyPost_ret (by simp [results, Tryz.results27, go_sem, f0, f1, f2, g0, g1, g2]; try rfl) rfl ?_
   exact leave2 HS.out.ownA HS.out.ownB (by omega) (by omega) HS.out.dr HCW.out HAL.out hsA HIN.out.drew HKA.out HKB.out
set_option maxHeartbeats 2000000 in
set_option maxRecDepth 100000 in
theorem drawPairsOf_any (a : Option Addr) (n c : Nat) (w : World) (hC : Code w a n) : Calls Tryz.prog 11 #[.slice a n c] w (DrewTwo w) := by
 obtain ⟨hAL, hR0, hR1, hS⟩ := twice w #[.int .i64 0, .slice none 0 0, .slice none 0 0] #[.int .i64 0, .slice none 0 0, .slice none 0 0] 27 27
 have HAL := Lib.hid hAL
 have HR0 := Lib.hid hR0
 have HR1 := Lib.hid hR1
 have HC := Lib.hid (hC.same hAL)
 have hsA : w.heap.size + 2 ≤ ((w.alloc (.cells #[.int .i64 0, .slice none 0 0, .slice none 0 0] 27)).alloc (.cells #[.int .i64 0, .slice none 0 0, .slice none 0 0] 27)).heap.size := by omega
 clear hC hAL hR0 hR1 hS
 go_enter Tryz.func11, Tryz.ntmps11
 go_wp2_with fail
 generalize (w.alloc (.cells #[.int .i64 0, .slice none 0 0, .slice none 0 0] 27)).alloc (.cells #[.int .i64 0, .slice none 0 0, .slice none 0 0] 27) = WA at *
 refine (new_any a n c HC.out.2 _ HC.out.1).mono ?_
 rintro e w2 ⟨rfl, hcu, hb2⟩
 have HB2 := Lib.hid hb2
 have HCU := Lib.hid hcu
 have hs2 := hb2.size
 clear hcu hb2
 go_wp2_with fail
 refine (l14Any_any _ a n c w2 HCU.out).mono ?_
 rintro e w3 ⟨va, xa, vb, xb, rfl, hoa, hka, hob, hkb, hd3⟩
 have hbw := HB2.out.trans (hd3.2.below (Nat.le_refl _) hs2)
 clear hd3
 obtain ⟨pa, ka, ra, qa, ma, da, rfl⟩ := hoa.shape
 obtain ⟨pb, kb, rb, qb, mb, db, rfl⟩ := hob.shape
 have HKK := Lib.hid (And.intro hka hkb)
 have hz0 := (hbw.block w.heap.size (by omega)).trans HR0.out
 have hz1 := (hbw.block (w.heap.size + 1) (by omega)).trans HR1.out
 obtain ⟨f0, f1, f2, g0, g1, g2⟩ := three_cells hz0
 have hG0 : w3.grownBy (((w3.setCell ⟨w.heap.size, 0, none⟩ (.int .i64 xa.st)).setCell ⟨w.heap.size, 1, none⟩ (.slice pa ka ra)).setCell ⟨w.heap.size, 2, none⟩ (.slice qa ma da)) (some w.heap.size) := ((put_grown _ _ _ _).trans (put_grown _ _ _ _)).trans (put_grown _ _ _ _)
 have hs3 := hbw.size
 have hz1b := (hG0.block (w.heap.size + 1) (by omega) (by simp)).trans hz1
 obtain ⟨k0, k1, k2, l0, l1, l2⟩ := three_cells hz1b
 have hP0 := three_put hz0 (.int .i64 xa.st) (.slice pa ka ra) (.slice qa ma da)
 have hP1 := three_put hz1b (.int .i64 xb.st) (.slice pb kb rb) (.slice qb mb db)
 have hG1 : World.grownBy (((w3.setCell ⟨w.heap.size, 0, none⟩ (.int .i64 xa.st)).setCell ⟨w.heap.size, 1, none⟩ (.slice pa ka ra)).setCell ⟨w.heap.size, 2, none⟩ (.slice qa ma da)) ((((((w3.setCell ⟨w.heap.size, 0, none⟩ (.int .i64 xa.st)).setCell ⟨w.heap.size, 1, none⟩ (.slice pa ka ra)).setCell ⟨w.heap.size, 2, none⟩ (.slice qa ma da)).setCell ⟨w.heap.size + 1, 0, none⟩ (.int .i64 xb.st)).setCell ⟨w.heap.size + 1, 1, none⟩ (.slice pb kb rb)).setCell ⟨w.heap.size + 1, 2, none⟩ (.slice qb mb db)) (some (w.heap.size + 1)) := ((put_grown _ _ _ _).trans (put_grown _ _ _ _)).trans (put_grown _ _ _ _)
 have hZ0 := (hG1.block w.heap.size (by have := hG0.size; omega) (by simp)).trans hP0.2.2.2
 have HZ := Lib.hid (And.intro (three_cells hZ0) (three_cells hP1.2.2.2))
 have HGG := Lib.hid (And.intro hG0 hG1)
 have HBW := Lib.hid hbw
 obtain ⟨t0, t1, t2, -⟩ := hP0
 obtain ⟨t3, t4, t5, -⟩ := hP1
 have HOO := Lib.hid (And.intro hoa hob)
 clear hoa hob hka hkb hbw hz0 hz1 hz1b hG0 hG1 hZ0
 go_wp2_with fail
 obtain ⟨⟨z0, z1, z2, -⟩, y0, y1, y2, -⟩ := HZ.out
 (try simp only [Exit.inBlock, Exit.then])
 refine bodyPost_ret (by simp [results, Tryz.results11, go_sem, z0, z1, z2, y0, y1, y2]; try rfl) rfl ?_
 have hin : Inside w.heap.size (w.heap.size + 2) w3 ((((((w3.setCell ⟨w.heap.size, 0, none⟩ (.int .i64 xa.st)).setCell ⟨w.heap.size, 1, none⟩ (.slice pa ka ra)).setCell ⟨w.heap.size, 2, none⟩ (.slice qa ma da)).setCell ⟨w.heap.size + 1, 0, none⟩ (.int .i64 xb.st)).setCell ⟨w.heap.size + 1, 1, none⟩ (.slice pb kb rb)).setCell ⟨w.heap.size + 1, 2, none⟩ (.slice qb mb db)) := (Inside.row HGG.out.1 (fun r' e' => by cases e'; omega)).trans (Inside.row HGG.out.2 (fun r' e' => by cases e'; omega))
 have hsz := hin.size
 have hww := HAL.out.size
 exact ⟨_, xa, _, xb, rfl, ((HOO.out.1.aside hin (Or.inl (by omega))).lower (by omega)).upper hsz (Nat.le_refl _), HKK.out.1, ((HOO.out.2.aside hin (Or.inl (by omega))).lower (by omega)).upper hsz (Nat.le_refl _), HKK.out.2, hin.to (HAL.out.trans (HBW.out.mono hww)) (Nat.le_refl _) (by omega)⟩
end Go.Proofs.YtckmgbobkffabaaGreat
