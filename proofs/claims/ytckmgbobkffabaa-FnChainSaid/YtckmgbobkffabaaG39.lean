/- A machine that need not be valid is drawn. The dual of a machine, by the program. -/
import Derived.Test.YtckmgbobkffabaaG38
import Derived.Test.YtckmgbobkffabaaG12
import Derived.Test.YtckmgbobkffabaaG11
import Derived.Test.YtckmgbobkffabaaG4
import Derived.Deep.RegionHeld3
import Derived.Test.YtckmgbobkffabaaG1
namespace Go.Proofs.Ytckmgbobkffabaa
open Go.ChangeShapes Go.WideShapes Go.ChangeAt Go.RowKit
set_option linter.unusedVariables false
set_option linter.unusedSimpArgs false

def Ok8 (x : Mac) : Prop := x.ends.length ≤ 4 ∧ x.moves.length ≤ 8 ∧ ∀ z ∈ x.moves, I64 z.msg ∧ I64 z.to
theorem Ok8.mac {x : Mac} (h : Ok8 x) (s : Int) : OkMac ⟨s, x.ends, x.moves⟩ := ⟨by have := h.1; dsimp only; omega, by have := h.2.1; dsimp only; omega, h.2.2⟩
theorem Ok8.set {x : Mac} (h : Ok8 x) (i : Nat) {y : Mv} (hy : I64 y.msg ∧ I64 y.to) : OkMac ⟨x.st, x.ends, x.moves.set i y⟩ :=
 ⟨by have := h.1; dsimp only; omega, by have := h.2.1; rw [List.length_set]; omega, fun z hz => by
  rcases List.mem_or_eq_of_mem_set hz with q | q
  ·exact h.2.2 z q
  ·rw [q]; exact hy⟩
theorem Ok8.push {x : Mac} (h : Ok8 x) {y : Mv} (hy : I64 y.msg ∧ I64 y.to) : OkMac ⟨x.st, x.ends, x.moves ++ [y]⟩ :=
 ⟨by have := h.1; dsimp only; omega, by have := h.2.1; rw [List.length_append]; simp; omega, fun z hz => by
  rcases List.mem_append.1 hz with q | q
  ·exact h.2.2 z q
  ·rw [List.mem_singleton.1 q]; exact hy⟩
theorem Ok8.more {x : Mac} (h : Ok8 x) (e : Bool) : OkMac ⟨x.st, x.ends ++ [e], x.moves⟩ :=
 ⟨by have := h.1; rw [List.length_append]; simp; omega, by have := h.2.1; dsimp only; omega, h.2.2⟩
theorem leaveMac {b : Nat} {a : Option Addr} {n c : Nat} {w WA wr : World} {G k r m d : Nat} {x : Mac} {p q : Option Addr} (hX : BoxM WA.heap.size wr G x p k r q m d) (hD : Drawn b a n c WA wr) (hc : Curs w b a n c) (hal : Below w.heap.size w WA) (hsA : w.heap.size < WA.heap.size)
  (hok : OkMac x) (v0 v1 v2 : Value) : DrewMac b a n c w (.returned (.agg #[.int .i64 x.st, .slice p k r, .slice q m d])) (((wr.setCell ⟨w.heap.size, 0, none⟩ v0).setCell ⟨w.heap.size, 1, none⟩ v1).setCell ⟨w.heap.size, 2, none⟩ v2) := by
 have hs := hD.2.size
 have hp : ∀ ad, p = some ad → ad.block ≠ w.heap.size := fun ad e => by have := (hX.ends.span ad e).1; omega
 have hq : ∀ ad, q = some ad → ad.block ≠ w.heap.size := fun ad e => by have := (hX.moves.span ad e).1; omega
 refine ⟨_, x, rfl, ⟨p, k, r, q, m, d, rfl, (((hX.ends.set hp _).set hp _).set hp _).lower (by omega), (((hX.moves.set hq _).set hq _).set hq _).lower (by omega), hX.sep, ?_, ?_, Nat.le_refl _, hX.ends.room, hX.moves.room⟩, hok, ?_⟩
 ·exact fun ad e => by
   have := hX.ends.span ad e
   simp only [World.size_setCell]
   omega
 ·exact fun ad e => by
   have := hX.moves.span ad e
   simp only [World.size_setCell]
   omega
 ·have hb9 : Below w.heap.size wr (((wr.setCell ⟨w.heap.size, 0, none⟩ v0).setCell ⟨w.heap.size, 1, none⟩ v1).setCell ⟨w.heap.size, 2, none⟩ v2) := (((Below.refl w.heap.size wr).setCell (p := ⟨w.heap.size, 0, none⟩) (Nat.le_refl _) v0).setCell (p := ⟨w.heap.size, 1, none⟩) (Nat.le_refl _) v1).setCell (p := ⟨w.heap.size, 2, none⟩) (Nat.le_refl _) v2
  exact (((Drawn.refl hc).same hal).trans hD).under hc hb9 (Nat.le_refl _)
/-- A cursor's steps leave a box of the call's own. -/
theorem own_cell3 {w : World} {B G k r m d i : Nat} {x : Mac} {p : Option Addr} {g : Nat} (h : BoxM B w G x p k r (some ⟨g, 0, none⟩) m d) (hi : i < m) (f : Nat) (hf : f < 4) : ∃ u, w.cell? ⟨g, i * 4 + f, none⟩ = some u := row_cell h.moves.row (k := i * 4 + f) (by omega)

set_option maxHeartbeats 8000000 in
set_option maxRecDepth 100000 in
theorem l13Any_any (b : Nat) (a : Option Addr) (n c : Nat) (w : World) (hc : Curs w b a n c) :
  Calls Try.prog 106 #[.pointer (some ⟨b, 0, none⟩)] w (DrewMac b a n c w) := by
 have hblt := hc.lt
 have HAL := Lib.hid (alloc_same w (.cells #[.int .i64 0, .slice none 0 0, .slice none 0 0] 27))
 have HGR := Lib.hid (heap_alloc_new w (.cells #[.int .i64 0, .slice none 0 0, .slice none 0 0] 27 (0, 0)))
 change Hid ((w.alloc (.cells #[.int .i64 0, .slice none 0 0, .slice none 0 0] 27)).heap[w.heap.size]? = _) at HGR
 have HC := Lib.hid (hc.same HAL.out)
 have HCW := Lib.hid hc
 have hsA : w.heap.size < (w.alloc (.cells #[.int .i64 0, .slice none 0 0, .slice none 0 0] 27)).heap.size := by simp
 obtain ⟨i0, hi, hz0, hz1, hz2⟩ := info_parts infoBoolS
 have HI := Lib.hid (And.intro hi (And.intro hz0 (And.intro hz1 hz2)))
 clear hi hz0 hz1 hz2
 obtain ⟨i1, hi, hz0, hz1, hz2⟩ := info_parts infoMoveS
 have HI1 := Lib.hid (And.intro hi (And.intro hz0 (And.intro hz1 hz2)))
 clear hi hz0 hz1 hz2 hc
 go_enter Try.func106, Try.ntmps106
 go_wp2_with fail
 generalize w.alloc (.cells #[.int .i64 0, .slice none 0 0, .slice none 0 0] 27) = WA at *
 refine (l13Draw_any b a n c _ HC.out).mono ?_
 rintro e w1 ⟨v, x, rfl, ⟨p, k, r, q, m, d, rfl, ho1, ho2, hsep, hsp, hsq, hS, hr1, hr2⟩, hk1, hk2, hk3, hd1⟩
 have hs1 := hd1.2.size
 have HOK : Hid (Ok8 x) := Lib.hid ⟨hk1, hk2, hk3.2⟩
 have HST := Lib.hid hk3.1
 have hG1 := heap_alloc_new w1 (.cells #[.int .i64 x.st, .slice p k r, .slice q m d] 27 (0, 0))
 change (w1.alloc (.cells #[.int .i64 x.st, .slice p k r, .slice q m d] 27)).heap[w1.heap.size]? = _ at hG1
 have HX1 : Hid (BoxM WA.heap.size (w1.alloc (.cells #[.int .i64 x.st, .slice p k r, .slice q m d] 27)) w1.heap.size x p k r q m d) := Lib.hid ⟨hs1, hG1, ho1.alloc _, ho2.alloc _, hsep, (fun ad e => by have := (hsp ad e).2; omega), (fun ad e => by have := (hsq ad e).2; omega)⟩
 have HD1 := Lib.hid (hd1.same (alloc_same w1 (.cells #[.int .i64 x.st, .slice p k r, .slice q m d] 27)))
 have hml := ho2.len
 obtain ⟨G, hG⟩ : ∃ G, G = w1.heap.size := ⟨_, rfl⟩
 have hGW : WA.heap.size ≤ G := by omega
 rw [← hG] at HX1
 obtain ⟨e0, e1, e2, -, -, -⟩ := three_cells HX1.out.heap
 have hm8 : m ≤ 8 := by omega
 have hk4 : k ≤ 4 := by have := ho1.len; omega
 clear hd1 ho1 ho2 hsep hsp hsq hS hG1 hr1 hr2
 by_cases hm0 : m = 0
 ·subst hm0
  clear e0 e1 e2
  have hh : (w1.alloc (.cells #[.int .i64 x.st, .slice p k r, .slice q 0 d] 27)).heap[G]? = some (.cells #[.int .i64 x.st, .slice p k r, .slice q 0 d] 27 (0, 0)) := HX1.out.heap
  obtain ⟨e0, e1, e2, -, -, -⟩ := three_cells hh
  have hzz : (w1.alloc (.cells #[.int .i64 x.st, .slice p k r, .slice q 0 d] 27)).heap[w.heap.size]? = some (.cells #[.int .i64 0, .slice none 0 0, .slice none 0 0] 27 (0, 0)) := (HD1.out.2.block _ hsA (by omega)).trans HGR.out
  obtain ⟨m0, m1, m2, f0, f1, f2⟩ := three_cells hzz
  obtain ⟨z0, z1, z2, hZ⟩ := three_put hzz (.int .i64 x.st) (.slice p k r) (.slice q 0 d)
  have hsW := HD1.out.2.size
  clear hZ hh hzz
  go_wp2_with fail
  (try simp only [Exit.inBlock, Exit.then])
  refine bodyPost_ret (by simp [results, Try.results106, go_sem, z0, z1, z2]; try rfl) rfl ?_
  exact leaveMac HX1.out HD1.out HCW.out HAL.out hsA (HOK.out.mac x.st) _ _ _
 ·have hm0I : ((m : Int) == 0) = false := by simp; omega
  obtain ⟨g, e, -, -⟩ := HX1.out.moves.head (by omega)
  subst e
  go_wp2_with fail
  rw [← hG]
  clear e0 e1 e2 hG
  generalize (w1.alloc (.cells #[.int .i64 x.st, .slice p k r, .slice (some ⟨g, 0, none⟩) m d] 27)) = W1 at *
  refine (below_any b a n c m (by omega) (by omega) _ HD1.out.1).mono ?_
  rintro e w3 ⟨y3, hy0, hy1, rfl, hd3⟩
  obtain ⟨i, rfl⟩ : ∃ r : Nat, y3 = r := ⟨y3.toNat, by omega⟩
  have HD3 := Lib.hid (HD1.out.trans hd3)
  have HX3 := Lib.hid (HX1.out.only hd3.2 (by omega))
  have hil : i < m := by omega
  clear hd3 hy0 hy1 hm0I
  obtain ⟨e0, e1, e2, -, -, -⟩ := three_cells HX3.out.heap
  go_wp2_with fail
  clear e0 e1 e2
  refine (below_any b a n c 12 (by omega) (by omega) _ HD3.out.1).mono ?_
  rintro e W4 ⟨y, hy0, hy1, rfl, hd4⟩
  have HD := Lib.hid (HD3.out.trans hd4)
  have HX := Lib.hid (HX3.out.only hd4.2 (by omega))
  clear hd4 HD1 HX1 HD3 HX3
  obtain ⟨z, hz⟩ : ∃ z, x.moves[i]? = some z := ⟨_, List.getElem?_eq_getElem (by omega)⟩
  obtain ⟨b5, o5, z', e5, hz', c0, c1, c2, c3⟩ := mvs_at (HX.out.moves.items Mv.enc_len) hil
  cases e5
  rw [hz] at hz'
  cases hz'
  simp only [Nat.zero_add] at c0 c1 c2 c3
  have CZ := Lib.hid (And.intro c0 (And.intro c1 (And.intro c2 c3)))
  have HZ := Lib.hid hz
  have HZM := Lib.hid (HOK.out.2.2 z (List.mem_of_getElem? hz))
  clear hz c0 c1 c2 c3
  have hiI : (i : Int) < (m : Int) := by omega
  by_cases n0 : y = 0
  ·subst n0
   have DS : Hid (Drawn b a n c WA W4.drew) := Lib.hid (HD.out.same (Below.refl _ W4).drew)
   have XS : Hid (BoxM WA.heap.size W4.drew G x p k r (some ⟨g, 0, none⟩) m d) := Lib.hid (HX.out.same (Below.refl _ W4).drew)
   go_wp2_with fail
   refine wp_region_held_drew (S := fun w9 => w9.cell? ⟨G, 0, none⟩ = some (.int .i64 x.st) ∧ w9.cell? ⟨G, 2, none⟩ = some (.slice (some ⟨g, 0, none⟩) m d)) (by kernel_rfl) ⟨(three_cells XS.out.heap).1, (three_cells XS.out.heap).2.2.1⟩ (fun hHeld => ?_)
   refine wpAnyH_take (i := 0) (v := ?v1) (by simp only [get9]; rfl) (by kernel_rfl) (by kernel_rfl) (by kernel_rfl) (by exact fun _ _ _ h => h) (Or.inl ⟨by rfl, fun w9 hS9 => ?hy1⟩) hHeld ?rest1
   case hy1 =>
    dsimp only at hS9
    obtain ⟨q0, q2⟩ := hS9
    go_simp
    try with_reducible rfl
   try simp only [Act.put, set9]
   refine wpAnyH_take (i := 1) (v := ?v2) (by simp only [get9]; rfl) (by kernel_rfl) (by kernel_rfl) (by kernel_rfl) (by exact fun _ _ _ h => h) (Or.inl ⟨by rfl, fun w9 hS9 => ?hy2⟩) hHeld ?rest2
   case hy2 =>
    dsimp only at hS9
    obtain ⟨q0, q2⟩ := hS9
    go_simp
    try with_reducible rfl
   try simp only [Act.put, set9]
   refine wpAnyH_take (i := 2) (v := ?v3) (by simp only [get9]; rfl) (by kernel_rfl) (by kernel_rfl) (by kernel_rfl) (by exact fun _ _ _ h => h) (Or.inl ⟨by rfl, fun w9 hS9 => ?hy3⟩) hHeld ?rest3
   case hy3 =>
    dsimp only at hS9
    obtain ⟨q0, q2⟩ := hS9
    go_simp
    try with_reducible rfl
   try simp only [Act.put, set9]
   refine wpAnyH_take (i := 3) (v := ?v4) (by simp only [get9]; rfl) (by kernel_rfl) (by kernel_rfl) (by kernel_rfl) (by exact fun _ _ _ h => h) (Or.inl ⟨by rfl, fun w9 hS9 => ?hy4⟩) hHeld ?rest4
   case hy4 =>
    dsimp only at hS9
    obtain ⟨q0, q2⟩ := hS9
    go_simp
    try with_reducible rfl
   try simp only [Act.put, set9]
   refine wpAnyH_take (i := 4) (v := ?v5) (by simp only [get9]; rfl) (by kernel_rfl) (by kernel_rfl) (by kernel_rfl) (by exact fun _ _ _ h => h) (Or.inl ⟨by rfl, fun w9 hS9 => ?hy5⟩) hHeld ?rest5
   case hy5 =>
    dsimp only at hS9
    obtain ⟨q0, q2⟩ := hS9
    go_simp
    try with_reducible rfl
   try simp only [Act.put, set9]
   refine wpAnyH_take (i := 5) (v := ?v6) (by simp only [get9]; rfl) (by kernel_rfl) (by kernel_rfl) (by kernel_rfl) (by exact fun _ _ _ h => h) (Or.inl ⟨by rfl, fun w9 hS9 => ?hy6⟩) hHeld ?rest6
   case hy6 =>
    dsimp only at hS9
    obtain ⟨q0, q2⟩ := hS9
    go_simp
    try with_reducible rfl
   try simp only [Act.put, set9]
   refine wpAnyH_ready (rs := [6]) (by kernel_rfl) (by simp) (AllReadyH.cons (by simp only [get9]; rfl) (fun K hK => ?_) AllReadyH.nil)
   go_simp
   have XB : Hid (BoxM WA.heap.size (World.drew (World.alloc W4 (.cells #[.int .i64 (-1), .int .i64 x.st, .int .i64 9223372036854775807] 3))) G x p k r (some ⟨g, 0, none⟩) m d) := Lib.hid ((HX.out.same (alloc_same W4 _)).same (Below.refl _ _).drew)
   refine hK.out _ _ ⟨(three_cells XB.out.heap).1, (three_cells XB.out.heap).2.2.1⟩ (fun hHeld => ?_)
   clear hK K
   try simp only [Act.put, set9]
   refine wpAnyH_ready (rs := [7]) (by kernel_rfl) (by simp) (AllReadyH.cons (by simp only [get9]; rfl) (fun K hK => ?_) AllReadyH.nil)
   go_simp
   refine (pickNew b a n c [-1, x.st, 9223372036854775807] 3 (by omega) (by omega) rfl rfl W4.drew DS.out.1).mono ?_
   rintro e v5 ⟨z5, hz5, rfl, hd5⟩
   have D5 := Lib.hid (DS.out.trans hd5)
   have X5 := Lib.hid (XS.out.only hd5.2 (by omega))
   clear hd5
   go_wp2_with fail
   refine hK.out _ _ ⟨(three_cells X5.out.heap).1, (three_cells X5.out.heap).2.2.1⟩ (fun hHeld => ?_)
   clear hK K
   try simp only [Act.put, set9]
   refine wpAnyH_take (i := 8) (v := ?v7) (by simp only [get9]; rfl) (by kernel_rfl) (by kernel_rfl) (by kernel_rfl) (by exact fun _ _ _ h => h) (Or.inl ⟨by rfl, fun w9 hS9 => ?hy7⟩) hHeld ?rest7
   case hy7 =>
    dsimp only at hS9
    obtain ⟨q0, q2⟩ := hS9
    go_simp
    try with_reducible rfl
   try simp only [Act.put, set9]
   refine wpAnyH_take (i := 9) (v := ?v8) (by simp only [get9]; rfl) (by kernel_rfl) (by kernel_rfl) (by kernel_rfl) (by exact fun _ _ _ h => h) (Or.inl ⟨by rfl, fun w9 hS9 => ?hy8⟩) hHeld ?rest8
   case hy8 =>
    dsimp only at hS9
    obtain ⟨q0, q2⟩ := hS9
    go_simp
    try with_reducible rfl
   try simp only [Act.put, set9]
   refine wpAnyH_ready (rs := [10]) (by kernel_rfl) (by simp) (AllReadyH.cons (by simp only [get9]; rfl) (fun K hK => ?_) AllReadyH.nil)
   obtain ⟨u5, hu5⟩ := own_cell3 X5.out hil 3 (by omega)
   have hf5 := X5.out.moves.row.frozenAt (i * 4 + 3)
   have HP := Lib.hid (X5.out.putM (i := 3) (y := ⟨z.frm, z.send, z.msg, z5⟩) (v := .int .i64 z5) HZ.out (by omega) rfl)
   have DP := Lib.hid (D5.out.under HC.out HP.out.2 (Nat.le_refl _))
   go_simp
   refine hK.out _ _ ⟨(three_cells HP.out.1.heap).1, (three_cells HP.out.1.heap).2.2.1⟩ (fun hHeld => ?_)
   clear hK K
   try simp only [Act.put, set9]
   refine wpAnyH_done (by kernel_rfl) ?_ _
   have hh : (v5.setCell ⟨g, i * 4 + 3, none⟩ (.int .i64 z5)).heap[G]? = some (.cells #[.int .i64 x.st, .slice p k r, .slice (some ⟨g, 0, none⟩) m d] 27 (0, 0)) := HP.out.1.heap
   obtain ⟨e0, e1, e2, -, -, -⟩ := three_cells hh
   have hzz : (v5.setCell ⟨g, i * 4 + 3, none⟩ (.int .i64 z5)).heap[w.heap.size]? = some (.cells #[.int .i64 0, .slice none 0 0, .slice none 0 0] 27 (0, 0)) := (DP.out.2.block _ hsA (by omega)).trans HGR.out
   obtain ⟨m0, m1, m2, f0, f1, f2⟩ := three_cells hzz
   obtain ⟨z0, z1, z2, hZ⟩ := three_put hzz (.int .i64 x.st) (.slice p k r) (.slice (some ⟨g, 0, none⟩) m d)
   have hsW := DP.out.2.size
   clear hZ hh hzz
   go_wp2_with fail
   (try simp only [Exit.inBlock, Exit.then])
   refine bodyPost_ret (by simp [results, Try.results106, go_sem, z0, z1, z2]; try rfl) rfl ?_
   exact leaveMac HP.out.1 DP.out HCW.out HAL.out hsA (HOK.out.set i ⟨HZM.out.1, by have hst := HST.out; simp only [List.mem_cons, List.not_mem_nil, or_false] at hz5; unfold I64; dsimp only; omega⟩) _ _ _
  ·have f0 : (y == 0) = false := by simp [n0]
   by_cases n1 : y = 1
   ·subst n1
    have DS : Hid (Drawn b a n c WA W4.drew) := Lib.hid (HD.out.same (Below.refl _ W4).drew)
    have XS : Hid (BoxM WA.heap.size W4.drew G x p k r (some ⟨g, 0, none⟩) m d) := Lib.hid (HX.out.same (Below.refl _ W4).drew)
    go_wp2_with fail
    refine wp_region_held_drew (S := fun w9 => w9.cell? ⟨G, 0, none⟩ = some (.int .i64 x.st) ∧ w9.cell? ⟨G, 2, none⟩ = some (.slice (some ⟨g, 0, none⟩) m d)) (by kernel_rfl) ⟨(three_cells XS.out.heap).1, (three_cells XS.out.heap).2.2.1⟩ (fun hHeld => ?_)
    refine wpAnyH_take (i := 0) (v := ?v9) (by simp only [get9]; rfl) (by kernel_rfl) (by kernel_rfl) (by kernel_rfl) (by exact fun _ _ _ h => h) (Or.inl ⟨by rfl, fun w9 hS9 => ?hy9⟩) hHeld ?rest9
    case hy9 =>
     dsimp only at hS9
     obtain ⟨q0, q2⟩ := hS9
     go_simp
     try with_reducible rfl
    try simp only [Act.put, set9]
    refine wpAnyH_take (i := 1) (v := ?v10) (by simp only [get9]; rfl) (by kernel_rfl) (by kernel_rfl) (by kernel_rfl) (by exact fun _ _ _ h => h) (Or.inl ⟨by rfl, fun w9 hS9 => ?hy10⟩) hHeld ?rest10
    case hy10 =>
     dsimp only at hS9
     obtain ⟨q0, q2⟩ := hS9
     go_simp
     try with_reducible rfl
    try simp only [Act.put, set9]
    refine wpAnyH_take (i := 2) (v := ?v11) (by simp only [get9]; rfl) (by kernel_rfl) (by kernel_rfl) (by kernel_rfl) (by exact fun _ _ _ h => h) (Or.inl ⟨by rfl, fun w9 hS9 => ?hy11⟩) hHeld ?rest11
    case hy11 =>
     dsimp only at hS9
     obtain ⟨q0, q2⟩ := hS9
     go_simp
     try with_reducible rfl
    try simp only [Act.put, set9]
    refine wpAnyH_take (i := 3) (v := ?v12) (by simp only [get9]; rfl) (by kernel_rfl) (by kernel_rfl) (by kernel_rfl) (by exact fun _ _ _ h => h) (Or.inl ⟨by rfl, fun w9 hS9 => ?hy12⟩) hHeld ?rest12
    case hy12 =>
     dsimp only at hS9
     obtain ⟨q0, q2⟩ := hS9
     go_simp
     try with_reducible rfl
    try simp only [Act.put, set9]
    refine wpAnyH_ready (rs := [4]) (by kernel_rfl) (by simp) (AllReadyH.cons (by simp only [get9]; rfl) (fun K hK => ?_) AllReadyH.nil)
    go_simp
    have XB : Hid (BoxM WA.heap.size (World.drew (World.alloc W4 (.cells #[.int .i64 (-1), .int .i64 5, .int .i64 6] 3))) G x p k r (some ⟨g, 0, none⟩) m d) := Lib.hid ((HX.out.same (alloc_same W4 _)).same (Below.refl _ _).drew)
    refine hK.out _ _ ⟨(three_cells XB.out.heap).1, (three_cells XB.out.heap).2.2.1⟩ (fun hHeld => ?_)
    clear hK K
    try simp only [Act.put, set9]
    refine wpAnyH_ready (rs := [5]) (by kernel_rfl) (by simp) (AllReadyH.cons (by simp only [get9]; rfl) (fun K hK => ?_) AllReadyH.nil)
    go_simp
    refine (pickNew b a n c [-1, 5, 6] 3 (by omega) (by omega) rfl rfl W4.drew DS.out.1).mono ?_
    rintro e v5 ⟨z5, hz5, rfl, hd5⟩
    have D5 := Lib.hid (DS.out.trans hd5)
    have X5 := Lib.hid (XS.out.only hd5.2 (by omega))
    clear hd5
    go_wp2_with fail
    refine hK.out _ _ ⟨(three_cells X5.out.heap).1, (three_cells X5.out.heap).2.2.1⟩ (fun hHeld => ?_)
    clear hK K
    try simp only [Act.put, set9]
    refine wpAnyH_take (i := 6) (v := ?v13) (by simp only [get9]; rfl) (by kernel_rfl) (by kernel_rfl) (by kernel_rfl) (by exact fun _ _ _ h => h) (Or.inl ⟨by rfl, fun w9 hS9 => ?hy13⟩) hHeld ?rest13
    case hy13 =>
     dsimp only at hS9
     obtain ⟨q0, q2⟩ := hS9
     go_simp
     try with_reducible rfl
    try simp only [Act.put, set9]
    refine wpAnyH_take (i := 7) (v := ?v14) (by simp only [get9]; rfl) (by kernel_rfl) (by kernel_rfl) (by kernel_rfl) (by exact fun _ _ _ h => h) (Or.inl ⟨by rfl, fun w9 hS9 => ?hy14⟩) hHeld ?rest14
    case hy14 =>
     dsimp only at hS9
     obtain ⟨q0, q2⟩ := hS9
     go_simp
     try with_reducible rfl
    try simp only [Act.put, set9]
    refine wpAnyH_ready (rs := [8]) (by kernel_rfl) (by simp) (AllReadyH.cons (by simp only [get9]; rfl) (fun K hK => ?_) AllReadyH.nil)
    obtain ⟨u5, hu5⟩ := own_cell3 X5.out hil 2 (by omega)
    have hf5 := X5.out.moves.row.frozenAt (i * 4 + 2)
    have HP := Lib.hid (X5.out.putM (i := 2) (y := ⟨z.frm, z.send, z5, z.to⟩) (v := .int .i64 z5) HZ.out (by omega) rfl)
    have DP := Lib.hid (D5.out.under HC.out HP.out.2 (Nat.le_refl _))
    go_simp
    refine hK.out _ _ ⟨(three_cells HP.out.1.heap).1, (three_cells HP.out.1.heap).2.2.1⟩ (fun hHeld => ?_)
    clear hK K
    try simp only [Act.put, set9]
    refine wpAnyH_done (by kernel_rfl) ?_ _
    have hh : (v5.setCell ⟨g, i * 4 + 2, none⟩ (.int .i64 z5)).heap[G]? = some (.cells #[.int .i64 x.st, .slice p k r, .slice (some ⟨g, 0, none⟩) m d] 27 (0, 0)) := HP.out.1.heap
    obtain ⟨e0, e1, e2, -, -, -⟩ := three_cells hh
    have hzz : (v5.setCell ⟨g, i * 4 + 2, none⟩ (.int .i64 z5)).heap[w.heap.size]? = some (.cells #[.int .i64 0, .slice none 0 0, .slice none 0 0] 27 (0, 0)) := (DP.out.2.block _ hsA (by omega)).trans HGR.out
    obtain ⟨m0, m1, m2, f0, f1, f2⟩ := three_cells hzz
    obtain ⟨z0, z1, z2, hZ⟩ := three_put hzz (.int .i64 x.st) (.slice p k r) (.slice (some ⟨g, 0, none⟩) m d)
    have hsW := DP.out.2.size
    clear hZ hh hzz
    go_wp2_with fail
    (try simp only [Exit.inBlock, Exit.then])
    refine bodyPost_ret (by simp [results, Try.results106, go_sem, z0, z1, z2]; try rfl) rfl ?_
    exact leaveMac HP.out.1 DP.out HCW.out HAL.out hsA (HOK.out.set i ⟨by simp only [List.mem_cons, List.not_mem_nil, or_false] at hz5; unfold I64; dsimp only; omega, HZM.out.2⟩) _ _ _
   ·have f1 : (y == 1) = false := by simp [n1]
    by_cases n2 : y = 2
    ·subst n2
     have XS : Hid (BoxM WA.heap.size W4.drew G x p k r (some ⟨g, 0, none⟩) m d) := Lib.hid (HX.out.same (Below.refl _ W4).drew)
     have CY0 : Hid (W4.drew.cell? ⟨g, i * 4, none⟩ = some (.int .i64 z.frm) ∧ W4.drew.cell? ⟨g, i * 4 + 1, none⟩ = some (.bool z.send) ∧ W4.drew.cell? ⟨g, i * 4 + 2, none⟩ = some (.int .i64 z.msg) ∧ W4.drew.cell? ⟨g, i * 4 + 3, none⟩ = some (.int .i64 z.to)) := Lib.hid CZ.out
     go_wp2_with fail
     refine wp_region_held_drew (S := fun w9 => True) (by kernel_rfl) trivial (fun hHeld => ?_)
     refine wpAnyH_take (i := 0) (v := ?v15) (by simp only [get9]; rfl) (by kernel_rfl) (by kernel_rfl) (by kernel_rfl) (by exact fun _ _ _ h => h) (Or.inl ⟨by rfl, fun w9 hS9 => ?hy15⟩) hHeld ?rest15
     case hy15 =>
      dsimp only at hS9
      skip
      go_simp
      try with_reducible rfl
     try simp only [Act.put, set9]
     refine wpAnyH_take (i := 2) (v := ?v16) (by simp only [get9]; rfl) (by kernel_rfl) (by kernel_rfl) (by kernel_rfl) (by exact fun _ _ _ h => h) (Or.inl ⟨by rfl, fun w9 hS9 => ?hy16⟩) hHeld ?rest16
     case hy16 =>
      dsimp only at hS9
      skip
      go_simp
      try with_reducible rfl
     try simp only [Act.put, set9]
     refine wpAnyH_take (i := 4) (v := ?v17) (by simp only [get9]; rfl) (by kernel_rfl) (by kernel_rfl) (by kernel_rfl) (by exact fun _ _ _ h => h) (Or.inl ⟨by rfl, fun w9 hS9 => ?hy17⟩) hHeld ?rest17
     case hy17 =>
      dsimp only at hS9
      skip
      go_simp
      try with_reducible rfl
     try simp only [Act.put, set9]
     refine wpAnyH_ready (rs := [1, 3]) (by kernel_rfl) (by simp) (AllReadyH.cons (by simp only [get9]; rfl) (fun K hK => ?_) (AllReadyH.cons (by simp only [get9]; rfl) (fun K hK => ?_) AllReadyH.nil))
     ·skip
      have ec : W4.cell? ⟨G, 2, none⟩ = some (.slice (some ⟨g, 0, none⟩) m d) := (three_cells XS.out.heap).2.2.1
      go_simp
      clear ec
      refine hK.out _ _ trivial (fun hHeld => ?_)
      clear hK K
      try simp only [Act.put, set9]
      refine wpAnyH_ready (rs := [3]) (by kernel_rfl) (by simp) (AllReadyH.cons (by simp only [get9]; rfl) (fun K hK => ?_) AllReadyH.nil)
      have ec : W4.cell? ⟨G, 2, none⟩ = some (.slice (some ⟨g, 0, none⟩) m d) := (three_cells XS.out.heap).2.2.1
      go_simp
      clear ec
      refine hK.out _ _ trivial (fun hHeld => ?_)
      clear hK K
      try simp only [Act.put, set9]
      refine wpAnyH_take (i := 5) (v := ?v18) (by simp only [get9]; rfl) (by kernel_rfl) (by kernel_rfl) (by kernel_rfl) (by exact fun _ _ _ h => h) (Or.inl ⟨by rfl, fun w9 hS9 => ?hy18⟩) hHeld ?rest18
      case hy18 =>
       dsimp only at hS9
       skip
       go_simp
       try with_reducible rfl
      try simp only [Act.put, set9]
      refine wpAnyH_ready (rs := [6]) (by kernel_rfl) (by simp) (AllReadyH.cons (by simp only [get9]; rfl) (fun K hK => ?_) AllReadyH.nil)
      have cz := CY0.out
      obtain ⟨c0, c1, c2, c3⟩ := cz
      go_simp
      clear c0 c1 c2 c3
      refine hK.out _ _ trivial (fun hHeld => ?_)
      clear hK K
      try simp only [Act.put, set9]
      refine wpAnyH_ready (rs := [7]) (by kernel_rfl) (by simp) (AllReadyH.cons (by simp only [get9]; rfl) (fun K hK => ?_) AllReadyH.nil)
      go_simp
      have XB : Hid (BoxM WA.heap.size (World.drew (World.alloc W4 (.cells z.enc.toArray 63))) G x p k r (some ⟨g, 0, none⟩) m d) := Lib.hid ((HX.out.same (alloc_same W4 _)).same (Below.refl _ _).drew)
      have DB : Hid (Drawn b a n c WA (World.drew (World.alloc W4 (.cells z.enc.toArray 63)))) := Lib.hid ((HD.out.same (alloc_same W4 _)).same (Below.refl _ _).drew)
      have HN : Hid (Mvs (World.drew (World.alloc W4 (.cells z.enc.toArray 63))) (some ⟨W4.heap.size, 0, none⟩) 1 [z]) := Lib.hid ((items_new (enc := Mv.enc) (s := 4) Mv.enc_len W4 z 63).same (Below.refl _ _).drew)
      refine hK.out _ _ trivial (fun hHeld => ?_)
      clear hK K
      try simp only [Act.put, set9]
      refine wpAnyH_ready (rs := [8]) (by kernel_rfl) (by simp) (AllReadyH.cons (by simp only [get9]; rfl) (fun K hK => ?_) AllReadyH.nil)
      refine step_appW _ Mv.enc_len (by omega) Mv.cells (by rfl) (.tmp 45) (.tmp 51) 25 (by rfl) 63 i1 (.agg #[.int .i64 0, .bool false, .int .i64 0, .int .i64 0]) 32 Try.underlying25 HI1.out.1 HI1.out.2.1 HI1.out.2.2.1 HI1.out.2.2.2 rfl (by rfl) XB.out.moves (by rfl) HN.out (by omega) (by omega) (by have h9 := DB.out.2.size; exact h9) ?_
      intro q7 y7 w7 ho7 hg7 hw7
      have HP := Lib.hid (XB.out.pushM ho7 hg7 hw7)
      have DP : Hid (Drawn b a n c WA (w7.setCell ⟨G, 2, none⟩ (.slice q7 (m + 1 : Nat) y7))) := Lib.hid (DB.out.under HC.out HP.out.2 (Nat.le_refl _))
      have h7 : w7.heap[G]? = some (.cells #[.int .i64 x.st, .slice p k r, .slice (some ⟨g, 0, none⟩) m d] 27 (0, 0)) := (hg7.block G XB.out.lt (fun e => by obtain ⟨ad, f1, f2⟩ := block_of e.symm; exact XB.out.qG ad f1 f2)).trans XB.out.heap
      obtain ⟨h70, h71, h72, k70, k71, k72⟩ := three_cells h7
      clear ho7 hg7 hw7 h7
      refine hK.out _ _ trivial (fun hHeld => ?_)
      clear hK K
      try simp only [Act.put, set9]
      refine wpAnyH_take (i := 9) (v := ?v19) (by simp only [get9]; rfl) (by kernel_rfl) (by kernel_rfl) (by kernel_rfl) (by exact fun _ _ _ h => h) (Or.inl ⟨by rfl, fun w9 hS9 => ?hy19⟩) hHeld ?rest19
      case hy19 =>
       dsimp only at hS9
       skip
       go_simp
       try with_reducible rfl
      try simp only [Act.put, set9]
      refine wpAnyH_ready (rs := [10]) (by kernel_rfl) (by simp) (AllReadyH.cons (by simp only [get9]; rfl) (fun K hK => ?_) AllReadyH.nil)
      go_simp
      refine hK.out _ _ trivial (fun hHeld => ?_)
      clear hK K
      try simp only [Act.put, set9]
      refine wpAnyH_done (by kernel_rfl) ?_ _
      clear h70 h71 h72 k70 k71 k72
      have hh : (w7.setCell ⟨G, 2, none⟩ (.slice q7 (m + 1 : Nat) y7)).heap[G]? = some (.cells #[.int .i64 x.st, .slice p k r, .slice q7 (m + 1 : Nat) y7] 27 (0, 0)) := HP.out.1.heap
      obtain ⟨e0, e1, e2, -, -, -⟩ := three_cells hh
      have hzz : (w7.setCell ⟨G, 2, none⟩ (.slice q7 (m + 1 : Nat) y7)).heap[w.heap.size]? = some (.cells #[.int .i64 0, .slice none 0 0, .slice none 0 0] 27 (0, 0)) := (DP.out.2.block _ hsA (by omega)).trans HGR.out
      obtain ⟨m0, m1, m2, f0, f1, f2⟩ := three_cells hzz
      obtain ⟨z0, z1, z2, hZ⟩ := three_put hzz (.int .i64 x.st) (.slice p k r) (.slice q7 (m + 1 : Nat) y7)
      have hsW := DP.out.2.size
      clear hZ hh hzz
      go_wp2_with fail
      (try simp only [Exit.inBlock, Exit.then])
      refine bodyPost_ret (by simp [results, Try.results106, go_sem, z0, z1, z2]; try rfl) rfl ?_
      exact leaveMac HP.out.1 DP.out HCW.out HAL.out hsA (HOK.out.push HZM.out) _ _ _
     ·skip
      have ec : W4.cell? ⟨G, 2, none⟩ = some (.slice (some ⟨g, 0, none⟩) m d) := (three_cells XS.out.heap).2.2.1
      go_simp
      clear ec
      refine hK.out _ _ trivial (fun hHeld => ?_)
      clear hK K
      try simp only [Act.put, set9]
      refine wpAnyH_take (i := 5) (v := ?v20) (by simp only [get9]; rfl) (by kernel_rfl) (by kernel_rfl) (by kernel_rfl) (by exact fun _ _ _ h => h) (Or.inl ⟨by rfl, fun w9 hS9 => ?hy20⟩) hHeld ?rest20
      case hy20 =>
       dsimp only at hS9
       skip
       go_simp
       try with_reducible rfl
      try simp only [Act.put, set9]
      refine wpAnyH_ready (rs := [1, 6]) (by kernel_rfl) (by simp) (AllReadyH.cons (by simp only [get9]; rfl) (fun K hK => ?_) (AllReadyH.cons (by simp only [get9]; rfl) (fun K hK => ?_) AllReadyH.nil))
      ·skip
       have ec : W4.cell? ⟨G, 2, none⟩ = some (.slice (some ⟨g, 0, none⟩) m d) := (three_cells XS.out.heap).2.2.1
       go_simp
       clear ec
       refine hK.out _ _ trivial (fun hHeld => ?_)
       clear hK K
       try simp only [Act.put, set9]
       refine wpAnyH_ready (rs := [6]) (by kernel_rfl) (by simp) (AllReadyH.cons (by simp only [get9]; rfl) (fun K hK => ?_) AllReadyH.nil)
       have cz := CY0.out
       obtain ⟨c0, c1, c2, c3⟩ := cz
       go_simp
       clear c0 c1 c2 c3
       refine hK.out _ _ trivial (fun hHeld => ?_)
       clear hK K
       try simp only [Act.put, set9]
       refine wpAnyH_ready (rs := [7]) (by kernel_rfl) (by simp) (AllReadyH.cons (by simp only [get9]; rfl) (fun K hK => ?_) AllReadyH.nil)
       go_simp
       have XB : Hid (BoxM WA.heap.size (World.drew (World.alloc W4 (.cells z.enc.toArray 63))) G x p k r (some ⟨g, 0, none⟩) m d) := Lib.hid ((HX.out.same (alloc_same W4 _)).same (Below.refl _ _).drew)
       have DB : Hid (Drawn b a n c WA (World.drew (World.alloc W4 (.cells z.enc.toArray 63)))) := Lib.hid ((HD.out.same (alloc_same W4 _)).same (Below.refl _ _).drew)
       have HN : Hid (Mvs (World.drew (World.alloc W4 (.cells z.enc.toArray 63))) (some ⟨W4.heap.size, 0, none⟩) 1 [z]) := Lib.hid ((items_new (enc := Mv.enc) (s := 4) Mv.enc_len W4 z 63).same (Below.refl _ _).drew)
       refine hK.out _ _ trivial (fun hHeld => ?_)
       clear hK K
       try simp only [Act.put, set9]
       refine wpAnyH_ready (rs := [8]) (by kernel_rfl) (by simp) (AllReadyH.cons (by simp only [get9]; rfl) (fun K hK => ?_) AllReadyH.nil)
       refine step_appW _ Mv.enc_len (by omega) Mv.cells (by rfl) (.tmp 45) (.tmp 51) 25 (by rfl) 63 i1 (.agg #[.int .i64 0, .bool false, .int .i64 0, .int .i64 0]) 32 Try.underlying25 HI1.out.1 HI1.out.2.1 HI1.out.2.2.1 HI1.out.2.2.2 rfl (by rfl) XB.out.moves (by rfl) HN.out (by omega) (by omega) (by have h9 := DB.out.2.size; exact h9) ?_
       intro q7 y7 w7 ho7 hg7 hw7
       have HP := Lib.hid (XB.out.pushM ho7 hg7 hw7)
       have DP : Hid (Drawn b a n c WA (w7.setCell ⟨G, 2, none⟩ (.slice q7 (m + 1 : Nat) y7))) := Lib.hid (DB.out.under HC.out HP.out.2 (Nat.le_refl _))
       have h7 : w7.heap[G]? = some (.cells #[.int .i64 x.st, .slice p k r, .slice (some ⟨g, 0, none⟩) m d] 27 (0, 0)) := (hg7.block G XB.out.lt (fun e => by obtain ⟨ad, f1, f2⟩ := block_of e.symm; exact XB.out.qG ad f1 f2)).trans XB.out.heap
       obtain ⟨h70, h71, h72, k70, k71, k72⟩ := three_cells h7
       clear ho7 hg7 hw7 h7
       refine hK.out _ _ trivial (fun hHeld => ?_)
       clear hK K
       try simp only [Act.put, set9]
       refine wpAnyH_take (i := 9) (v := ?v21) (by simp only [get9]; rfl) (by kernel_rfl) (by kernel_rfl) (by kernel_rfl) (by exact fun _ _ _ h => h) (Or.inl ⟨by rfl, fun w9 hS9 => ?hy21⟩) hHeld ?rest21
       case hy21 =>
        dsimp only at hS9
        skip
        go_simp
        try with_reducible rfl
       try simp only [Act.put, set9]
       refine wpAnyH_ready (rs := [10]) (by kernel_rfl) (by simp) (AllReadyH.cons (by simp only [get9]; rfl) (fun K hK => ?_) AllReadyH.nil)
       go_simp
       refine hK.out _ _ trivial (fun hHeld => ?_)
       clear hK K
       try simp only [Act.put, set9]
       refine wpAnyH_done (by kernel_rfl) ?_ _
       clear h70 h71 h72 k70 k71 k72
       have hh : (w7.setCell ⟨G, 2, none⟩ (.slice q7 (m + 1 : Nat) y7)).heap[G]? = some (.cells #[.int .i64 x.st, .slice p k r, .slice q7 (m + 1 : Nat) y7] 27 (0, 0)) := HP.out.1.heap
       obtain ⟨e0, e1, e2, -, -, -⟩ := three_cells hh
       have hzz : (w7.setCell ⟨G, 2, none⟩ (.slice q7 (m + 1 : Nat) y7)).heap[w.heap.size]? = some (.cells #[.int .i64 0, .slice none 0 0, .slice none 0 0] 27 (0, 0)) := (DP.out.2.block _ hsA (by omega)).trans HGR.out
       obtain ⟨m0, m1, m2, f0, f1, f2⟩ := three_cells hzz
       obtain ⟨z0, z1, z2, hZ⟩ := three_put hzz (.int .i64 x.st) (.slice p k r) (.slice q7 (m + 1 : Nat) y7)
       have hsW := DP.out.2.size
       clear hZ hh hzz
       go_wp2_with fail
       (try simp only [Exit.inBlock, Exit.then])
       refine bodyPost_ret (by simp [results, Try.results106, go_sem, z0, z1, z2]; try rfl) rfl ?_
       exact leaveMac HP.out.1 DP.out HCW.out HAL.out hsA (HOK.out.push HZM.out) _ _ _
      ·skip
       have cz := CY0.out
       obtain ⟨c0, c1, c2, c3⟩ := cz
       go_simp
       clear c0 c1 c2 c3
       refine hK.out _ _ trivial (fun hHeld => ?_)
       clear hK K
       try simp only [Act.put, set9]
       refine wpAnyH_ready (rs := [1, 7]) (by kernel_rfl) (by simp) (AllReadyH.cons (by simp only [get9]; rfl) (fun K hK => ?_) (AllReadyH.cons (by simp only [get9]; rfl) (fun K hK => ?_) AllReadyH.nil))
       ·skip
        have ec : W4.cell? ⟨G, 2, none⟩ = some (.slice (some ⟨g, 0, none⟩) m d) := (three_cells XS.out.heap).2.2.1
        go_simp
        clear ec
        refine hK.out _ _ trivial (fun hHeld => ?_)
        clear hK K
        try simp only [Act.put, set9]
        refine wpAnyH_ready (rs := [7]) (by kernel_rfl) (by simp) (AllReadyH.cons (by simp only [get9]; rfl) (fun K hK => ?_) AllReadyH.nil)
        go_simp
        have XB : Hid (BoxM WA.heap.size (World.drew (World.alloc W4 (.cells z.enc.toArray 63))) G x p k r (some ⟨g, 0, none⟩) m d) := Lib.hid ((HX.out.same (alloc_same W4 _)).same (Below.refl _ _).drew)
        have DB : Hid (Drawn b a n c WA (World.drew (World.alloc W4 (.cells z.enc.toArray 63)))) := Lib.hid ((HD.out.same (alloc_same W4 _)).same (Below.refl _ _).drew)
        have HN : Hid (Mvs (World.drew (World.alloc W4 (.cells z.enc.toArray 63))) (some ⟨W4.heap.size, 0, none⟩) 1 [z]) := Lib.hid ((items_new (enc := Mv.enc) (s := 4) Mv.enc_len W4 z 63).same (Below.refl _ _).drew)
        refine hK.out _ _ trivial (fun hHeld => ?_)
        clear hK K
        try simp only [Act.put, set9]
        refine wpAnyH_ready (rs := [8]) (by kernel_rfl) (by simp) (AllReadyH.cons (by simp only [get9]; rfl) (fun K hK => ?_) AllReadyH.nil)
        refine step_appW _ Mv.enc_len (by omega) Mv.cells (by rfl) (.tmp 45) (.tmp 51) 25 (by rfl) 63 i1 (.agg #[.int .i64 0, .bool false, .int .i64 0, .int .i64 0]) 32 Try.underlying25 HI1.out.1 HI1.out.2.1 HI1.out.2.2.1 HI1.out.2.2.2 rfl (by rfl) XB.out.moves (by rfl) HN.out (by omega) (by omega) (by have h9 := DB.out.2.size; exact h9) ?_
        intro q7 y7 w7 ho7 hg7 hw7
        have HP := Lib.hid (XB.out.pushM ho7 hg7 hw7)
        have DP : Hid (Drawn b a n c WA (w7.setCell ⟨G, 2, none⟩ (.slice q7 (m + 1 : Nat) y7))) := Lib.hid (DB.out.under HC.out HP.out.2 (Nat.le_refl _))
        have h7 : w7.heap[G]? = some (.cells #[.int .i64 x.st, .slice p k r, .slice (some ⟨g, 0, none⟩) m d] 27 (0, 0)) := (hg7.block G XB.out.lt (fun e => by obtain ⟨ad, f1, f2⟩ := block_of e.symm; exact XB.out.qG ad f1 f2)).trans XB.out.heap
        obtain ⟨h70, h71, h72, k70, k71, k72⟩ := three_cells h7
        clear ho7 hg7 hw7 h7
        refine hK.out _ _ trivial (fun hHeld => ?_)
        clear hK K
        try simp only [Act.put, set9]
        refine wpAnyH_take (i := 9) (v := ?v22) (by simp only [get9]; rfl) (by kernel_rfl) (by kernel_rfl) (by kernel_rfl) (by exact fun _ _ _ h => h) (Or.inl ⟨by rfl, fun w9 hS9 => ?hy22⟩) hHeld ?rest22
        case hy22 =>
         dsimp only at hS9
         skip
         go_simp
         try with_reducible rfl
        try simp only [Act.put, set9]
        refine wpAnyH_ready (rs := [10]) (by kernel_rfl) (by simp) (AllReadyH.cons (by simp only [get9]; rfl) (fun K hK => ?_) AllReadyH.nil)
        go_simp
        refine hK.out _ _ trivial (fun hHeld => ?_)
        clear hK K
        try simp only [Act.put, set9]
        refine wpAnyH_done (by kernel_rfl) ?_ _
        clear h70 h71 h72 k70 k71 k72
        have hh : (w7.setCell ⟨G, 2, none⟩ (.slice q7 (m + 1 : Nat) y7)).heap[G]? = some (.cells #[.int .i64 x.st, .slice p k r, .slice q7 (m + 1 : Nat) y7] 27 (0, 0)) := HP.out.1.heap
        obtain ⟨e0, e1, e2, -, -, -⟩ := three_cells hh
        have hzz : (w7.setCell ⟨G, 2, none⟩ (.slice q7 (m + 1 : Nat) y7)).heap[w.heap.size]? = some (.cells #[.int .i64 0, .slice none 0 0, .slice none 0 0] 27 (0, 0)) := (DP.out.2.block _ hsA (by omega)).trans HGR.out
        obtain ⟨m0, m1, m2, f0, f1, f2⟩ := three_cells hzz
        obtain ⟨z0, z1, z2, hZ⟩ := three_put hzz (.int .i64 x.st) (.slice p k r) (.slice q7 (m + 1 : Nat) y7)
        have hsW := DP.out.2.size
        clear hZ hh hzz
        go_wp2_with fail
        (try simp only [Exit.inBlock, Exit.then])
        refine bodyPost_ret (by simp [results, Try.results106, go_sem, z0, z1, z2]; try rfl) rfl ?_
        exact leaveMac HP.out.1 DP.out HCW.out HAL.out hsA (HOK.out.push HZM.out) _ _ _
       ·skip
        go_simp
        have XB : Hid (BoxM WA.heap.size (World.drew (World.alloc W4 (.cells z.enc.toArray 63))) G x p k r (some ⟨g, 0, none⟩) m d) := Lib.hid ((HX.out.same (alloc_same W4 _)).same (Below.refl _ _).drew)
        have DB : Hid (Drawn b a n c WA (World.drew (World.alloc W4 (.cells z.enc.toArray 63)))) := Lib.hid ((HD.out.same (alloc_same W4 _)).same (Below.refl _ _).drew)
        have HN : Hid (Mvs (World.drew (World.alloc W4 (.cells z.enc.toArray 63))) (some ⟨W4.heap.size, 0, none⟩) 1 [z]) := Lib.hid ((items_new (enc := Mv.enc) (s := 4) Mv.enc_len W4 z 63).same (Below.refl _ _).drew)
        refine hK.out _ _ trivial (fun hHeld => ?_)
        clear hK K
        try simp only [Act.put, set9]
        refine wpAnyH_ready (rs := [1]) (by kernel_rfl) (by simp) (AllReadyH.cons (by simp only [get9]; rfl) (fun K hK => ?_) AllReadyH.nil)
        have ec : (World.alloc W4 (.cells #[.int .i64 z.frm, .bool z.send, .int .i64 z.msg, .int .i64 z.to] 63)).cell? ⟨G, 2, none⟩ = some (.slice (some ⟨g, 0, none⟩) m d) := (three_cells XB.out.heap).2.2.1
        go_simp
        clear ec
        refine hK.out _ _ trivial (fun hHeld => ?_)
        clear hK K
        try simp only [Act.put, set9]
        refine wpAnyH_ready (rs := [8]) (by kernel_rfl) (by simp) (AllReadyH.cons (by simp only [get9]; rfl) (fun K hK => ?_) AllReadyH.nil)
        refine step_appW _ Mv.enc_len (by omega) Mv.cells (by rfl) (.tmp 45) (.tmp 51) 25 (by rfl) 63 i1 (.agg #[.int .i64 0, .bool false, .int .i64 0, .int .i64 0]) 32 Try.underlying25 HI1.out.1 HI1.out.2.1 HI1.out.2.2.1 HI1.out.2.2.2 rfl (by rfl) XB.out.moves (by rfl) HN.out (by omega) (by omega) (by have h9 := DB.out.2.size; exact h9) ?_
        intro q7 y7 w7 ho7 hg7 hw7
        have HP := Lib.hid (XB.out.pushM ho7 hg7 hw7)
        have DP : Hid (Drawn b a n c WA (w7.setCell ⟨G, 2, none⟩ (.slice q7 (m + 1 : Nat) y7))) := Lib.hid (DB.out.under HC.out HP.out.2 (Nat.le_refl _))
        have h7 : w7.heap[G]? = some (.cells #[.int .i64 x.st, .slice p k r, .slice (some ⟨g, 0, none⟩) m d] 27 (0, 0)) := (hg7.block G XB.out.lt (fun e => by obtain ⟨ad, f1, f2⟩ := block_of e.symm; exact XB.out.qG ad f1 f2)).trans XB.out.heap
        obtain ⟨h70, h71, h72, k70, k71, k72⟩ := three_cells h7
        clear ho7 hg7 hw7 h7
        refine hK.out _ _ trivial (fun hHeld => ?_)
        clear hK K
        try simp only [Act.put, set9]
        refine wpAnyH_take (i := 9) (v := ?v23) (by simp only [get9]; rfl) (by kernel_rfl) (by kernel_rfl) (by kernel_rfl) (by exact fun _ _ _ h => h) (Or.inl ⟨by rfl, fun w9 hS9 => ?hy23⟩) hHeld ?rest23
        case hy23 =>
         dsimp only at hS9
         skip
         go_simp
         try with_reducible rfl
        try simp only [Act.put, set9]
        refine wpAnyH_ready (rs := [10]) (by kernel_rfl) (by simp) (AllReadyH.cons (by simp only [get9]; rfl) (fun K hK => ?_) AllReadyH.nil)
        go_simp
        refine hK.out _ _ trivial (fun hHeld => ?_)
        clear hK K
        try simp only [Act.put, set9]
        refine wpAnyH_done (by kernel_rfl) ?_ _
        clear h70 h71 h72 k70 k71 k72
        have hh : (w7.setCell ⟨G, 2, none⟩ (.slice q7 (m + 1 : Nat) y7)).heap[G]? = some (.cells #[.int .i64 x.st, .slice p k r, .slice q7 (m + 1 : Nat) y7] 27 (0, 0)) := HP.out.1.heap
        obtain ⟨e0, e1, e2, -, -, -⟩ := three_cells hh
        have hzz : (w7.setCell ⟨G, 2, none⟩ (.slice q7 (m + 1 : Nat) y7)).heap[w.heap.size]? = some (.cells #[.int .i64 0, .slice none 0 0, .slice none 0 0] 27 (0, 0)) := (DP.out.2.block _ hsA (by omega)).trans HGR.out
        obtain ⟨m0, m1, m2, f0, f1, f2⟩ := three_cells hzz
        obtain ⟨z0, z1, z2, hZ⟩ := three_put hzz (.int .i64 x.st) (.slice p k r) (.slice q7 (m + 1 : Nat) y7)
        have hsW := DP.out.2.size
        clear hZ hh hzz
        go_wp2_with fail
        (try simp only [Exit.inBlock, Exit.then])
        refine bodyPost_ret (by simp [results, Try.results106, go_sem, z0, z1, z2]; try rfl) rfl ?_
        exact leaveMac HP.out.1 DP.out HCW.out HAL.out hsA (HOK.out.push HZM.out) _ _ _
    ·have f2 : (y == 2) = false := by simp [n2]
     by_cases n3 : y = 3
     ·subst n3
      obtain ⟨c0, c1, c2, c3⟩ := CZ.out
      obtain ⟨e0, e1, e2, g0, g1, g2⟩ := three_cells HX.out.heap
      have t3 := cell_stay e2 (alloc_same W4 (.cells #[.int .i64 z.frm, .bool (!z.send), .int .i64 z.msg, .int .i64 z.to] 63))
      have XB : Hid (BoxM WA.heap.size ((W4.alloc (.cells #[.int .i64 z.frm, .bool (!z.send), .int .i64 z.msg, .int .i64 z.to] 63)).alloc (.cells z.neg.enc.toArray 63)) G x p k r (some ⟨g, 0, none⟩) m d) := Lib.hid ((HX.out.same (alloc_same W4 _)).same (alloc_same _ _))
      have DB : Hid (Drawn b a n c WA ((W4.alloc (.cells #[.int .i64 z.frm, .bool (!z.send), .int .i64 z.msg, .int .i64 z.to] 63)).alloc (.cells z.neg.enc.toArray 63))) := Lib.hid ((HD.out.same (alloc_same W4 _)).same (alloc_same _ _))
      have HN : Hid (Mvs ((W4.alloc (.cells #[.int .i64 z.frm, .bool (!z.send), .int .i64 z.msg, .int .i64 z.to] 63)).alloc (.cells z.neg.enc.toArray 63)) (some ⟨W4.heap.size + 1, 0, none⟩) 1 [z.neg]) := by
       have := items_new (enc := Mv.enc) (s := 4) Mv.enc_len (W4.alloc (.cells #[.int .i64 z.frm, .bool (!z.send), .int .i64 z.msg, .int .i64 z.to] 63)) z.neg 63
       rw [World.size_alloc] at this
       exact Lib.hid this
      go_wp2_with (at_builtin; refine wpl_appW _ Mv.enc_len (by omega) Mv.cells rfl (.tmp 66) (.tmp 68) 25 rfl 63 i1 (.agg #[.int .i64 0, .bool false, .int .i64 0, .int .i64 0]) 32 Try.underlying25 HI1.out.1 HI1.out.2.1 HI1.out.2.2.1 HI1.out.2.2.2 rfl rfl XB.out.moves rfl HN.out (by omega) ?ca ?cb ?_)
      case ca => omega
      case cb => have := DB.out.2.size; exact this
      intro q7 y7 w7 ho7 hg7 hw7
      have HP := Lib.hid (XB.out.pushM ho7 hg7 hw7)
      have DP : Hid (Drawn b a n c WA (w7.setCell ⟨G, 2, none⟩ (.slice q7 (m + 1 : Nat) y7))) := Lib.hid (DB.out.under HC.out HP.out.2 (Nat.le_refl _))
      have h7 : w7.heap[G]? = some (.cells #[.int .i64 x.st, .slice p k r, .slice (some ⟨g, 0, none⟩) m d] 27 (0, 0)) := (hg7.block G XB.out.lt (fun e => by obtain ⟨ad, f1, f2⟩ := block_of e.symm; exact XB.out.qG ad f1 f2)).trans XB.out.heap
      obtain ⟨h70, h71, h72, k70, k71, k72⟩ := three_cells h7
      clear ho7 hg7 hw7 h7
      clear c0 c1 c2 c3 e0 e1 e2 g0 g1 g2 t3
      have hh : (w7.setCell ⟨G, 2, none⟩ (.slice q7 (m + 1 : Nat) y7)).heap[G]? = some (.cells #[.int .i64 x.st, .slice p k r, .slice q7 (m + 1 : Nat) y7] 27 (0, 0)) := HP.out.1.heap
      obtain ⟨e0, e1, e2, -, -, -⟩ := three_cells hh
      have hzz : (w7.setCell ⟨G, 2, none⟩ (.slice q7 (m + 1 : Nat) y7)).heap[w.heap.size]? = some (.cells #[.int .i64 0, .slice none 0 0, .slice none 0 0] 27 (0, 0)) := (DP.out.2.block _ hsA (by omega)).trans HGR.out
      obtain ⟨m0, m1, m2, f0, f1, f2⟩ := three_cells hzz
      obtain ⟨z0, z1, z2, hZ⟩ := three_put hzz (.int .i64 x.st) (.slice p k r) (.slice q7 (m + 1 : Nat) y7)
      have hsW := DP.out.2.size
      clear hZ hh hzz
      go_wp2_with fail
      (try simp only [Exit.inBlock, Exit.then])
      refine bodyPost_ret (by simp [results, Try.results106, go_sem, z0, z1, z2]; try rfl) rfl ?_
      exact leaveMac HP.out.1 DP.out HCW.out HAL.out hsA (HOK.out.push (y := z.neg) HZM.out) _ _ _
     ·have f3 : (y == 3) = false := by simp [n3]
      by_cases n4 : y = 4
      ·subst n4
       go_wp2_with fail
       refine (pickNew b a n c [0, 6, 7] 3 (by omega) (by omega) rfl rfl W4 HD.out.1).mono ?_
       rintro e v5 ⟨z5, hz5, rfl, hd5⟩
       have D5 := Lib.hid (HD.out.trans hd5)
       have X5 := Lib.hid (HX.out.only hd5.2 (by omega))
       have HP := Lib.hid (X5.out.putS z5)
       have DP := Lib.hid (D5.out.under HC.out HP.out.2 (Nat.le_refl _))
       obtain ⟨h70, h71, h72, k70, k71, k72⟩ := three_cells X5.out.heap
       clear hd5
       have hh : (v5.setCell ⟨G, 0, none⟩ (.int .i64 z5)).heap[G]? = some (.cells #[.int .i64 z5, .slice p k r, .slice (some ⟨g, 0, none⟩) m d] 27 (0, 0)) := HP.out.1.heap
       obtain ⟨e0, e1, e2, -, -, -⟩ := three_cells hh
       have hzz : (v5.setCell ⟨G, 0, none⟩ (.int .i64 z5)).heap[w.heap.size]? = some (.cells #[.int .i64 0, .slice none 0 0, .slice none 0 0] 27 (0, 0)) := (DP.out.2.block _ hsA (by omega)).trans HGR.out
       obtain ⟨m0, m1, m2, f0, f1, f2⟩ := three_cells hzz
       obtain ⟨z0, z1, z2, hZ⟩ := three_put hzz (.int .i64 z5) (.slice p k r) (.slice (some ⟨g, 0, none⟩) m d)
       have hsW := DP.out.2.size
       clear hZ hh hzz
       go_wp2_with fail
       (try simp only [Exit.inBlock, Exit.then])
       refine bodyPost_ret (by simp [results, Try.results106, go_sem, z0, z1, z2]; try rfl) rfl ?_
       exact leaveMac HP.out.1 DP.out HCW.out HAL.out hsA (HOK.out.mac z5) _ _ _
      ·have f4 : (y == 4) = false := by simp [n4]
       by_cases n5 : y = 5
       ·subst n5
        obtain ⟨e0, e1, e2, g0, g1, g2⟩ := three_cells HX.out.heap
        have XB : Hid (BoxM WA.heap.size (W4.alloc (.cells #[.bool true] 4)) G x p k r (some ⟨g, 0, none⟩) m d) := Lib.hid (HX.out.same (alloc_same W4 _))
        have DB : Hid (Drawn b a n c WA (W4.alloc (.cells #[.bool true] 4))) := Lib.hid (HD.out.same (alloc_same W4 _))
        have HN : Hid (Bls (W4.alloc (.cells #[.bool true] 4)) (some ⟨W4.heap.size, 0, none⟩) 1 [true]) := Lib.hid (items_new (enc := blEnc) (s := 1) blEnc_len W4 true 4)
        go_wp2_with (at_builtin; refine wpl_appW _ blEnc_len (by omega) blEnc_one rfl (.tmp 80) (.tmp 81) 24 rfl 4 i0 (.bool false) 1 Try.underlying24 HI.out.1 HI.out.2.1 HI.out.2.2.1 HI.out.2.2.2 rfl rfl XB.out.ends rfl HN.out (by omega) ?ca ?cb ?_)
        case ca => omega
        case cb => have := DB.out.2.size; exact this
        intro p7 y7 w7 ho7 hg7 hw7
        have HP := Lib.hid (XB.out.pushE ho7 hg7 hw7)
        have DP : Hid (Drawn b a n c WA (w7.setCell ⟨G, 1, none⟩ (.slice p7 (k + 1 : Nat) y7))) := Lib.hid (DB.out.under HC.out HP.out.2 (Nat.le_refl _))
        have h7 : w7.heap[G]? = some (.cells #[.int .i64 x.st, .slice p k r, .slice (some ⟨g, 0, none⟩) m d] 27 (0, 0)) := (hg7.block G XB.out.lt (fun e => by obtain ⟨ad, f1, f2⟩ := block_of e.symm; exact XB.out.pG ad f1 f2)).trans XB.out.heap
        obtain ⟨h70, h71, h72, k70, k71, k72⟩ := three_cells h7
        clear ho7 hg7 hw7 h7 e0 e1 e2 g0 g1 g2
        have hh : (w7.setCell ⟨G, 1, none⟩ (.slice p7 (k + 1 : Nat) y7)).heap[G]? = some (.cells #[.int .i64 x.st, .slice p7 (k + 1 : Nat) y7, .slice (some ⟨g, 0, none⟩) m d] 27 (0, 0)) := HP.out.1.heap
        obtain ⟨e0, e1, e2, -, -, -⟩ := three_cells hh
        have hzz : (w7.setCell ⟨G, 1, none⟩ (.slice p7 (k + 1 : Nat) y7)).heap[w.heap.size]? = some (.cells #[.int .i64 0, .slice none 0 0, .slice none 0 0] 27 (0, 0)) := (DP.out.2.block _ hsA (by omega)).trans HGR.out
        obtain ⟨m0, m1, m2, f0, f1, f2⟩ := three_cells hzz
        obtain ⟨z0, z1, z2, hZ⟩ := three_put hzz (.int .i64 x.st) (.slice p7 (k + 1 : Nat) y7) (.slice (some ⟨g, 0, none⟩) m d)
        have hsW := DP.out.2.size
        clear hZ hh hzz
        go_wp2_with fail
        (try simp only [Exit.inBlock, Exit.then])
        refine bodyPost_ret (by simp [results, Try.results106, go_sem, z0, z1, z2]; try rfl) rfl ?_
        exact leaveMac HP.out.1 DP.out HCW.out HAL.out hsA (HOK.out.more true) _ _ _
       ·have f5 : (y == 5) = false := by simp [n5]
        have hh : (W4).heap[G]? = some (.cells #[.int .i64 x.st, .slice p k r, .slice (some ⟨g, 0, none⟩) m d] 27 (0, 0)) := HX.out.heap
        obtain ⟨e0, e1, e2, -, -, -⟩ := three_cells hh
        have hzz : (W4).heap[w.heap.size]? = some (.cells #[.int .i64 0, .slice none 0 0, .slice none 0 0] 27 (0, 0)) := (HD.out.2.block _ hsA (by omega)).trans HGR.out
        obtain ⟨m0, m1, m2, f0, f1, f2⟩ := three_cells hzz
        obtain ⟨z0, z1, z2, hZ⟩ := three_put hzz (.int .i64 x.st) (.slice p k r) (.slice (some ⟨g, 0, none⟩) m d)
        have hsW := HD.out.2.size
        clear hZ hh hzz
        go_wp2_with fail
        (try simp only [Exit.inBlock, Exit.then])
        refine bodyPost_ret (by simp [results, Try.results106, go_sem, z0, z1, z2]; try rfl) rfl ?_
        exact leaveMac HX.out HD.out HCW.out HAL.out hsA (HOK.out.mac x.st) _ _ _
end Go.Proofs.Ytckmgbobkffabaa
namespace Go.Proofs.Ytckmgbobkffabaa
open Go.ChangeShapes Go.WideShapes Go.ChangeAt Go.RowKit
set_option linter.unusedVariables false
set_option linter.unusedSimpArgs false

set_option maxRecDepth 100000 in
theorem copyBools_any {a : Option Addr} {n c : Nat} {l : List Bool} {w : World} (h : Bls w a n l) (hn : n ≤ 1048576000) :
  Calls Try.prog 91 #[.slice a n c] w (MadeI blEnc 1 4 w.heap.size l w) := by
 have H := Lib.hid h
 clear h
 obtain ⟨i0, hi, hz0, hz1, hz2⟩ := info_parts infoBoolS
 have HI := Lib.hid (And.intro hi (And.intro hz0 (And.intro hz1 hz2)))
 clear hi hz0 hz1 hz2
 unfold MadeI
 go_enter Try.func91, Try.ntmps91
 go_wp2_with (at_builtin; refine wpl_app_someI _ blEnc_len (by omega) blEnc_one rfl (.tmp 3) (.tmp 4) 24 rfl 4 i0 (.bool false) 1 Try.underlying24 HI.out.1 HI.out.2.1 HI.out.2.2.1 HI.out.2.2.2 rfl rfl (own_emptyI 4 (Nat.le_refl _)) rfl (H.out.same (alloc_same w _)) (by omega) ?c1 ?c2 ?_)
 case c1 => omega
 case c2 => simp
 intro g3 c3 w3 ho3 hb3
 have HO3 := Lib.hid ho3
 have HB3 : Hid (Below w.heap.size w w3) := Lib.hid ((alloc_same w _).trans hb3)
 clear ho3 hb3
 go_wp2_with fail
 go_ret
 refine ⟨_, _, _, rfl, ?_, HB3.out⟩
 simpa using HO3.out
set_option maxRecDepth 100000 in
theorem copyMoves_any {a : Option Addr} {n c : Nat} {l : List Mv} {w : World} (h : Mvs w a n l) (hn : n ≤ 1048576000) :
  Calls Try.prog 92 #[.slice a n c] w (MadeI Mv.enc 4 63 w.heap.size l w) := by
 have H := Lib.hid h
 clear h
 obtain ⟨i0, hi, hz0, hz1, hz2⟩ := info_parts infoMoveS
 have HI := Lib.hid (And.intro hi (And.intro hz0 (And.intro hz1 hz2)))
 clear hi hz0 hz1 hz2
 unfold MadeI
 go_enter Try.func92, Try.ntmps92
 go_wp2_with (at_builtin; refine wpl_app_someI _ Mv.enc_len (by omega) Mv.cells rfl (.tmp 3) (.tmp 4) 25 rfl 63 i0 (.agg #[.int .i64 0, .bool false, .int .i64 0, .int .i64 0]) 32 Try.underlying25 HI.out.1 HI.out.2.1 HI.out.2.2.1 HI.out.2.2.2 rfl rfl (own_emptyI 63 (Nat.le_refl _)) rfl (H.out.same (alloc_same w _)) (by omega) ?c1 ?c2 ?_)
 case c1 => omega
 case c2 => simp
 intro g3 c3 w3 ho3 hb3
 have HO3 := Lib.hid ho3
 have HB3 : Hid (Below w.heap.size w w3) := Lib.hid ((alloc_same w _).trans hb3)
 clear ho3 hb3
 go_wp2_with fail
 go_ret
 refine ⟨_, _, _, rfl, ?_, HB3.out⟩
 simpa using HO3.out

set_option maxHeartbeats 4000000 in
set_option maxRecDepth 100000 in
theorem copyMachine_any {w : World} {v : Value} {x : Mac} (h : MacW w v x) (hn : x.parts ≤ 1048576000) : Calls Try.prog 58 #[v] w (MadeMac w.heap.size x w) := by
 obtain ⟨a, n, c, b, m, d, rfl, h1, h2, h3, h4⟩ := h
 have e1 := h1.len
 have e2 := h2.len
 unfold Mac.parts at hn
 rw [e1, e2] at hn
 obtain ⟨hB, hX, hM, hsz⟩ := twice w #[.int .i64 x.st, .slice a n c, .slice b m d] #[.int .i64 0, .slice none 0 0, .slice none 0 0] 27 27
 have H1 := Lib.hid (h1.same hB)
 have H2 := Lib.hid (h2.same hB)
 have HE := Lib.hid (And.intro e1 e2)
 have HB := Lib.hid hB
 clear h1 h2 h3 h4 hB e1 e2
 unfold MadeMac
 go_enter Try.func58, Try.ntmps58
 go_wp2_with fail
 generalize (w.alloc (.cells #[.int .i64 x.st, .slice a n c, .slice b m d] 27)).alloc (.cells #[.int .i64 0, .slice none 0 0, .slice none 0 0] 27) = W0 at *
 have C := Lib.hid (three_cells hX)
 have HM := Lib.hid hM
 have hszB := HB.out.size
 clear hX hM
 have H1d : Hid (Bls W0.drew a n x.ends) := Lib.hid (H1.out.same (Below.refl _ _).drew)
 go_region_held3 (fun w9 => w9.cell? ⟨w.heap.size, 0, none⟩ = some (.int .i64 x.st) ∧ w9.cell? ⟨w.heap.size, 1, none⟩ = some (.slice a n c) ∧ w9.cell? ⟨w.heap.size, 2, none⟩ = some (.slice b m d)) (first | exact ⟨cell_stay C.out.1 (Below.refl _ _).drew, cell_stay C.out.2.1 (Below.refl _ _).drew, cell_stay C.out.2.2.1 (Below.refl _ _).drew⟩ | exact ⟨cell_stay C.out.1 HB3.out, cell_stay C.out.2.1 HB3.out, cell_stay C.out.2.2.1 HB3.out⟩ | exact ⟨cell_stay C.out.1 HB4.out, cell_stay C.out.2.1 HB4.out, cell_stay C.out.2.2.1 HB4.out⟩ | exact ⟨cell_apart (cell_stay C.out.1 HB4.out) (((put_grown _ _ _ _).trans (put_grown _ _ _ _)).trans (put_grown _ _ _ _)) (by simp), cell_apart (cell_stay C.out.2.1 HB4.out) (((put_grown _ _ _ _).trans (put_grown _ _ _ _)).trans (put_grown _ _ _ _)) (by simp), cell_apart (cell_stay C.out.2.2.1 HB4.out) (((put_grown _ _ _ _).trans (put_grown _ _ _ _)).trans (put_grown _ _ _ _)) (by simp)⟩) ((first | (go_at_call 91; refine (copyBools_any H1d.out (by omega)).mono ?_; rintro e w3 ⟨a3, m3, c3, rfl, ho3, hb3⟩; obtain rfl : n = m3 := (by rw [← ho3.len]; exact HE.out.1.symm); have HO3 : Hid (OwnBl 4 w3 W0.heap.size a3 n c3 x.ends) := Lib.hid ho3; have HB3 : Hid (Below W0.heap.size W0 w3) := Lib.hid ((Below.refl _ _).drew.trans hb3); clear ho3 hb3) | (go_at_call 92; refine (copyMoves_any (H2.out.same HB3.out) (by omega)).mono ?_; rintro e w4 ⟨a4, m4, c4, rfl, ho4, hb4⟩; obtain rfl : m = m4 := (by rw [← ho4.len]; exact HE.out.2.symm); have HO4 : Hid (OwnM 63 w4 w3.heap.size a4 m c4 x.moves) := Lib.hid ho4; have HO3' : Hid (OwnBl 4 w4 W0.heap.size a3 n c3 x.ends) := Lib.hid (HO3.out.same hb4); have HB4 : Hid (Below W0.heap.size W0 w4) := Lib.hid (HB3.out.trans (hb4.mono HB3.out.size)); have hs4 := hb4.size; have hM4 : w4.heap[w.heap.size + 1]? = some (.cells #[.int .i64 0, .slice none 0 0, .slice none 0 0] 27 (0, 0)) := (HB4.out.block _ (by omega)).trans HM.out; obtain ⟨m0, m1, m2, g0, g1, g2⟩ := three_cells hM4; clear ho4 hb4)))
 obtain ⟨z0, z1, z2, hZ⟩ := three_put hM4 (.int .i64 x.st) (.slice a3 n c3) (.slice a4 m c4)
 have HS3 := Lib.hid HO3.out.span
 have HS4 := Lib.hid HO4.out.span
 have HG4 : Hid (Below w.heap.size w w4) := Lib.hid (HB.out.trans (HB4.out.mono hszB))
 have hs3 := HB3.out.size
 clear hM4 m0 m1 m2 g0 g1 g2 hZ
 go_wp2_with fail
 (try simp only [Exit.inBlock, Exit.then])
 refine bodyPost_ret (by simp [results, Try.results58, go_sem, z0, z1, z2]; try rfl) rfl ?_
 have hq : ∀ ad, a3 = some ad → ad.block ≠ w.heap.size + 1 := fun ad e => by
  have := (HS3.out ad e).1
  omega
 have hp : ∀ ad, a4 = some ad → ad.block ≠ w.heap.size + 1 := fun ad e => by
  have := (HS4.out ad e).1
  omega
 refine ⟨_, rfl, ⟨a3, n, c3, a4, m, c4, rfl, (((HO3'.out.set hq _).set hq _).set hq _).lower (by omega), (((HO4.out.set hp _).set hp _).set hp _).lower (by omega), fun f g ef eg => ?_, ?_, ?_, Nat.le_refl _, HO3.out.room, HO4.out.room⟩, ((HG4.out.setCell (by dsimp only; omega) _).setCell (by dsimp only; omega) _).setCell (by dsimp only; omega) _⟩
 ·have h1 := HS3.out f ef
  have h2 := HS4.out g eg
  omega
 ·exact fun ad e => by
   have := HS3.out ad e
   simp only [World.size_setCell]
   omega
 ·exact fun ad e => by
   have := HS4.out ad e
   simp only [World.size_setCell]
   omega

set_option maxRecDepth 100000 in
theorem turnRound_any {g o : Nat} {z : Bool} {w : World} (h : w.cell? ⟨g, o + 1, none⟩ = some (.bool z)) (hf : w.frozen? ⟨g, o + 1, none⟩ = false) :
  Calls Try.prog 59 #[.pointer (some ⟨g, o, none⟩)] w fun e w' => e = .returned (.tuple #[]) ∧ w' = w.setCell ⟨g, o + 1, none⟩ (.bool (!z)) := by
 go_enter Try.func59, Try.ntmps59
 go_wp2
 go_returns
 exact ⟨rfl, rfl⟩

set_option maxHeartbeats 4000000 in
set_option maxRecDepth 100000 in
theorem dualOf_any {w : World} {v : Value} {x : Mac} (h : MacW w v x) (hn : x.parts ≤ 1000000000) : Calls Try.prog 20 #[v] w (MadeMac w.heap.size (dualM x) w) := by
 obtain ⟨a, n, c, b, m, d, rfl, h1, h2, h3, h4⟩ := h
 obtain ⟨hB, hX, hM, hsz⟩ := twice w #[.int .i64 x.st, .slice a n c, .slice b m d] #[.int .i64 0, .slice none 0 0, .slice none 0 0] 27 27
 have HM0 : Hid (MacW ((w.alloc (.cells #[.int .i64 x.st, .slice a n c, .slice b m d] 27)).alloc (.cells #[.int .i64 0, .slice none 0 0, .slice none 0 0] 27)) (.agg #[.int .i64 x.st, .slice a n c, .slice b m d]) x) := Lib.hid (MacW.same ⟨a, n, c, b, m, d, rfl, h1, h2, h3, h4⟩ hB)
 have HB := Lib.hid hB
 clear h1 h2 h3 h4 hB
 unfold MadeMac
 go_enter Try.func20, Try.ntmps20
 go_wp2_with fail
 generalize (w.alloc (.cells #[.int .i64 x.st, .slice a n c, .slice b m d] 27)).alloc (.cells #[.int .i64 0, .slice none 0 0, .slice none 0 0] 27) = W0 at *
 have HM := Lib.hid hM
 have C := Lib.hid (three_cells hX)
 clear hX hM
 refine (copyMachine_any HM0.out (by omega)).mono ?_
 rintro e w1 ⟨v1, rfl, ⟨p, k, r, q, u, y, rfl, ho1, ho2, hsep, hs1, hs2, _, hr1, hr2⟩, hb⟩
 have HO1 := Lib.hid ho1
 have HO2 := Lib.hid ho2
 have HS := Lib.hid (And.intro hsep (And.intro hs1 (And.intro hs2 (And.intro hr1 hr2))))
 have hM1 := (hb.block (w.heap.size + 1) (by omega)).trans HM.out
 have HB1 := Lib.hid (HB.out.trans (hb.mono HB.out.size))
 have hsz1 := hb.size
 clear ho1 ho2 hsep hs1 hs2 hr1 hr2 hb
 go_wp2_with fail
 have HK := Lib.hid (And.intro hM1 HB1.out.size)
 clear hM1
 generalize hW1 : w1.alloc (.cells #[.int .i64 x.st, .slice p k r, .slice q u y] 27) = W1 at *
 have hBW : Below w1.heap.size w1 W1 := hW1 ▸ alloc_same w1 _
 have hT : W1.heap[w1.heap.size]? = some (.cells #[.int .i64 x.st, .slice p k r, .slice q u y] 27 (0, 0)) := by rw [← hW1]; exact heap_alloc_new w1 _
 have hG : W1.heap[w.heap.size + 1]? = some (.cells #[.int .i64 0, .slice none 0 0, .slice none 0 0] 27 (0, 0)) := (hBW.block _ (by omega)).trans HK.out.1
 have hz1 : W1.heap.size = w1.heap.size + 1 := by rw [← hW1]; simp
 have HT := Lib.hid (And.intro hT hG)
 have HE := Lib.hid (HO1.out.same hBW)
 have HV := Lib.hid (HO2.out.same hBW)
 have HL := Lib.hid HO2.out.len
 have hu : (u : Int) ≤ 9223372036854775807 := by have := HS.out.2.2.2.2; omega
 have HBW := Lib.hid (HB1.out.trans (hBW.mono HB1.out.size))
 clear hT hG hBW hW1
 go_loopw [10] (fun i wr => ∃ j : Nat, j ≤ u ∧ i = .int .i64 j ∧ OwnM 63 wr W0.heap.size q u y (turned x.moves j) ∧ W1.grownBy wr (Value.ownBlock (.slice q u y))) (fun i _ => u - (intOf i).toNat)
 case atStart => exact ⟨0, Nat.zero_le _, rfl, by rw [turned_zero]; exact HV.out, grown_below (Below.refl _ _) _⟩
 case round =>
  obtain ⟨j, hj, rfl, ho, hg⟩ := hrel
  have hT1 : wr.heap[w1.heap.size]? = some (.cells #[.int .i64 x.st, .slice p k r, .slice q u y] 27 (0, 0)) := (hg.block _ (by omega) (fun e => by
   obtain ⟨ad, e1, e2⟩ := block_of e.symm
   have := HS.out.2.2.1 ad e1
   omega)).trans HT.out.1
  have hG1 : wr.heap[w.heap.size + 1]? = some (.cells #[.int .i64 0, .slice none 0 0, .slice none 0 0] 27 (0, 0)) := (hg.block _ (by omega) (fun e => by
   obtain ⟨ad, e1, e2⟩ := block_of e.symm
   have := HS.out.2.2.1 ad e1
   omega)).trans HT.out.2
  have HO := Lib.hid ho
  have HG := Lib.hid hg
  clear ho hg
  obtain ⟨t0, t1, t2, tf0, tf1, tf2⟩ := three_cells hT1
  by_cases hlt : j < u
  ·obtain ⟨g, e, hg0, hg1⟩ := HO.out.head (by omega)
   subst e
   obtain ⟨b1, o1, z, e, hx, hc0, hc1, hc2, hc3⟩ := mvs_at (HO.out.items Mv.enc_len) hlt
   cases e
   rw [Nat.zero_add] at hc0 hc1 hc2 hc3
   obtain ⟨z', hz'⟩ : ∃ z', x.moves[j]? = some z' := ⟨_, List.getElem?_eq_getElem (by rw [HL.out]; exact hlt)⟩
   have hzz := turned_at hz'
   rw [hx] at hzz
   cases hzz
   have HX := Lib.hid (And.intro hx hz')
   have hf1 := HO.out.row.frozenAt (j * 4 + 1)
   clear hx hz' hc0 hc2 hc3
   go_wp2_with fail
   refine (turnRound_any hc1 hf1).mono ?_
   rintro e w2 ⟨rfl, rfl⟩
   have hs := own_putI Mv.enc_len (i := 1) (y := z.neg) (v := .bool (!z.send)) HO.out HX.out.1 (by omega) rfl
   rw [turned_step HX.out.2] at hs
   have HO9 := Lib.hid hs.1
   have HG9 := Lib.hid (HG.out.trans hs.2)
   clear hs hc1 hf1 t0 t1 t2 tf0 tf1 tf2 hT1 hG1
   go_wp2_with fail
   go_roundw
   case rel => exact ⟨j + 1, by omega, by go_num, HO9.out, HG9.out⟩
   case measure => simp [intOf]; omega
  ·obtain rfl : j = u := by omega
   obtain ⟨m0, m1, m2, g0, g1, g2⟩ := three_cells hG1
   obtain ⟨z0, z1, z2, hZ⟩ := three_put hG1 (.int .i64 x.st) (.slice p k r) (.slice q j y)
   clear hZ hG1 hT1
   have HO3 := Lib.hid (OwnI.sep HE.out HG.out HS.out.1)
   have HS2 := Lib.hid (grown_to HG.out HBW.out (HS.out.2.2.1) (by omega) (by omega))
   have hsr := HG.out.size
   go_wp2_with fail
   (try simp only [Exit.inBlock, Exit.then])
   refine bodyPost_ret (by simp [results, Try.results20, go_sem, z0, z1, z2]; try rfl) rfl ?_
   have hq : ∀ ad, p = some ad → ad.block ≠ w.heap.size + 1 := fun ad e => by
    have := (HS.out.2.1 ad e).1
    omega
   have hp : ∀ ad, q = some ad → ad.block ≠ w.heap.size + 1 := fun ad e => by
    have := (HS.out.2.2.1 ad e).1
    omega
   have HF := HO.out
   rw [turned_all _ _ HL.out] at HF
   refine ⟨_, rfl, ⟨p, k, r, q, j, y, rfl, (((HO3.out.set hq _).set hq _).set hq _).lower (by omega), (((HF.set hp _).set hp _).set hp _).lower (by omega), HS.out.1, ?_, ?_, Nat.le_refl _, HS.out.2.2.2.1, HS.out.2.2.2.2⟩, ((HS2.out.setCell (by dsimp only; omega) _).setCell (by dsimp only; omega) _).setCell (by dsimp only; omega) _⟩
   ·exact fun ad e => by
     have := HS.out.2.1 ad e
     simp only [World.size_setCell]
     omega
   ·exact fun ad e => by
     have := HS.out.2.2.1 ad e
     simp only [World.size_setCell]
     omega
end Go.Proofs.Ytckmgbobkffabaa
