/- The pairs of states that follow: by the model. Whether a machine is valid: IsMachine by the model. -/
import Derived.Test.YtckmgbobkffabaaG20
import Derived.Test.YtckmgbobkffabaaG25
import Derived.Test.YtckmgbobkffabaaG26
import Derived.StillTailTactics
import Derived.Test.YtckmgbobkffabaaG14
import Derived.Test.YtckmgbobkffabaaG1
namespace Go.Proofs.Ytckmgbobkffabaa
open Go.ChangeShapes Go.WideShapes Go.ChangeAt Go.RowKit
set_option linter.unusedVariables false
set_option linter.unusedSimpArgs false

theorem deliv_some {x y : Mac} {s t k r q : Int} (h1 : toOf x.moves s true k = some q) (h2 : toOf y.moves t false k = some r) : deliv x s y t k = some (q, r) := by
 unfold deliv
 rw [h1, h2]
 rfl
theorem deliv_none {x y : Mac} {s t k : Int} (h2 : toOf y.moves t false k = none) : deliv x s y t k = none := by
 unfold deliv
 rw [h2]
 rfl
theorem moveOf_none {x : Mac} {s : Int} {b : Bool} {k : Int} (h : toOf x.moves s b k = none) : moveOf x s b k = -1 := firstAt_none (toOf_none h)
theorem moveOf_some {x : Mac} {s : Int} {b : Bool} {k t : Int} (h : toOf x.moves s b k = some t) : ∃ (j : Nat) (m : Mv), moveOf x s b k = (j : Int) ∧ x.moves[j]? = some m ∧ m.to = t := by
 rcases firstAt_cases (hitM s b k) x.moves with ⟨_, hn⟩ | ⟨j, m, e, hm, hp, hb⟩
 ·obtain ⟨m, h1, _, h2⟩ := toOf_mem h
  rw [List.any_eq_false] at hn
  exact absurd h2 (by simpa using hn m h1)
 ·refine ⟨j, m, e, hm, ?_⟩
  have := toOf_first hm hp hb
  rw [h] at this
  exact (Option.some.inj this).symm
/-- Only block g has changed, or what is new. -/
def Kp (g : Nat) (w w' : World) : Prop := ∀ k, k < w.heap.size → k ≠ g → w'.heap[k]? = w.heap[k]?
theorem Kp.cell {g : Nat} {w w' : World} {p : Addr} {v : Value} (h : Kp g w w') (hc : w.cell? p = some v) (hne : p.block ≠ g) : w'.cell? p = some v := by
 have := h p.block (cell_in hc) hne
 unfold World.cell? at hc ⊢
 rw [this]
 exact hc
theorem Kp.below {g : Nat} {w w' : World} (h : Below w.heap.size w w') : Kp g w w' := fun k hk _ => h.block k hk
theorem Kp.grow {g : Nat} {w w1 w2 : World} (h : Below w.heap.size w w1) (hg : w1.grownBy w2 (some g)) : Kp g w w2 := fun k hk hne => by
 have := h.size
 rw [hg.block k (by omega) (fun e => hne (Option.some.inj e)), h.block k hk]
theorem items_two (w : World) (p : Int × Int) : Items rowEnc 1 ((w.alloc (.cells #[.int .i64 p.1, .int .i64 p.2] 3)).alloc (.cells #[.slice (some ⟨w.heap.size, 0, none⟩) 2 2] 31)) (some ⟨w.heap.size + 1, 0, none⟩) 1 [w.heap.size] := by
 have := items_new rowEnc_len (w.alloc (.cells #[.int .i64 p.1, .int .i64 p.2] 3)) w.heap.size 31
 rw [World.size_alloc] at this
 exact this
theorem Nums.kp {k : IntKind} {g : Nat} {w w' : World} {a : Option Addr} {n : Nat} {l : List Int} (h : Nums k w a n l) (hb : Kp g w w') (hne : ∀ ad, a = some ad → ad.block ≠ g) : Nums k w' a n l :=
 ⟨h.len, h.fits, fun j hj => by
  obtain ⟨ad, e, hx⟩ := h.cell j hj
  exact ⟨ad, e, hb.cell hx (by rw [addr_block]; exact hne ad e)⟩⟩
theorem row_push {rs : List Nat} {w w1 w' : World} {B g n c : Nat} {l : List (Int × Int)} {g' c' : Nat} {p : Int × Int} (h : OwnRs rs w.heap.size w B g n c l) (hb : Below w.heap.size w w1)
  (ho : OwnI rowEnc 1 31 w' B (some ⟨g', 0, none⟩) (n + 1) c' (rs ++ [w1.heap.size]))
  (hg : ((w1.alloc (.cells #[.int .i64 p.1, .int .i64 p.2] 3)).alloc (.cells #[.slice (some ⟨w1.heap.size, 0, none⟩) 2 2] 31)).grownBy w' (some g))
  (hg' : g' = g ∨ g' = ((w1.alloc (.cells #[.int .i64 p.1, .int .i64 p.2] 3)).alloc (.cells #[.slice (some ⟨w1.heap.size, 0, none⟩) 2 2] 31)).heap.size) : OwnRs (rs ++ [w1.heap.size]) w'.heap.size w' B g' (n + 1) c' (l ++ [p]) := by
 obtain ⟨hB, hX, _, hS⟩ := twice w1 #[.int .i64 p.1, .int .i64 p.2] #[.slice (some ⟨w1.heap.size, 0, none⟩) 2 2] 3 31
 have hs := hb.size
 have hlo := h.lo
 have hhi := h.hi
 exact ((h.same hb).same hB).push hX (by omega) (by omega) (fun q hq => by have := (h.out q hq).2.1; omega) ho hg hg'
set_option maxHeartbeats 8000000 in
set_option maxRecDepth 100000 in
theorem specNextPairs_any {v v' : Value} {a b : Mac} (x y : Int) {w : World} (h : MacW w v a) (h' : MacW w v' b) (hn : a.parts ≤ 10000000) (hn' : b.parts ≤ 10000000) :
  Calls Try.prog 28 #[v, v', .int .i64 x, .int .i64 y] w (MadeR w.heap.size (nextP a b x y) w) := by
 obtain ⟨p, np, cp, q, n, c, rfl, _, hma, _, hra1, hra2⟩ := id h
 obtain ⟨p', np', cp', q', n', c', rfl, _, hmb, _, hrb1, hrb2⟩ := id h'
 obtain ⟨i0, hi, hz0, hz1, hz2⟩ := info_parts infoR
 have HI := Lib.hid (And.intro hi (And.intro hz0 (And.intro hz1 hz2)))
 clear hi hz0 hz1 hz2
 obtain ⟨hB, hX, hY, hS⟩ := twice w #[.int .i64 a.st, .slice p np cp, .slice q n c] #[.int .i64 b.st, .slice p' np' cp', .slice q' n' c'] 27 27
 have hlna := hma.len
 have hlnb := hmb.len
 have hpa : a.moves.length ≤ a.parts := by unfold Mac.parts; omega
 have hpb : b.moves.length ≤ b.parts := by unfold Mac.parts; omega
 have HB := Lib.hid hB
 have HSZ := Lib.hid hS
 have HX := Lib.hid hX
 have HY := Lib.hid hY
 have HMA := Lib.hid (h.same hB)
 have HMB := Lib.hid (h'.same hB)
 have HVA := Lib.hid hma
 have HVB := Lib.hid hmb
 have hxl : w.heap.size < ((w.alloc (.cells #[.int .i64 a.st, .slice p np cp, .slice q n c] 27)).alloc (.cells #[.int .i64 b.st, .slice p' np' cp', .slice q' n' c'] 27)).heap.size := (Array.getElem?_eq_some_iff.1 hX).1
 have hyl : w.heap.size + 1 < ((w.alloc (.cells #[.int .i64 a.st, .slice p np cp, .slice q n c] 27)).alloc (.cells #[.int .i64 b.st, .slice p' np' cp', .slice q' n' c'] 27)).heap.size := (Array.getElem?_eq_some_iff.1 hY).1
 clear hB hX hY hS h h' hma hmb
 unfold MadeR
 go_enter Try.func28, Try.ntmps28
 obtain ⟨x0, x1, x2, -⟩ := three_cells ((alloc_same _ (.cells #[] 31)).block _ hxl |>.trans HX.out)
 go_wp2_with fail
 clear x0 x1 x2
 generalize (w.alloc (.cells #[.int .i64 a.st, .slice p np cp, .slice q n c] 27)).alloc (.cells #[.int .i64 b.st, .slice p' np' cp', .slice q' n' c'] 27) = W0 at *
 have HA1 := Lib.hid (alloc_same W0 (.cells #[] 31))
 have hO1 := (OwnRs.nil (w := W0) (Nat.le_refl W0.heap.size))
 rw [← World.size_alloc W0 (.cells #[] 31)] at hO1
 have HO1 : Hid (OwnRs [] (W0.alloc (.cells #[] 31)).heap.size (W0.alloc (.cells #[] 31)) W0.heap.size (w.heap.size + 1 + 1) 0 0 []) := Lib.hid (by
  have e := HSZ.out
  rw [show w.heap.size + 1 + 1 = W0.heap.size by omega]
  exact hO1)
 have hs1 : (W0.alloc (.cells #[] 31)).heap.size = W0.heap.size + 1 := by simp
 have hs1a : W0.heap.size < (W0.alloc (.cells #[] 31)).heap.size := by omega
 clear hO1 hs1
 generalize W0.alloc (.cells #[] 31) = W1 at *
 have HD1 : Hid (Below W0.heap.size W0 W1) := Lib.hid HA1.out
 refine (specMovesFrom_any x true (HMA.out.same HD1.out) (by omega)).mono ?_
 rintro e w2 ⟨a4, n4, c4, rfl, ho4, hb4⟩
 have hn4 := ho4.len
 have hroom4 := ho4.room
 have hlm := movesFrom_len a x true
 have hsz4 := hb4.size
 have HN4 := Lib.hid ho4.nums
 have HSP := Lib.hid ho4.span
 have HD4 : Hid (Below W0.heap.size W0 w2) := Lib.hid (HD1.out.trans (hb4.mono HD1.out.size))
 have HO4 := Lib.hid ((HO1.out.same hb4).upper hb4.size (Nat.le_refl _))
 obtain ⟨L, hL⟩ : ∃ z, z = W1.heap.size := ⟨_, rfl⟩
 obtain ⟨H, hH⟩ : ∃ z, z = w2.heap.size := ⟨_, rfl⟩
 replace HSP : Hid (Span a4 L H) := Lib.hid (by rw [hL, hH]; exact HSP.out)
 have hg4 : w.heap.size + 1 + 1 < L := by rw [hL]; have := HSZ.out; omega
 have hH4 : H ≤ w2.heap.size := by omega
 have hLW : W0.heap.size ≤ L := by have := HD1.out.size; omega
 clear ho4 hb4 hL hH
 go_wp2_with fail
 go_loopw [9, 11] (fun s9 s11 wr => ∃ (rs : List Nat) (j g5 n5 c5 : Nat), j ≤ n4 ∧ s11 = .int .i64 j ∧ s9 = .slice (some ⟨g5, 0, none⟩) n5 c5 ∧ OwnRs rs wr.heap.size wr W0.heap.size g5 n5 c5 (((movesFrom a x true).take j).filterMap (deliv a x b y)) ∧ n5 ≤ j ∧ (g5 < L ∨ H ≤ g5) ∧ Nums .i64 wr a4 n4 (movesFrom a x true) ∧ Below W0.heap.size W0 wr ∧ H ≤ wr.heap.size) (fun _ i _ => n4 - (intOf i).toNat)
 case atStart => exact ⟨[], 0, w.heap.size + 1 + 1, 0, 0, Nat.zero_le _, rfl, rfl, by simpa using HO4.out, by omega, Or.inl hg4, HN4.out, HD4.out, hH4⟩
 case round =>
  obtain ⟨rs, j, g5, n5, c5, hj, rfl, rfl, ho, hn5, hg5, hnu, hb, hHr⟩ := hrel
  have HO := Lib.hid ho
  have HN := Lib.hid hnu
  have HD := Lib.hid hb
  have hlo5 := ho.lo
  have hhi5 := ho.hi
  have hroom5 := ho.room
  clear ho hnu hb
  by_cases hlt : j < n4
  ·obtain ⟨ad, km, e4, hk, hc⟩ := HN.out.at_ hlt
   have hkm := List.mem_of_getElem? hk
   obtain ⟨tq, hq⟩ := sent_to hkm
   have HSP2 := Lib.hid HSP.out
   subst e4
   have hadb := HSP2.out ad rfl
   have HC := Lib.hid hc
   obtain ⟨x0, x1, x2, -⟩ := three_cells ((HD.out.block _ hxl).trans HX.out)
   obtain ⟨y0, y1, y2, -⟩ := three_cells ((HD.out.block _ hyl).trans HY.out)
   have HXC := Lib.hid (And.intro x0 (And.intro x1 x2))
   have HYC := Lib.hid (And.intro y0 (And.intro y1 y2))
   cases hr : toOf b.moves y false km with
   | none =>
    have HE : Hid (((movesFrom a x true).take (j + 1)).filterMap (deliv a x b y) = ((movesFrom a x true).take j).filterMap (deliv a x b y)) := Lib.hid (by
     rw [List.take_add_one, hk, List.filterMap_append]
     simp [deliv_none hr])
    have hmo := moveOf_none hr
    have HMO := Lib.hid (fun W' hb' => specMoveOf_any y false km (HMB.out.same (w' := W') (HD.out.trans hb')))
    rw [hmo] at HMO
    clear hr hq hk hkm hmo
    go_wp2_with fail
    go_still_tail 6, (by kernel_rfl)
    have H2 : Hid (Below W0.heap.size wr wr.drew) := Lib.hid (Below.refl _ _).drew
    have H3 : Hid (Below wr.heap.size wr wr.drew) := Lib.hid (Below.refl _ _).drew
    change wpList _ _ _ _ _ wr.drew
    generalize wr.drew = w3 at H2 H3 ⊢
    clear x0 x1 x2 y0 y1 y2 hc
    go_wp2_with fail
    refine (HMO.out w3 H2.out).mono ?_
    rintro e w6 ⟨rfl, hb6⟩
    have HB6 : Hid (Below wr.heap.size wr w6) := Lib.hid (H3.out.trans (hb6.mono H3.out.size))
    have hs6 := HB6.out.size
    clear hb6
    go_wp2_with fail
    go_roundw
    case rel => exact ⟨rs, j + 1, g5, n5, c5, by omega, by go_num, rfl, by rw [HE.out]; exact (HO.out.same HB6.out).upper HB6.out.size (Nat.le_refl _), by omega, hg5, HN.out.same HB6.out, HD.out.trans (HB6.out.mono HD.out.size), by omega⟩
    case measure => simp [intOf]; omega
   | some tr =>
    obtain ⟨jr, mr, hmr, hjr, etr⟩ := moveOf_some hr
    obtain ⟨js, ms, hms, hjs, ets⟩ := moveOf_some hq
    subst etr
    subst ets
    have HE : Hid (((movesFrom a x true).take (j + 1)).filterMap (deliv a x b y) = (((movesFrom a x true).take j).filterMap (deliv a x b y)) ++ [(ms.to, mr.to)]) := Lib.hid (by
     rw [List.take_add_one, hk, List.filterMap_append]
     simp [deliv_some hq hr])
    have HMO := Lib.hid (fun W' hb' => specMoveOf_any y false km (HMB.out.same (w' := W') (HD.out.trans hb')))
    have HMS := Lib.hid (fun W' hb' => specMoveOf_any x true km (HMA.out.same (w' := W') (HD.out.trans hb')))
    rw [hmr] at HMO
    rw [hms] at HMS
    obtain ⟨br, or, er, hcr⟩ := HVB.out.cell jr mr hjr
    obtain ⟨bs, os, es, hcs⟩ := HVA.out.cell js ms hjs
    have hcr3 := hcr 3 _ rfl
    have hcs3 := hcs 3 _ rfl
    have hbr : br < w.heap.size := cell_in hcr3
    have hbs : bs < w.heap.size := cell_in hcs3
    have HCR := Lib.hid (cell_stay hcr3 (HB.out.trans (HD.out.mono HB.out.size)))
    have HCS := Lib.hid (cell_stay hcs3 (HB.out.trans (HD.out.mono HB.out.size)))
    have hjrn : jr < b.moves.length := at_lt hjr
    have hjsn : js < a.moves.length := at_lt hjs
    have hjrn2 : jr < n' := by omega
    have hjsn2 : js < n := by omega
    subst er
    subst es
    clear hr hq hk hkm hmr hms hcr hcs hcr3 hcs3 hjr hjs
    go_wp2_with fail
    go_still_tail 6, (by kernel_rfl)
    have H2 : Hid (Below W0.heap.size wr wr.drew) := Lib.hid (Below.refl _ _).drew
    have H3 : Hid (Below wr.heap.size wr wr.drew) := Lib.hid (Below.refl _ _).drew
    change wpList _ _ _ _ _ wr.drew
    generalize wr.drew = w3 at H2 H3 ⊢
    clear x0 x1 x2 y0 y1 y2 hc
    go_wp2_with fail
    refine (HMO.out w3 H2.out).mono ?_
    rintro e w6 ⟨rfl, hb6⟩
    have HB6 : Hid (Below wr.heap.size wr w6) := Lib.hid (H3.out.trans (hb6.mono H3.out.size))
    have hs6 := HB6.out.size
    have HBW6 : Hid (Below W0.heap.size wr w6) := Lib.hid (HB6.out.mono HD.out.size)
    clear hb6
    have hs5 := HD.out.size
    have hbw : w.heap.size ≤ W0.heap.size := by omega
    go_wp2_with fail
    refine wp_region_held_drew (S := fun w9 => Kp g5 w6 w9) (by kernel_rfl) (Kp.below (Below.refl _ w6).drew) (fun hHeld => ?_)
    refine wpAnyH_take (i := 0) (v := ?v1) (by simp only [get9]; rfl) (by kernel_rfl) (by kernel_rfl) (by kernel_rfl) (by exact fun _ _ _ h => h) (Or.inl ⟨by rfl, fun w9 hS9 => ?hy1⟩) hHeld ?rest1
    case hy1 =>
     dsimp only at hS9
     have z0 := Kp.cell hS9 (cell_stay HXC.out.1 HB6.out) (by dsimp only; omega)
     have z1 := Kp.cell hS9 (cell_stay HXC.out.2.1 HB6.out) (by dsimp only; omega)
     have z2 := Kp.cell hS9 (cell_stay HXC.out.2.2 HB6.out) (by dsimp only; omega)
     have z3 := Kp.cell hS9 (cell_stay HYC.out.1 HB6.out) (by dsimp only; omega)
     have z4 := Kp.cell hS9 (cell_stay HYC.out.2.1 HB6.out) (by dsimp only; omega)
     have z5 := Kp.cell hS9 (cell_stay HYC.out.2.2 HB6.out) (by dsimp only; omega)
     have z6 := Kp.cell hS9 (cell_stay HCR.out HB6.out) (by dsimp only; omega)
     have z7 := Kp.cell hS9 (cell_stay HCS.out HB6.out) (by dsimp only; omega)
     have z8 := Kp.cell hS9 (cell_stay HC.out HB6.out) (by rw [addr_block]; omega)
     go_simp
     try with_reducible rfl
    try simp only [Act.put, set9]
    refine wpAnyH_take (i := 1) (v := ?v2) (by simp only [get9]; rfl) (by kernel_rfl) (by kernel_rfl) (by kernel_rfl) (by exact fun _ _ _ h => h) (Or.inl ⟨by rfl, fun w9 hS9 => ?hy2⟩) hHeld ?rest2
    case hy2 =>
     dsimp only at hS9
     have z0 := Kp.cell hS9 (cell_stay HXC.out.1 HB6.out) (by dsimp only; omega)
     have z1 := Kp.cell hS9 (cell_stay HXC.out.2.1 HB6.out) (by dsimp only; omega)
     have z2 := Kp.cell hS9 (cell_stay HXC.out.2.2 HB6.out) (by dsimp only; omega)
     have z3 := Kp.cell hS9 (cell_stay HYC.out.1 HB6.out) (by dsimp only; omega)
     have z4 := Kp.cell hS9 (cell_stay HYC.out.2.1 HB6.out) (by dsimp only; omega)
     have z5 := Kp.cell hS9 (cell_stay HYC.out.2.2 HB6.out) (by dsimp only; omega)
     have z6 := Kp.cell hS9 (cell_stay HCR.out HB6.out) (by dsimp only; omega)
     have z7 := Kp.cell hS9 (cell_stay HCS.out HB6.out) (by dsimp only; omega)
     have z8 := Kp.cell hS9 (cell_stay HC.out HB6.out) (by rw [addr_block]; omega)
     go_simp
     try with_reducible rfl
    try simp only [Act.put, set9]
    refine wpAnyH_take (i := 2) (v := ?v3) (by simp only [get9]; rfl) (by kernel_rfl) (by kernel_rfl) (by kernel_rfl) (by exact fun _ _ _ h => h) (Or.inl ⟨by rfl, fun w9 hS9 => ?hy3⟩) hHeld ?rest3
    case hy3 =>
     dsimp only at hS9
     have z0 := Kp.cell hS9 (cell_stay HXC.out.1 HB6.out) (by dsimp only; omega)
     have z1 := Kp.cell hS9 (cell_stay HXC.out.2.1 HB6.out) (by dsimp only; omega)
     have z2 := Kp.cell hS9 (cell_stay HXC.out.2.2 HB6.out) (by dsimp only; omega)
     have z3 := Kp.cell hS9 (cell_stay HYC.out.1 HB6.out) (by dsimp only; omega)
     have z4 := Kp.cell hS9 (cell_stay HYC.out.2.1 HB6.out) (by dsimp only; omega)
     have z5 := Kp.cell hS9 (cell_stay HYC.out.2.2 HB6.out) (by dsimp only; omega)
     have z6 := Kp.cell hS9 (cell_stay HCR.out HB6.out) (by dsimp only; omega)
     have z7 := Kp.cell hS9 (cell_stay HCS.out HB6.out) (by dsimp only; omega)
     have z8 := Kp.cell hS9 (cell_stay HC.out HB6.out) (by rw [addr_block]; omega)
     go_simp
     try with_reducible rfl
    try simp only [Act.put, set9]
    refine wpAnyH_take (i := 3) (v := ?v4) (by simp only [get9]; rfl) (by kernel_rfl) (by kernel_rfl) (by kernel_rfl) (by exact fun _ _ _ h => h) (Or.inl ⟨by rfl, fun w9 hS9 => ?hy4⟩) hHeld ?rest4
    case hy4 =>
     dsimp only at hS9
     have z0 := Kp.cell hS9 (cell_stay HXC.out.1 HB6.out) (by dsimp only; omega)
     have z1 := Kp.cell hS9 (cell_stay HXC.out.2.1 HB6.out) (by dsimp only; omega)
     have z2 := Kp.cell hS9 (cell_stay HXC.out.2.2 HB6.out) (by dsimp only; omega)
     have z3 := Kp.cell hS9 (cell_stay HYC.out.1 HB6.out) (by dsimp only; omega)
     have z4 := Kp.cell hS9 (cell_stay HYC.out.2.1 HB6.out) (by dsimp only; omega)
     have z5 := Kp.cell hS9 (cell_stay HYC.out.2.2 HB6.out) (by dsimp only; omega)
     have z6 := Kp.cell hS9 (cell_stay HCR.out HB6.out) (by dsimp only; omega)
     have z7 := Kp.cell hS9 (cell_stay HCS.out HB6.out) (by dsimp only; omega)
     have z8 := Kp.cell hS9 (cell_stay HC.out HB6.out) (by rw [addr_block]; omega)
     go_simp
     try with_reducible rfl
    try simp only [Act.put, set9]
    refine wpAnyH_take (i := 4) (v := ?v5) (by simp only [get9]; rfl) (by kernel_rfl) (by kernel_rfl) (by kernel_rfl) (by exact fun _ _ _ h => h) (Or.inl ⟨by rfl, fun w9 hS9 => ?hy5⟩) hHeld ?rest5
    case hy5 =>
     dsimp only at hS9
     have z0 := Kp.cell hS9 (cell_stay HXC.out.1 HB6.out) (by dsimp only; omega)
     have z1 := Kp.cell hS9 (cell_stay HXC.out.2.1 HB6.out) (by dsimp only; omega)
     have z2 := Kp.cell hS9 (cell_stay HXC.out.2.2 HB6.out) (by dsimp only; omega)
     have z3 := Kp.cell hS9 (cell_stay HYC.out.1 HB6.out) (by dsimp only; omega)
     have z4 := Kp.cell hS9 (cell_stay HYC.out.2.1 HB6.out) (by dsimp only; omega)
     have z5 := Kp.cell hS9 (cell_stay HYC.out.2.2 HB6.out) (by dsimp only; omega)
     have z6 := Kp.cell hS9 (cell_stay HCR.out HB6.out) (by dsimp only; omega)
     have z7 := Kp.cell hS9 (cell_stay HCS.out HB6.out) (by dsimp only; omega)
     have z8 := Kp.cell hS9 (cell_stay HC.out HB6.out) (by rw [addr_block]; omega)
     go_simp
     try with_reducible rfl
    try simp only [Act.put, set9]
    refine wpAnyH_take (i := 5) (v := ?v6) (by simp only [get9]; rfl) (by kernel_rfl) (by kernel_rfl) (by kernel_rfl) (by exact fun _ _ _ h => h) (Or.inl ⟨by rfl, fun w9 hS9 => ?hy6⟩) hHeld ?rest6
    case hy6 =>
     dsimp only at hS9
     have z0 := Kp.cell hS9 (cell_stay HXC.out.1 HB6.out) (by dsimp only; omega)
     have z1 := Kp.cell hS9 (cell_stay HXC.out.2.1 HB6.out) (by dsimp only; omega)
     have z2 := Kp.cell hS9 (cell_stay HXC.out.2.2 HB6.out) (by dsimp only; omega)
     have z3 := Kp.cell hS9 (cell_stay HYC.out.1 HB6.out) (by dsimp only; omega)
     have z4 := Kp.cell hS9 (cell_stay HYC.out.2.1 HB6.out) (by dsimp only; omega)
     have z5 := Kp.cell hS9 (cell_stay HYC.out.2.2 HB6.out) (by dsimp only; omega)
     have z6 := Kp.cell hS9 (cell_stay HCR.out HB6.out) (by dsimp only; omega)
     have z7 := Kp.cell hS9 (cell_stay HCS.out HB6.out) (by dsimp only; omega)
     have z8 := Kp.cell hS9 (cell_stay HC.out HB6.out) (by rw [addr_block]; omega)
     go_simp
     try with_reducible rfl
    try simp only [Act.put, set9]
    refine wpAnyH_take (i := 6) (v := ?v7) (by simp only [get9]; rfl) (by kernel_rfl) (by kernel_rfl) (by kernel_rfl) (by exact fun _ _ _ h => h) (Or.inl ⟨by rfl, fun w9 hS9 => ?hy7⟩) hHeld ?rest7
    case hy7 =>
     dsimp only at hS9
     have z0 := Kp.cell hS9 (cell_stay HXC.out.1 HB6.out) (by dsimp only; omega)
     have z1 := Kp.cell hS9 (cell_stay HXC.out.2.1 HB6.out) (by dsimp only; omega)
     have z2 := Kp.cell hS9 (cell_stay HXC.out.2.2 HB6.out) (by dsimp only; omega)
     have z3 := Kp.cell hS9 (cell_stay HYC.out.1 HB6.out) (by dsimp only; omega)
     have z4 := Kp.cell hS9 (cell_stay HYC.out.2.1 HB6.out) (by dsimp only; omega)
     have z5 := Kp.cell hS9 (cell_stay HYC.out.2.2 HB6.out) (by dsimp only; omega)
     have z6 := Kp.cell hS9 (cell_stay HCR.out HB6.out) (by dsimp only; omega)
     have z7 := Kp.cell hS9 (cell_stay HCS.out HB6.out) (by dsimp only; omega)
     have z8 := Kp.cell hS9 (cell_stay HC.out HB6.out) (by rw [addr_block]; omega)
     go_simp
     try with_reducible rfl
    try simp only [Act.put, set9]
    refine wpAnyH_take (i := 7) (v := ?v8) (by simp only [get9]; rfl) (by kernel_rfl) (by kernel_rfl) (by kernel_rfl) (by exact fun _ _ _ h => h) (Or.inl ⟨by rfl, fun w9 hS9 => ?hy8⟩) hHeld ?rest8
    case hy8 =>
     dsimp only at hS9
     have z0 := Kp.cell hS9 (cell_stay HXC.out.1 HB6.out) (by dsimp only; omega)
     have z1 := Kp.cell hS9 (cell_stay HXC.out.2.1 HB6.out) (by dsimp only; omega)
     have z2 := Kp.cell hS9 (cell_stay HXC.out.2.2 HB6.out) (by dsimp only; omega)
     have z3 := Kp.cell hS9 (cell_stay HYC.out.1 HB6.out) (by dsimp only; omega)
     have z4 := Kp.cell hS9 (cell_stay HYC.out.2.1 HB6.out) (by dsimp only; omega)
     have z5 := Kp.cell hS9 (cell_stay HYC.out.2.2 HB6.out) (by dsimp only; omega)
     have z6 := Kp.cell hS9 (cell_stay HCR.out HB6.out) (by dsimp only; omega)
     have z7 := Kp.cell hS9 (cell_stay HCS.out HB6.out) (by dsimp only; omega)
     have z8 := Kp.cell hS9 (cell_stay HC.out HB6.out) (by rw [addr_block]; omega)
     go_simp
     try with_reducible rfl
    try simp only [Act.put, set9]
    refine wpAnyH_take (i := 8) (v := ?v9) (by simp only [get9]; rfl) (by kernel_rfl) (by kernel_rfl) (by kernel_rfl) (by exact fun _ _ _ h => h) (Or.inl ⟨by rfl, fun w9 hS9 => ?hy9⟩) hHeld ?rest9
    case hy9 =>
     dsimp only at hS9
     have z0 := Kp.cell hS9 (cell_stay HXC.out.1 HB6.out) (by dsimp only; omega)
     have z1 := Kp.cell hS9 (cell_stay HXC.out.2.1 HB6.out) (by dsimp only; omega)
     have z2 := Kp.cell hS9 (cell_stay HXC.out.2.2 HB6.out) (by dsimp only; omega)
     have z3 := Kp.cell hS9 (cell_stay HYC.out.1 HB6.out) (by dsimp only; omega)
     have z4 := Kp.cell hS9 (cell_stay HYC.out.2.1 HB6.out) (by dsimp only; omega)
     have z5 := Kp.cell hS9 (cell_stay HYC.out.2.2 HB6.out) (by dsimp only; omega)
     have z6 := Kp.cell hS9 (cell_stay HCR.out HB6.out) (by dsimp only; omega)
     have z7 := Kp.cell hS9 (cell_stay HCS.out HB6.out) (by dsimp only; omega)
     have z8 := Kp.cell hS9 (cell_stay HC.out HB6.out) (by rw [addr_block]; omega)
     go_simp
     try with_reducible rfl
    try simp only [Act.put, set9]
    refine wpAnyH_take (i := 13) (v := ?v10) (by simp only [get9]; rfl) (by kernel_rfl) (by kernel_rfl) (by kernel_rfl) (by exact fun _ _ _ h => h) (Or.inl ⟨by rfl, fun w9 hS9 => ?hy10⟩) hHeld ?rest10
    case hy10 =>
     dsimp only at hS9
     have z0 := Kp.cell hS9 (cell_stay HXC.out.1 HB6.out) (by dsimp only; omega)
     have z1 := Kp.cell hS9 (cell_stay HXC.out.2.1 HB6.out) (by dsimp only; omega)
     have z2 := Kp.cell hS9 (cell_stay HXC.out.2.2 HB6.out) (by dsimp only; omega)
     have z3 := Kp.cell hS9 (cell_stay HYC.out.1 HB6.out) (by dsimp only; omega)
     have z4 := Kp.cell hS9 (cell_stay HYC.out.2.1 HB6.out) (by dsimp only; omega)
     have z5 := Kp.cell hS9 (cell_stay HYC.out.2.2 HB6.out) (by dsimp only; omega)
     have z6 := Kp.cell hS9 (cell_stay HCR.out HB6.out) (by dsimp only; omega)
     have z7 := Kp.cell hS9 (cell_stay HCS.out HB6.out) (by dsimp only; omega)
     have z8 := Kp.cell hS9 (cell_stay HC.out HB6.out) (by rw [addr_block]; omega)
     go_simp
     try with_reducible rfl
    try simp only [Act.put, set9]
    refine wpAnyH_take (i := 14) (v := ?v11) (by simp only [get9]; rfl) (by kernel_rfl) (by kernel_rfl) (by kernel_rfl) (by exact fun _ _ _ h => h) (Or.inl ⟨by rfl, fun w9 hS9 => ?hy11⟩) hHeld ?rest11
    case hy11 =>
     dsimp only at hS9
     have z0 := Kp.cell hS9 (cell_stay HXC.out.1 HB6.out) (by dsimp only; omega)
     have z1 := Kp.cell hS9 (cell_stay HXC.out.2.1 HB6.out) (by dsimp only; omega)
     have z2 := Kp.cell hS9 (cell_stay HXC.out.2.2 HB6.out) (by dsimp only; omega)
     have z3 := Kp.cell hS9 (cell_stay HYC.out.1 HB6.out) (by dsimp only; omega)
     have z4 := Kp.cell hS9 (cell_stay HYC.out.2.1 HB6.out) (by dsimp only; omega)
     have z5 := Kp.cell hS9 (cell_stay HYC.out.2.2 HB6.out) (by dsimp only; omega)
     have z6 := Kp.cell hS9 (cell_stay HCR.out HB6.out) (by dsimp only; omega)
     have z7 := Kp.cell hS9 (cell_stay HCS.out HB6.out) (by dsimp only; omega)
     have z8 := Kp.cell hS9 (cell_stay HC.out HB6.out) (by rw [addr_block]; omega)
     go_simp
     try with_reducible rfl
    try simp only [Act.put, set9]
    refine wpAnyH_take (i := 15) (v := ?v12) (by simp only [get9]; rfl) (by kernel_rfl) (by kernel_rfl) (by kernel_rfl) (by exact fun _ _ _ h => h) (Or.inl ⟨by rfl, fun w9 hS9 => ?hy12⟩) hHeld ?rest12
    case hy12 =>
     dsimp only at hS9
     have z0 := Kp.cell hS9 (cell_stay HXC.out.1 HB6.out) (by dsimp only; omega)
     have z1 := Kp.cell hS9 (cell_stay HXC.out.2.1 HB6.out) (by dsimp only; omega)
     have z2 := Kp.cell hS9 (cell_stay HXC.out.2.2 HB6.out) (by dsimp only; omega)
     have z3 := Kp.cell hS9 (cell_stay HYC.out.1 HB6.out) (by dsimp only; omega)
     have z4 := Kp.cell hS9 (cell_stay HYC.out.2.1 HB6.out) (by dsimp only; omega)
     have z5 := Kp.cell hS9 (cell_stay HYC.out.2.2 HB6.out) (by dsimp only; omega)
     have z6 := Kp.cell hS9 (cell_stay HCR.out HB6.out) (by dsimp only; omega)
     have z7 := Kp.cell hS9 (cell_stay HCS.out HB6.out) (by dsimp only; omega)
     have z8 := Kp.cell hS9 (cell_stay HC.out HB6.out) (by rw [addr_block]; omega)
     go_simp
     try with_reducible rfl
    try simp only [Act.put, set9]
    refine wpAnyH_take (i := 16) (v := ?v13) (by simp only [get9]; rfl) (by kernel_rfl) (by kernel_rfl) (by kernel_rfl) (by exact fun _ _ _ h => h) (Or.inl ⟨by rfl, fun w9 hS9 => ?hy13⟩) hHeld ?rest13
    case hy13 =>
     dsimp only at hS9
     have z0 := Kp.cell hS9 (cell_stay HXC.out.1 HB6.out) (by dsimp only; omega)
     have z1 := Kp.cell hS9 (cell_stay HXC.out.2.1 HB6.out) (by dsimp only; omega)
     have z2 := Kp.cell hS9 (cell_stay HXC.out.2.2 HB6.out) (by dsimp only; omega)
     have z3 := Kp.cell hS9 (cell_stay HYC.out.1 HB6.out) (by dsimp only; omega)
     have z4 := Kp.cell hS9 (cell_stay HYC.out.2.1 HB6.out) (by dsimp only; omega)
     have z5 := Kp.cell hS9 (cell_stay HYC.out.2.2 HB6.out) (by dsimp only; omega)
     have z6 := Kp.cell hS9 (cell_stay HCR.out HB6.out) (by dsimp only; omega)
     have z7 := Kp.cell hS9 (cell_stay HCS.out HB6.out) (by dsimp only; omega)
     have z8 := Kp.cell hS9 (cell_stay HC.out HB6.out) (by rw [addr_block]; omega)
     go_simp
     try with_reducible rfl
    try simp only [Act.put, set9]
    refine wpAnyH_take (i := 17) (v := ?v14) (by simp only [get9]; rfl) (by kernel_rfl) (by kernel_rfl) (by kernel_rfl) (by exact fun _ _ _ h => h) (Or.inl ⟨by rfl, fun w9 hS9 => ?hy14⟩) hHeld ?rest14
    case hy14 =>
     dsimp only at hS9
     have z0 := Kp.cell hS9 (cell_stay HXC.out.1 HB6.out) (by dsimp only; omega)
     have z1 := Kp.cell hS9 (cell_stay HXC.out.2.1 HB6.out) (by dsimp only; omega)
     have z2 := Kp.cell hS9 (cell_stay HXC.out.2.2 HB6.out) (by dsimp only; omega)
     have z3 := Kp.cell hS9 (cell_stay HYC.out.1 HB6.out) (by dsimp only; omega)
     have z4 := Kp.cell hS9 (cell_stay HYC.out.2.1 HB6.out) (by dsimp only; omega)
     have z5 := Kp.cell hS9 (cell_stay HYC.out.2.2 HB6.out) (by dsimp only; omega)
     have z6 := Kp.cell hS9 (cell_stay HCR.out HB6.out) (by dsimp only; omega)
     have z7 := Kp.cell hS9 (cell_stay HCS.out HB6.out) (by dsimp only; omega)
     have z8 := Kp.cell hS9 (cell_stay HC.out HB6.out) (by rw [addr_block]; omega)
     go_simp
     try with_reducible rfl
    try simp only [Act.put, set9]
    refine wpAnyH_take (i := 18) (v := ?v15) (by simp only [get9]; rfl) (by kernel_rfl) (by kernel_rfl) (by kernel_rfl) (by exact fun _ _ _ h => h) (Or.inl ⟨by rfl, fun w9 hS9 => ?hy15⟩) hHeld ?rest15
    case hy15 =>
     dsimp only at hS9
     have z0 := Kp.cell hS9 (cell_stay HXC.out.1 HB6.out) (by dsimp only; omega)
     have z1 := Kp.cell hS9 (cell_stay HXC.out.2.1 HB6.out) (by dsimp only; omega)
     have z2 := Kp.cell hS9 (cell_stay HXC.out.2.2 HB6.out) (by dsimp only; omega)
     have z3 := Kp.cell hS9 (cell_stay HYC.out.1 HB6.out) (by dsimp only; omega)
     have z4 := Kp.cell hS9 (cell_stay HYC.out.2.1 HB6.out) (by dsimp only; omega)
     have z5 := Kp.cell hS9 (cell_stay HYC.out.2.2 HB6.out) (by dsimp only; omega)
     have z6 := Kp.cell hS9 (cell_stay HCR.out HB6.out) (by dsimp only; omega)
     have z7 := Kp.cell hS9 (cell_stay HCS.out HB6.out) (by dsimp only; omega)
     have z8 := Kp.cell hS9 (cell_stay HC.out HB6.out) (by rw [addr_block]; omega)
     go_simp
     try with_reducible rfl
    try simp only [Act.put, set9]
    refine wpAnyH_ready (rs := [9]) (by kernel_rfl) (by simp) (AllReadyH.cons (by simp only [get9]; rfl) (fun K hK => ?_) AllReadyH.nil)
    go_simp
    refine (HMS.out _ (HBW6.out.trans ((Below.refl _ w6).drew.mono (by omega)))).mono ?_
    rintro e w7 ⟨rfl, hb7⟩
    have HB7 : Hid (Below w6.heap.size w6 w7) := Lib.hid ((Below.refl _ w6).drew.trans hb7)
    clear hb7
    go_wp2_with fail
    refine hK.out _ _ (Kp.below HB7.out) (fun hHeld => ?_)
    clear hK K
    try simp only [Act.put, set9]
    refine wpAnyH_take (i := 10) (v := ?v16) (by simp only [get9]; rfl) (by kernel_rfl) (by kernel_rfl) (by kernel_rfl) (by exact fun _ _ _ h => h) (Or.inl ⟨by rfl, fun w9 hS9 => ?hy16⟩) hHeld ?rest16
    case hy16 =>
     dsimp only at hS9
     have z0 := Kp.cell hS9 (cell_stay HXC.out.1 HB6.out) (by dsimp only; omega)
     have z1 := Kp.cell hS9 (cell_stay HXC.out.2.1 HB6.out) (by dsimp only; omega)
     have z2 := Kp.cell hS9 (cell_stay HXC.out.2.2 HB6.out) (by dsimp only; omega)
     have z3 := Kp.cell hS9 (cell_stay HYC.out.1 HB6.out) (by dsimp only; omega)
     have z4 := Kp.cell hS9 (cell_stay HYC.out.2.1 HB6.out) (by dsimp only; omega)
     have z5 := Kp.cell hS9 (cell_stay HYC.out.2.2 HB6.out) (by dsimp only; omega)
     have z6 := Kp.cell hS9 (cell_stay HCR.out HB6.out) (by dsimp only; omega)
     have z7 := Kp.cell hS9 (cell_stay HCS.out HB6.out) (by dsimp only; omega)
     have z8 := Kp.cell hS9 (cell_stay HC.out HB6.out) (by rw [addr_block]; omega)
     go_simp
     try with_reducible rfl
    try simp only [Act.put, set9]
    refine wpAnyH_take (i := 11) (v := ?v17) (by simp only [get9]; rfl) (by kernel_rfl) (by kernel_rfl) (by kernel_rfl) (by exact fun _ _ _ h => h) (Or.inl ⟨by rfl, fun w9 hS9 => ?hy17⟩) hHeld ?rest17
    case hy17 =>
     dsimp only at hS9
     have z0 := Kp.cell hS9 (cell_stay HXC.out.1 HB6.out) (by dsimp only; omega)
     have z1 := Kp.cell hS9 (cell_stay HXC.out.2.1 HB6.out) (by dsimp only; omega)
     have z2 := Kp.cell hS9 (cell_stay HXC.out.2.2 HB6.out) (by dsimp only; omega)
     have z3 := Kp.cell hS9 (cell_stay HYC.out.1 HB6.out) (by dsimp only; omega)
     have z4 := Kp.cell hS9 (cell_stay HYC.out.2.1 HB6.out) (by dsimp only; omega)
     have z5 := Kp.cell hS9 (cell_stay HYC.out.2.2 HB6.out) (by dsimp only; omega)
     have z6 := Kp.cell hS9 (cell_stay HCR.out HB6.out) (by dsimp only; omega)
     have z7 := Kp.cell hS9 (cell_stay HCS.out HB6.out) (by dsimp only; omega)
     have z8 := Kp.cell hS9 (cell_stay HC.out HB6.out) (by rw [addr_block]; omega)
     go_simp
     try with_reducible rfl
    try simp only [Act.put, set9]
    refine wpAnyH_take (i := 12) (v := ?v18) (by simp only [get9]; rfl) (by kernel_rfl) (by kernel_rfl) (by kernel_rfl) (by exact fun _ _ _ h => h) (Or.inl ⟨by rfl, fun w9 hS9 => ?hy18⟩) hHeld ?rest18
    case hy18 =>
     dsimp only at hS9
     have z0 := Kp.cell hS9 (cell_stay HXC.out.1 HB6.out) (by dsimp only; omega)
     have z1 := Kp.cell hS9 (cell_stay HXC.out.2.1 HB6.out) (by dsimp only; omega)
     have z2 := Kp.cell hS9 (cell_stay HXC.out.2.2 HB6.out) (by dsimp only; omega)
     have z3 := Kp.cell hS9 (cell_stay HYC.out.1 HB6.out) (by dsimp only; omega)
     have z4 := Kp.cell hS9 (cell_stay HYC.out.2.1 HB6.out) (by dsimp only; omega)
     have z5 := Kp.cell hS9 (cell_stay HYC.out.2.2 HB6.out) (by dsimp only; omega)
     have z6 := Kp.cell hS9 (cell_stay HCR.out HB6.out) (by dsimp only; omega)
     have z7 := Kp.cell hS9 (cell_stay HCS.out HB6.out) (by dsimp only; omega)
     have z8 := Kp.cell hS9 (cell_stay HC.out HB6.out) (by rw [addr_block]; omega)
     go_simp
     try with_reducible rfl
    try simp only [Act.put, set9]
    refine wpAnyH_ready (rs := [19]) (by kernel_rfl) (by simp) (AllReadyH.cons (by simp only [get9]; rfl) (fun K hK => ?_) AllReadyH.nil)
    go_simp
    have HB8 : Hid (Below w6.heap.size w6 (w7.alloc (.cells #[.int .i64 ms.to, .int .i64 mr.to] 3))) := Lib.hid (HB7.out.alloc HB7.out.size _)
    refine hK.out _ _ (Kp.below HB8.out) (fun hHeld => ?_)
    clear hK K
    try simp only [Act.put, set9]
    refine wpAnyH_ready (rs := [20]) (by kernel_rfl) (by simp) (AllReadyH.cons (by simp only [get9]; rfl) (fun K hK => ?_) AllReadyH.nil)
    go_simp
    have HB9 : Hid (Below w6.heap.size w6 ((w7.alloc (.cells #[.int .i64 ms.to, .int .i64 mr.to] 3)).alloc (.cells #[.slice (some ⟨w7.heap.size, 0, none⟩) 2 2] 31))) := Lib.hid (HB8.out.alloc HB8.out.size _)
    refine hK.out _ _ (Kp.below HB9.out) (fun hHeld => ?_)
    clear hK K
    try simp only [Act.put, set9]
    refine wpAnyH_ready (rs := [21]) (by kernel_rfl) (by simp) (AllReadyH.cons (by simp only [get9]; rfl) (fun K hK => ?_) AllReadyH.nil)
    have HBR9 : Hid (Below wr.heap.size wr ((w7.alloc (.cells #[.int .i64 ms.to, .int .i64 mr.to] 3)).alloc (.cells #[.slice (some ⟨w7.heap.size, 0, none⟩) 2 2] 31))) := Lib.hid (HB6.out.trans (HB9.out.mono HB6.out.size))
    have HBR7 : Hid (Below wr.heap.size wr w7) := Lib.hid (HB6.out.trans (HB7.out.mono HB6.out.size))
    have hs7 := HBR7.out.size
    have hs9 := HBR9.out.size
    have HIT := Lib.hid (items_two w7 (ms.to, mr.to))
    have HOI := Lib.hid (HO.out.own.same HBR9.out)
    refine step_app_someI _ rowEnc_len (by omega) rowEnc_one (by rfl) (.tmp 34) (.tmp 54) 33 (by rfl) 31 i0 (.slice none 0 0) 24 Try.underlying33 HI.out.1 HI.out.2.1 HI.out.2.2.1 HI.out.2.2.2 rfl (by rfl) HOI.out (by rfl) HIT.out (by omega) (by omega) (by omega) ?_
    intro g7 c7 w8 ho8 hg8 hgg
    have HKP : Hid (Kp g5 wr w8) := Lib.hid (Kp.grow HBR9.out hg8)
    have HRP := Lib.hid (row_push (p := (ms.to, mr.to)) HO.out HBR7.out ho8 hg8 hgg)
    have HIN : Hid (Inside g5 (g5 + 1) ((w7.alloc (.cells #[.int .i64 ms.to, .int .i64 mr.to] 3)).alloc (.cells #[.slice (some ⟨w7.heap.size, 0, none⟩) 2 2] 31)) w8) := Lib.hid (Inside.row hg8 fun r' e' => by cases e'; omega)
    have hs8 : ((w7.alloc (.cells #[.int .i64 ms.to, .int .i64 mr.to] 3)).alloc (.cells #[.slice (some ⟨w7.heap.size, 0, none⟩) 2 2] 31)).heap.size ≤ w8.heap.size := hg8.size
    have hgl : g7 < L ∨ H ≤ g7 := by
     rcases hgg with e | e
     ·omega
     ·exact Or.inr (by omega)
    have HK6 : Hid (Kp g5 w6 w8) := Lib.hid (Kp.grow HB9.out hg8)
    clear ho8 hg8 hgg
    refine hK.out _ _ HK6.out (fun hHeld => ?_)
    clear hK K
    try simp only [Act.put, set9]
    refine wpAnyH_take (i := 22) (v := ?v19) (by simp only [get9]; rfl) (by kernel_rfl) (by kernel_rfl) (by kernel_rfl) (by exact fun _ _ _ h => h) (Or.inl ⟨by rfl, fun w9 hS9 => ?hy19⟩) hHeld ?rest19
    case hy19 =>
     dsimp only at hS9
     have z0 := Kp.cell hS9 (cell_stay HXC.out.1 HB6.out) (by dsimp only; omega)
     have z1 := Kp.cell hS9 (cell_stay HXC.out.2.1 HB6.out) (by dsimp only; omega)
     have z2 := Kp.cell hS9 (cell_stay HXC.out.2.2 HB6.out) (by dsimp only; omega)
     have z3 := Kp.cell hS9 (cell_stay HYC.out.1 HB6.out) (by dsimp only; omega)
     have z4 := Kp.cell hS9 (cell_stay HYC.out.2.1 HB6.out) (by dsimp only; omega)
     have z5 := Kp.cell hS9 (cell_stay HYC.out.2.2 HB6.out) (by dsimp only; omega)
     have z6 := Kp.cell hS9 (cell_stay HCR.out HB6.out) (by dsimp only; omega)
     have z7 := Kp.cell hS9 (cell_stay HCS.out HB6.out) (by dsimp only; omega)
     have z8 := Kp.cell hS9 (cell_stay HC.out HB6.out) (by rw [addr_block]; omega)
     go_simp
     try with_reducible rfl
    try simp only [Act.put, set9]
    refine wpAnyH_done (by kernel_rfl) ?_ _
    have HRP2 : Hid (OwnRs (rs ++ [w7.heap.size]) w8.heap.size w8 W0.heap.size g7 (n5 + 1) c7 (((movesFrom a x true).take (j + 1)).filterMap (deliv a x b y))) := Lib.hid (by rw [HE.out]; exact HRP.out)
    have HN8 := Lib.hid (HN.out.kp HKP.out (fun ad2 e2 => by have := HSP2.out ad2 e2; omega))
    have HD8 : Hid (Below W0.heap.size W0 w8) := Lib.hid (HIN.out.to (HD.out.trans (HBR9.out.mono HD.out.size)) (by omega) (by omega))
    go_wp2_with fail
    go_roundw
    case rel => exact ⟨_, j + 1, g7, n5 + 1, c7, by omega, by go_num, rfl, HRP2.out, by omega, hgl, HN8.out, HD8.out, by omega⟩
    case measure => simp [intOf]; omega
  ·obtain rfl : j = n4 := by omega
   have h9 := HO.out
   rw [List.take_of_length_le (by omega)] at h9
   have HO2 : Hid (OwnRs rs wr.heap.size wr W0.heap.size g5 n5 c5 (delivs a x b y)) := Lib.hid h9
   clear h9
   obtain ⟨y0, y1, y2, -⟩ := three_cells ((HD.out.block _ hyl).trans HY.out)
   go_wp2_with fail
   clear y0 y1 y2
   obtain ⟨w5, hwv⟩ : ∃ u, u = wr := ⟨wr, rfl⟩
   subst hwv
   have HD2 := Lib.hid HD.out
   obtain ⟨rs1, hrs⟩ : ∃ u, u = rs := ⟨rs, rfl⟩
   subst hrs
   have hdl := delivs_len a x b y
   have hcn := HO2.out.count
   clear HO HN HD HN4 HSP HD4 HO4 HO1 HD1 HA1 hg4 hH4
   refine (specMovesFrom_any y true (HMB.out.same HD2.out) (by omega)).mono ?_
   rintro e w2 ⟨a4, n4, c4, rfl, ho4, hb4⟩
   have hn4 := ho4.len
   have hroom4 := ho4.room
   have hlm := movesFrom_len b y true
   have hsz4 := hb4.size
   have HN4 := Lib.hid ho4.nums
   have HSP := Lib.hid ho4.span
   have HD4 : Hid (Below W0.heap.size W0 w2) := Lib.hid (HD2.out.trans (hb4.mono HD2.out.size))
   have HO4 := Lib.hid ((HO2.out.same hb4).upper hb4.size (Nat.le_refl _))
   obtain ⟨L, hL⟩ : ∃ z, z = w5.heap.size := ⟨_, rfl⟩
   obtain ⟨H, hH⟩ : ∃ z, z = w2.heap.size := ⟨_, rfl⟩
   replace HSP : Hid (Span a4 L H) := Lib.hid (by rw [hL, hH]; exact HSP.out)
   have hg4 : g5 < L := by rw [hL]; exact HO2.out.hi
   have hH4 : H ≤ w2.heap.size := by omega
   have hLW : W0.heap.size ≤ L := by have := HD2.out.size; omega
   clear ho4 hb4 hL hH
   go_wp2_with fail
   go_loopw [9, 13] (fun s9 s11 wr => ∃ (rs : List Nat) (j g5 n5 c5 : Nat), j ≤ n4 ∧ s11 = .int .i64 j ∧ s9 = .slice (some ⟨g5, 0, none⟩) n5 c5 ∧ OwnRs rs wr.heap.size wr W0.heap.size g5 n5 c5 (delivs a x b y ++ (((movesFrom b y true).take j).filterMap (deliv b y a x)).map Prod.swap) ∧ n5 ≤ a.moves.length + j ∧ (g5 < L ∨ H ≤ g5) ∧ Nums .i64 wr a4 n4 (movesFrom b y true) ∧ Below W0.heap.size W0 wr ∧ H ≤ wr.heap.size) (fun _ i _ => n4 - (intOf i).toNat)
   case atStart => exact ⟨rs1, 0, g5, n5, c5, Nat.zero_le _, rfl, rfl, by simpa using HO4.out, by omega, Or.inl hg4, HN4.out, HD4.out, hH4⟩
   case round =>
    obtain ⟨rs, j, g5, n5, c5, hj, rfl, rfl, ho, hn5, hg5, hnu, hb, hHr⟩ := hrel
    have HO := Lib.hid ho
    have HN := Lib.hid hnu
    have HD := Lib.hid hb
    have hlo5 := ho.lo
    have hhi5 := ho.hi
    have hroom5 := ho.room
    clear ho hnu hb
    by_cases hlt : j < n4
    ·obtain ⟨ad, km, e4, hk, hc⟩ := HN.out.at_ hlt
     have hkm := List.mem_of_getElem? hk
     obtain ⟨tq, hq⟩ := sent_to hkm
     have HSP2 := Lib.hid HSP.out
     subst e4
     have hadb := HSP2.out ad rfl
     have HC := Lib.hid hc
     obtain ⟨x0, x1, x2, -⟩ := three_cells ((HD.out.block _ hxl).trans HX.out)
     obtain ⟨y0, y1, y2, -⟩ := three_cells ((HD.out.block _ hyl).trans HY.out)
     have HXC := Lib.hid (And.intro x0 (And.intro x1 x2))
     have HYC := Lib.hid (And.intro y0 (And.intro y1 y2))
     cases hr : toOf a.moves x false km with
     | none =>
      have HE : Hid (delivs a x b y ++ (((movesFrom b y true).take (j + 1)).filterMap (deliv b y a x)).map Prod.swap = delivs a x b y ++ (((movesFrom b y true).take j).filterMap (deliv b y a x)).map Prod.swap) := Lib.hid (by
       rw [List.take_add_one, hk, List.filterMap_append]
       simp [deliv_none hr])
      have hmo := moveOf_none hr
      have HMO := Lib.hid (fun W' hb' => specMoveOf_any x false km (HMA.out.same (w' := W') (HD.out.trans hb')))
      rw [hmo] at HMO
      clear hr hq hk hkm hmo
      go_wp2_with fail
      go_still_tail 6, (by kernel_rfl)
      have H2 : Hid (Below W0.heap.size wr wr.drew) := Lib.hid (Below.refl _ _).drew
      have H3 : Hid (Below wr.heap.size wr wr.drew) := Lib.hid (Below.refl _ _).drew
      change wpList _ _ _ _ _ wr.drew
      generalize wr.drew = w3 at H2 H3 ⊢
      clear x0 x1 x2 y0 y1 y2 hc
      go_wp2_with fail
      refine (HMO.out w3 H2.out).mono ?_
      rintro e w6 ⟨rfl, hb6⟩
      have HB6 : Hid (Below wr.heap.size wr w6) := Lib.hid (H3.out.trans (hb6.mono H3.out.size))
      have hs6 := HB6.out.size
      clear hb6
      go_wp2_with fail
      go_roundw
      case rel => exact ⟨rs, j + 1, g5, n5, c5, by omega, by go_num, rfl, by rw [HE.out]; exact (HO.out.same HB6.out).upper HB6.out.size (Nat.le_refl _), by omega, hg5, HN.out.same HB6.out, HD.out.trans (HB6.out.mono HD.out.size), by omega⟩
      case measure => simp [intOf]; omega
     | some tr =>
      obtain ⟨jr, mr, hmr, hjr, etr⟩ := moveOf_some hr
      obtain ⟨js, ms, hms, hjs, ets⟩ := moveOf_some hq
      subst etr
      subst ets
      have HE : Hid (delivs a x b y ++ (((movesFrom b y true).take (j + 1)).filterMap (deliv b y a x)).map Prod.swap = (delivs a x b y ++ (((movesFrom b y true).take j).filterMap (deliv b y a x)).map Prod.swap) ++ [(mr.to, ms.to)]) := Lib.hid (by
       rw [List.take_add_one, hk, List.filterMap_append]
       simp [deliv_some hq hr])
      have HMO := Lib.hid (fun W' hb' => specMoveOf_any x false km (HMA.out.same (w' := W') (HD.out.trans hb')))
      have HMS := Lib.hid (fun W' hb' => specMoveOf_any y true km (HMB.out.same (w' := W') (HD.out.trans hb')))
      rw [hmr] at HMO
      rw [hms] at HMS
      obtain ⟨br, or, er, hcr⟩ := HVA.out.cell jr mr hjr
      obtain ⟨bs, os, es, hcs⟩ := HVB.out.cell js ms hjs
      have hcr3 := hcr 3 _ rfl
      have hcs3 := hcs 3 _ rfl
      have hbr : br < w.heap.size := cell_in hcr3
      have hbs : bs < w.heap.size := cell_in hcs3
      have HCR := Lib.hid (cell_stay hcr3 (HB.out.trans (HD.out.mono HB.out.size)))
      have HCS := Lib.hid (cell_stay hcs3 (HB.out.trans (HD.out.mono HB.out.size)))
      have hjrn : jr < a.moves.length := at_lt hjr
      have hjsn : js < b.moves.length := at_lt hjs
      have hjrn2 : jr < n := by omega
      have hjsn2 : js < n' := by omega
      subst er
      subst es
      clear hr hq hk hkm hmr hms hcr hcs hcr3 hcs3 hjr hjs
      go_wp2_with fail
      go_still_tail 6, (by kernel_rfl)
      have H2 : Hid (Below W0.heap.size wr wr.drew) := Lib.hid (Below.refl _ _).drew
      have H3 : Hid (Below wr.heap.size wr wr.drew) := Lib.hid (Below.refl _ _).drew
      change wpList _ _ _ _ _ wr.drew
      generalize wr.drew = w3 at H2 H3 ⊢
      clear x0 x1 x2 y0 y1 y2 hc
      go_wp2_with fail
      refine (HMO.out w3 H2.out).mono ?_
      rintro e w6 ⟨rfl, hb6⟩
      have HB6 : Hid (Below wr.heap.size wr w6) := Lib.hid (H3.out.trans (hb6.mono H3.out.size))
      have hs6 := HB6.out.size
      have HBW6 : Hid (Below W0.heap.size wr w6) := Lib.hid (HB6.out.mono HD.out.size)
      clear hb6
      have hs5 := HD.out.size
      have hbw : w.heap.size ≤ W0.heap.size := by omega
      go_wp2_with fail
      refine wp_region_held_drew (S := fun w9 => Kp g5 w6 w9) (by kernel_rfl) (Kp.below (Below.refl _ w6).drew) (fun hHeld => ?_)
      refine wpAnyH_take (i := 0) (v := ?v20) (by simp only [get9]; rfl) (by kernel_rfl) (by kernel_rfl) (by kernel_rfl) (by exact fun _ _ _ h => h) (Or.inl ⟨by rfl, fun w9 hS9 => ?hy20⟩) hHeld ?rest20
      case hy20 =>
       dsimp only at hS9
       have z0 := Kp.cell hS9 (cell_stay HXC.out.1 HB6.out) (by dsimp only; omega)
       have z1 := Kp.cell hS9 (cell_stay HXC.out.2.1 HB6.out) (by dsimp only; omega)
       have z2 := Kp.cell hS9 (cell_stay HXC.out.2.2 HB6.out) (by dsimp only; omega)
       have z3 := Kp.cell hS9 (cell_stay HYC.out.1 HB6.out) (by dsimp only; omega)
       have z4 := Kp.cell hS9 (cell_stay HYC.out.2.1 HB6.out) (by dsimp only; omega)
       have z5 := Kp.cell hS9 (cell_stay HYC.out.2.2 HB6.out) (by dsimp only; omega)
       have z6 := Kp.cell hS9 (cell_stay HCR.out HB6.out) (by dsimp only; omega)
       have z7 := Kp.cell hS9 (cell_stay HCS.out HB6.out) (by dsimp only; omega)
       have z8 := Kp.cell hS9 (cell_stay HC.out HB6.out) (by rw [addr_block]; omega)
       go_simp
       try with_reducible rfl
      try simp only [Act.put, set9]
      refine wpAnyH_take (i := 1) (v := ?v21) (by simp only [get9]; rfl) (by kernel_rfl) (by kernel_rfl) (by kernel_rfl) (by exact fun _ _ _ h => h) (Or.inl ⟨by rfl, fun w9 hS9 => ?hy21⟩) hHeld ?rest21
      case hy21 =>
       dsimp only at hS9
       have z0 := Kp.cell hS9 (cell_stay HXC.out.1 HB6.out) (by dsimp only; omega)
       have z1 := Kp.cell hS9 (cell_stay HXC.out.2.1 HB6.out) (by dsimp only; omega)
       have z2 := Kp.cell hS9 (cell_stay HXC.out.2.2 HB6.out) (by dsimp only; omega)
       have z3 := Kp.cell hS9 (cell_stay HYC.out.1 HB6.out) (by dsimp only; omega)
       have z4 := Kp.cell hS9 (cell_stay HYC.out.2.1 HB6.out) (by dsimp only; omega)
       have z5 := Kp.cell hS9 (cell_stay HYC.out.2.2 HB6.out) (by dsimp only; omega)
       have z6 := Kp.cell hS9 (cell_stay HCR.out HB6.out) (by dsimp only; omega)
       have z7 := Kp.cell hS9 (cell_stay HCS.out HB6.out) (by dsimp only; omega)
       have z8 := Kp.cell hS9 (cell_stay HC.out HB6.out) (by rw [addr_block]; omega)
       go_simp
       try with_reducible rfl
      try simp only [Act.put, set9]
      refine wpAnyH_take (i := 2) (v := ?v22) (by simp only [get9]; rfl) (by kernel_rfl) (by kernel_rfl) (by kernel_rfl) (by exact fun _ _ _ h => h) (Or.inl ⟨by rfl, fun w9 hS9 => ?hy22⟩) hHeld ?rest22
      case hy22 =>
       dsimp only at hS9
       have z0 := Kp.cell hS9 (cell_stay HXC.out.1 HB6.out) (by dsimp only; omega)
       have z1 := Kp.cell hS9 (cell_stay HXC.out.2.1 HB6.out) (by dsimp only; omega)
       have z2 := Kp.cell hS9 (cell_stay HXC.out.2.2 HB6.out) (by dsimp only; omega)
       have z3 := Kp.cell hS9 (cell_stay HYC.out.1 HB6.out) (by dsimp only; omega)
       have z4 := Kp.cell hS9 (cell_stay HYC.out.2.1 HB6.out) (by dsimp only; omega)
       have z5 := Kp.cell hS9 (cell_stay HYC.out.2.2 HB6.out) (by dsimp only; omega)
       have z6 := Kp.cell hS9 (cell_stay HCR.out HB6.out) (by dsimp only; omega)
       have z7 := Kp.cell hS9 (cell_stay HCS.out HB6.out) (by dsimp only; omega)
       have z8 := Kp.cell hS9 (cell_stay HC.out HB6.out) (by rw [addr_block]; omega)
       go_simp
       try with_reducible rfl
      try simp only [Act.put, set9]
      refine wpAnyH_take (i := 3) (v := ?v23) (by simp only [get9]; rfl) (by kernel_rfl) (by kernel_rfl) (by kernel_rfl) (by exact fun _ _ _ h => h) (Or.inl ⟨by rfl, fun w9 hS9 => ?hy23⟩) hHeld ?rest23
      case hy23 =>
       dsimp only at hS9
       have z0 := Kp.cell hS9 (cell_stay HXC.out.1 HB6.out) (by dsimp only; omega)
       have z1 := Kp.cell hS9 (cell_stay HXC.out.2.1 HB6.out) (by dsimp only; omega)
       have z2 := Kp.cell hS9 (cell_stay HXC.out.2.2 HB6.out) (by dsimp only; omega)
       have z3 := Kp.cell hS9 (cell_stay HYC.out.1 HB6.out) (by dsimp only; omega)
       have z4 := Kp.cell hS9 (cell_stay HYC.out.2.1 HB6.out) (by dsimp only; omega)
       have z5 := Kp.cell hS9 (cell_stay HYC.out.2.2 HB6.out) (by dsimp only; omega)
       have z6 := Kp.cell hS9 (cell_stay HCR.out HB6.out) (by dsimp only; omega)
       have z7 := Kp.cell hS9 (cell_stay HCS.out HB6.out) (by dsimp only; omega)
       have z8 := Kp.cell hS9 (cell_stay HC.out HB6.out) (by rw [addr_block]; omega)
       go_simp
       try with_reducible rfl
      try simp only [Act.put, set9]
      refine wpAnyH_take (i := 4) (v := ?v24) (by simp only [get9]; rfl) (by kernel_rfl) (by kernel_rfl) (by kernel_rfl) (by exact fun _ _ _ h => h) (Or.inl ⟨by rfl, fun w9 hS9 => ?hy24⟩) hHeld ?rest24
      case hy24 =>
       dsimp only at hS9
       have z0 := Kp.cell hS9 (cell_stay HXC.out.1 HB6.out) (by dsimp only; omega)
       have z1 := Kp.cell hS9 (cell_stay HXC.out.2.1 HB6.out) (by dsimp only; omega)
       have z2 := Kp.cell hS9 (cell_stay HXC.out.2.2 HB6.out) (by dsimp only; omega)
       have z3 := Kp.cell hS9 (cell_stay HYC.out.1 HB6.out) (by dsimp only; omega)
       have z4 := Kp.cell hS9 (cell_stay HYC.out.2.1 HB6.out) (by dsimp only; omega)
       have z5 := Kp.cell hS9 (cell_stay HYC.out.2.2 HB6.out) (by dsimp only; omega)
       have z6 := Kp.cell hS9 (cell_stay HCR.out HB6.out) (by dsimp only; omega)
       have z7 := Kp.cell hS9 (cell_stay HCS.out HB6.out) (by dsimp only; omega)
       have z8 := Kp.cell hS9 (cell_stay HC.out HB6.out) (by rw [addr_block]; omega)
       go_simp
       try with_reducible rfl
      try simp only [Act.put, set9]
      refine wpAnyH_take (i := 5) (v := ?v25) (by simp only [get9]; rfl) (by kernel_rfl) (by kernel_rfl) (by kernel_rfl) (by exact fun _ _ _ h => h) (Or.inl ⟨by rfl, fun w9 hS9 => ?hy25⟩) hHeld ?rest25
      case hy25 =>
       dsimp only at hS9
       have z0 := Kp.cell hS9 (cell_stay HXC.out.1 HB6.out) (by dsimp only; omega)
       have z1 := Kp.cell hS9 (cell_stay HXC.out.2.1 HB6.out) (by dsimp only; omega)
       have z2 := Kp.cell hS9 (cell_stay HXC.out.2.2 HB6.out) (by dsimp only; omega)
       have z3 := Kp.cell hS9 (cell_stay HYC.out.1 HB6.out) (by dsimp only; omega)
       have z4 := Kp.cell hS9 (cell_stay HYC.out.2.1 HB6.out) (by dsimp only; omega)
       have z5 := Kp.cell hS9 (cell_stay HYC.out.2.2 HB6.out) (by dsimp only; omega)
       have z6 := Kp.cell hS9 (cell_stay HCR.out HB6.out) (by dsimp only; omega)
       have z7 := Kp.cell hS9 (cell_stay HCS.out HB6.out) (by dsimp only; omega)
       have z8 := Kp.cell hS9 (cell_stay HC.out HB6.out) (by rw [addr_block]; omega)
       go_simp
       try with_reducible rfl
      try simp only [Act.put, set9]
      refine wpAnyH_take (i := 6) (v := ?v26) (by simp only [get9]; rfl) (by kernel_rfl) (by kernel_rfl) (by kernel_rfl) (by exact fun _ _ _ h => h) (Or.inl ⟨by rfl, fun w9 hS9 => ?hy26⟩) hHeld ?rest26
      case hy26 =>
       dsimp only at hS9
       have z0 := Kp.cell hS9 (cell_stay HXC.out.1 HB6.out) (by dsimp only; omega)
       have z1 := Kp.cell hS9 (cell_stay HXC.out.2.1 HB6.out) (by dsimp only; omega)
       have z2 := Kp.cell hS9 (cell_stay HXC.out.2.2 HB6.out) (by dsimp only; omega)
       have z3 := Kp.cell hS9 (cell_stay HYC.out.1 HB6.out) (by dsimp only; omega)
       have z4 := Kp.cell hS9 (cell_stay HYC.out.2.1 HB6.out) (by dsimp only; omega)
       have z5 := Kp.cell hS9 (cell_stay HYC.out.2.2 HB6.out) (by dsimp only; omega)
       have z6 := Kp.cell hS9 (cell_stay HCR.out HB6.out) (by dsimp only; omega)
       have z7 := Kp.cell hS9 (cell_stay HCS.out HB6.out) (by dsimp only; omega)
       have z8 := Kp.cell hS9 (cell_stay HC.out HB6.out) (by rw [addr_block]; omega)
       go_simp
       try with_reducible rfl
      try simp only [Act.put, set9]
      refine wpAnyH_take (i := 7) (v := ?v27) (by simp only [get9]; rfl) (by kernel_rfl) (by kernel_rfl) (by kernel_rfl) (by exact fun _ _ _ h => h) (Or.inl ⟨by rfl, fun w9 hS9 => ?hy27⟩) hHeld ?rest27
      case hy27 =>
       dsimp only at hS9
       have z0 := Kp.cell hS9 (cell_stay HXC.out.1 HB6.out) (by dsimp only; omega)
       have z1 := Kp.cell hS9 (cell_stay HXC.out.2.1 HB6.out) (by dsimp only; omega)
       have z2 := Kp.cell hS9 (cell_stay HXC.out.2.2 HB6.out) (by dsimp only; omega)
       have z3 := Kp.cell hS9 (cell_stay HYC.out.1 HB6.out) (by dsimp only; omega)
       have z4 := Kp.cell hS9 (cell_stay HYC.out.2.1 HB6.out) (by dsimp only; omega)
       have z5 := Kp.cell hS9 (cell_stay HYC.out.2.2 HB6.out) (by dsimp only; omega)
       have z6 := Kp.cell hS9 (cell_stay HCR.out HB6.out) (by dsimp only; omega)
       have z7 := Kp.cell hS9 (cell_stay HCS.out HB6.out) (by dsimp only; omega)
       have z8 := Kp.cell hS9 (cell_stay HC.out HB6.out) (by rw [addr_block]; omega)
       go_simp
       try with_reducible rfl
      try simp only [Act.put, set9]
      refine wpAnyH_take (i := 8) (v := ?v28) (by simp only [get9]; rfl) (by kernel_rfl) (by kernel_rfl) (by kernel_rfl) (by exact fun _ _ _ h => h) (Or.inl ⟨by rfl, fun w9 hS9 => ?hy28⟩) hHeld ?rest28
      case hy28 =>
       dsimp only at hS9
       have z0 := Kp.cell hS9 (cell_stay HXC.out.1 HB6.out) (by dsimp only; omega)
       have z1 := Kp.cell hS9 (cell_stay HXC.out.2.1 HB6.out) (by dsimp only; omega)
       have z2 := Kp.cell hS9 (cell_stay HXC.out.2.2 HB6.out) (by dsimp only; omega)
       have z3 := Kp.cell hS9 (cell_stay HYC.out.1 HB6.out) (by dsimp only; omega)
       have z4 := Kp.cell hS9 (cell_stay HYC.out.2.1 HB6.out) (by dsimp only; omega)
       have z5 := Kp.cell hS9 (cell_stay HYC.out.2.2 HB6.out) (by dsimp only; omega)
       have z6 := Kp.cell hS9 (cell_stay HCR.out HB6.out) (by dsimp only; omega)
       have z7 := Kp.cell hS9 (cell_stay HCS.out HB6.out) (by dsimp only; omega)
       have z8 := Kp.cell hS9 (cell_stay HC.out HB6.out) (by rw [addr_block]; omega)
       go_simp
       try with_reducible rfl
      try simp only [Act.put, set9]
      refine wpAnyH_take (i := 9) (v := ?v29) (by simp only [get9]; rfl) (by kernel_rfl) (by kernel_rfl) (by kernel_rfl) (by exact fun _ _ _ h => h) (Or.inl ⟨by rfl, fun w9 hS9 => ?hy29⟩) hHeld ?rest29
      case hy29 =>
       dsimp only at hS9
       have z0 := Kp.cell hS9 (cell_stay HXC.out.1 HB6.out) (by dsimp only; omega)
       have z1 := Kp.cell hS9 (cell_stay HXC.out.2.1 HB6.out) (by dsimp only; omega)
       have z2 := Kp.cell hS9 (cell_stay HXC.out.2.2 HB6.out) (by dsimp only; omega)
       have z3 := Kp.cell hS9 (cell_stay HYC.out.1 HB6.out) (by dsimp only; omega)
       have z4 := Kp.cell hS9 (cell_stay HYC.out.2.1 HB6.out) (by dsimp only; omega)
       have z5 := Kp.cell hS9 (cell_stay HYC.out.2.2 HB6.out) (by dsimp only; omega)
       have z6 := Kp.cell hS9 (cell_stay HCR.out HB6.out) (by dsimp only; omega)
       have z7 := Kp.cell hS9 (cell_stay HCS.out HB6.out) (by dsimp only; omega)
       have z8 := Kp.cell hS9 (cell_stay HC.out HB6.out) (by rw [addr_block]; omega)
       go_simp
       try with_reducible rfl
      try simp only [Act.put, set9]
      refine wpAnyH_take (i := 10) (v := ?v30) (by simp only [get9]; rfl) (by kernel_rfl) (by kernel_rfl) (by kernel_rfl) (by exact fun _ _ _ h => h) (Or.inl ⟨by rfl, fun w9 hS9 => ?hy30⟩) hHeld ?rest30
      case hy30 =>
       dsimp only at hS9
       have z0 := Kp.cell hS9 (cell_stay HXC.out.1 HB6.out) (by dsimp only; omega)
       have z1 := Kp.cell hS9 (cell_stay HXC.out.2.1 HB6.out) (by dsimp only; omega)
       have z2 := Kp.cell hS9 (cell_stay HXC.out.2.2 HB6.out) (by dsimp only; omega)
       have z3 := Kp.cell hS9 (cell_stay HYC.out.1 HB6.out) (by dsimp only; omega)
       have z4 := Kp.cell hS9 (cell_stay HYC.out.2.1 HB6.out) (by dsimp only; omega)
       have z5 := Kp.cell hS9 (cell_stay HYC.out.2.2 HB6.out) (by dsimp only; omega)
       have z6 := Kp.cell hS9 (cell_stay HCR.out HB6.out) (by dsimp only; omega)
       have z7 := Kp.cell hS9 (cell_stay HCS.out HB6.out) (by dsimp only; omega)
       have z8 := Kp.cell hS9 (cell_stay HC.out HB6.out) (by rw [addr_block]; omega)
       go_simp
       try with_reducible rfl
      try simp only [Act.put, set9]
      refine wpAnyH_take (i := 11) (v := ?v31) (by simp only [get9]; rfl) (by kernel_rfl) (by kernel_rfl) (by kernel_rfl) (by exact fun _ _ _ h => h) (Or.inl ⟨by rfl, fun w9 hS9 => ?hy31⟩) hHeld ?rest31
      case hy31 =>
       dsimp only at hS9
       have z0 := Kp.cell hS9 (cell_stay HXC.out.1 HB6.out) (by dsimp only; omega)
       have z1 := Kp.cell hS9 (cell_stay HXC.out.2.1 HB6.out) (by dsimp only; omega)
       have z2 := Kp.cell hS9 (cell_stay HXC.out.2.2 HB6.out) (by dsimp only; omega)
       have z3 := Kp.cell hS9 (cell_stay HYC.out.1 HB6.out) (by dsimp only; omega)
       have z4 := Kp.cell hS9 (cell_stay HYC.out.2.1 HB6.out) (by dsimp only; omega)
       have z5 := Kp.cell hS9 (cell_stay HYC.out.2.2 HB6.out) (by dsimp only; omega)
       have z6 := Kp.cell hS9 (cell_stay HCR.out HB6.out) (by dsimp only; omega)
       have z7 := Kp.cell hS9 (cell_stay HCS.out HB6.out) (by dsimp only; omega)
       have z8 := Kp.cell hS9 (cell_stay HC.out HB6.out) (by rw [addr_block]; omega)
       go_simp
       try with_reducible rfl
      try simp only [Act.put, set9]
      refine wpAnyH_take (i := 12) (v := ?v32) (by simp only [get9]; rfl) (by kernel_rfl) (by kernel_rfl) (by kernel_rfl) (by exact fun _ _ _ h => h) (Or.inl ⟨by rfl, fun w9 hS9 => ?hy32⟩) hHeld ?rest32
      case hy32 =>
       dsimp only at hS9
       have z0 := Kp.cell hS9 (cell_stay HXC.out.1 HB6.out) (by dsimp only; omega)
       have z1 := Kp.cell hS9 (cell_stay HXC.out.2.1 HB6.out) (by dsimp only; omega)
       have z2 := Kp.cell hS9 (cell_stay HXC.out.2.2 HB6.out) (by dsimp only; omega)
       have z3 := Kp.cell hS9 (cell_stay HYC.out.1 HB6.out) (by dsimp only; omega)
       have z4 := Kp.cell hS9 (cell_stay HYC.out.2.1 HB6.out) (by dsimp only; omega)
       have z5 := Kp.cell hS9 (cell_stay HYC.out.2.2 HB6.out) (by dsimp only; omega)
       have z6 := Kp.cell hS9 (cell_stay HCR.out HB6.out) (by dsimp only; omega)
       have z7 := Kp.cell hS9 (cell_stay HCS.out HB6.out) (by dsimp only; omega)
       have z8 := Kp.cell hS9 (cell_stay HC.out HB6.out) (by rw [addr_block]; omega)
       go_simp
       try with_reducible rfl
      try simp only [Act.put, set9]
      refine wpAnyH_take (i := 13) (v := ?v33) (by simp only [get9]; rfl) (by kernel_rfl) (by kernel_rfl) (by kernel_rfl) (by exact fun _ _ _ h => h) (Or.inl ⟨by rfl, fun w9 hS9 => ?hy33⟩) hHeld ?rest33
      case hy33 =>
       dsimp only at hS9
       have z0 := Kp.cell hS9 (cell_stay HXC.out.1 HB6.out) (by dsimp only; omega)
       have z1 := Kp.cell hS9 (cell_stay HXC.out.2.1 HB6.out) (by dsimp only; omega)
       have z2 := Kp.cell hS9 (cell_stay HXC.out.2.2 HB6.out) (by dsimp only; omega)
       have z3 := Kp.cell hS9 (cell_stay HYC.out.1 HB6.out) (by dsimp only; omega)
       have z4 := Kp.cell hS9 (cell_stay HYC.out.2.1 HB6.out) (by dsimp only; omega)
       have z5 := Kp.cell hS9 (cell_stay HYC.out.2.2 HB6.out) (by dsimp only; omega)
       have z6 := Kp.cell hS9 (cell_stay HCR.out HB6.out) (by dsimp only; omega)
       have z7 := Kp.cell hS9 (cell_stay HCS.out HB6.out) (by dsimp only; omega)
       have z8 := Kp.cell hS9 (cell_stay HC.out HB6.out) (by rw [addr_block]; omega)
       go_simp
       try with_reducible rfl
      try simp only [Act.put, set9]
      refine wpAnyH_take (i := 14) (v := ?v34) (by simp only [get9]; rfl) (by kernel_rfl) (by kernel_rfl) (by kernel_rfl) (by exact fun _ _ _ h => h) (Or.inl ⟨by rfl, fun w9 hS9 => ?hy34⟩) hHeld ?rest34
      case hy34 =>
       dsimp only at hS9
       have z0 := Kp.cell hS9 (cell_stay HXC.out.1 HB6.out) (by dsimp only; omega)
       have z1 := Kp.cell hS9 (cell_stay HXC.out.2.1 HB6.out) (by dsimp only; omega)
       have z2 := Kp.cell hS9 (cell_stay HXC.out.2.2 HB6.out) (by dsimp only; omega)
       have z3 := Kp.cell hS9 (cell_stay HYC.out.1 HB6.out) (by dsimp only; omega)
       have z4 := Kp.cell hS9 (cell_stay HYC.out.2.1 HB6.out) (by dsimp only; omega)
       have z5 := Kp.cell hS9 (cell_stay HYC.out.2.2 HB6.out) (by dsimp only; omega)
       have z6 := Kp.cell hS9 (cell_stay HCR.out HB6.out) (by dsimp only; omega)
       have z7 := Kp.cell hS9 (cell_stay HCS.out HB6.out) (by dsimp only; omega)
       have z8 := Kp.cell hS9 (cell_stay HC.out HB6.out) (by rw [addr_block]; omega)
       go_simp
       try with_reducible rfl
      try simp only [Act.put, set9]
      refine wpAnyH_ready (rs := [15]) (by kernel_rfl) (by simp) (AllReadyH.cons (by simp only [get9]; rfl) (fun K hK => ?_) AllReadyH.nil)
      go_simp
      refine (HMS.out _ (HBW6.out.trans ((Below.refl _ w6).drew.mono (by omega)))).mono ?_
      rintro e w7 ⟨rfl, hb7⟩
      have HB7 : Hid (Below w6.heap.size w6 w7) := Lib.hid ((Below.refl _ w6).drew.trans hb7)
      clear hb7
      go_wp2_with fail
      refine hK.out _ _ (Kp.below HB7.out) (fun hHeld => ?_)
      clear hK K
      try simp only [Act.put, set9]
      refine wpAnyH_take (i := 16) (v := ?v35) (by simp only [get9]; rfl) (by kernel_rfl) (by kernel_rfl) (by kernel_rfl) (by exact fun _ _ _ h => h) (Or.inl ⟨by rfl, fun w9 hS9 => ?hy35⟩) hHeld ?rest35
      case hy35 =>
       dsimp only at hS9
       have z0 := Kp.cell hS9 (cell_stay HXC.out.1 HB6.out) (by dsimp only; omega)
       have z1 := Kp.cell hS9 (cell_stay HXC.out.2.1 HB6.out) (by dsimp only; omega)
       have z2 := Kp.cell hS9 (cell_stay HXC.out.2.2 HB6.out) (by dsimp only; omega)
       have z3 := Kp.cell hS9 (cell_stay HYC.out.1 HB6.out) (by dsimp only; omega)
       have z4 := Kp.cell hS9 (cell_stay HYC.out.2.1 HB6.out) (by dsimp only; omega)
       have z5 := Kp.cell hS9 (cell_stay HYC.out.2.2 HB6.out) (by dsimp only; omega)
       have z6 := Kp.cell hS9 (cell_stay HCR.out HB6.out) (by dsimp only; omega)
       have z7 := Kp.cell hS9 (cell_stay HCS.out HB6.out) (by dsimp only; omega)
       have z8 := Kp.cell hS9 (cell_stay HC.out HB6.out) (by rw [addr_block]; omega)
       go_simp
       try with_reducible rfl
      try simp only [Act.put, set9]
      refine wpAnyH_take (i := 17) (v := ?v36) (by simp only [get9]; rfl) (by kernel_rfl) (by kernel_rfl) (by kernel_rfl) (by exact fun _ _ _ h => h) (Or.inl ⟨by rfl, fun w9 hS9 => ?hy36⟩) hHeld ?rest36
      case hy36 =>
       dsimp only at hS9
       have z0 := Kp.cell hS9 (cell_stay HXC.out.1 HB6.out) (by dsimp only; omega)
       have z1 := Kp.cell hS9 (cell_stay HXC.out.2.1 HB6.out) (by dsimp only; omega)
       have z2 := Kp.cell hS9 (cell_stay HXC.out.2.2 HB6.out) (by dsimp only; omega)
       have z3 := Kp.cell hS9 (cell_stay HYC.out.1 HB6.out) (by dsimp only; omega)
       have z4 := Kp.cell hS9 (cell_stay HYC.out.2.1 HB6.out) (by dsimp only; omega)
       have z5 := Kp.cell hS9 (cell_stay HYC.out.2.2 HB6.out) (by dsimp only; omega)
       have z6 := Kp.cell hS9 (cell_stay HCR.out HB6.out) (by dsimp only; omega)
       have z7 := Kp.cell hS9 (cell_stay HCS.out HB6.out) (by dsimp only; omega)
       have z8 := Kp.cell hS9 (cell_stay HC.out HB6.out) (by rw [addr_block]; omega)
       go_simp
       try with_reducible rfl
      try simp only [Act.put, set9]
      refine wpAnyH_take (i := 18) (v := ?v37) (by simp only [get9]; rfl) (by kernel_rfl) (by kernel_rfl) (by kernel_rfl) (by exact fun _ _ _ h => h) (Or.inl ⟨by rfl, fun w9 hS9 => ?hy37⟩) hHeld ?rest37
      case hy37 =>
       dsimp only at hS9
       have z0 := Kp.cell hS9 (cell_stay HXC.out.1 HB6.out) (by dsimp only; omega)
       have z1 := Kp.cell hS9 (cell_stay HXC.out.2.1 HB6.out) (by dsimp only; omega)
       have z2 := Kp.cell hS9 (cell_stay HXC.out.2.2 HB6.out) (by dsimp only; omega)
       have z3 := Kp.cell hS9 (cell_stay HYC.out.1 HB6.out) (by dsimp only; omega)
       have z4 := Kp.cell hS9 (cell_stay HYC.out.2.1 HB6.out) (by dsimp only; omega)
       have z5 := Kp.cell hS9 (cell_stay HYC.out.2.2 HB6.out) (by dsimp only; omega)
       have z6 := Kp.cell hS9 (cell_stay HCR.out HB6.out) (by dsimp only; omega)
       have z7 := Kp.cell hS9 (cell_stay HCS.out HB6.out) (by dsimp only; omega)
       have z8 := Kp.cell hS9 (cell_stay HC.out HB6.out) (by rw [addr_block]; omega)
       go_simp
       try with_reducible rfl
      try simp only [Act.put, set9]
      refine wpAnyH_ready (rs := [19]) (by kernel_rfl) (by simp) (AllReadyH.cons (by simp only [get9]; rfl) (fun K hK => ?_) AllReadyH.nil)
      go_simp
      have HB8 : Hid (Below w6.heap.size w6 (w7.alloc (.cells #[.int .i64 mr.to, .int .i64 ms.to] 3))) := Lib.hid (HB7.out.alloc HB7.out.size _)
      refine hK.out _ _ (Kp.below HB8.out) (fun hHeld => ?_)
      clear hK K
      try simp only [Act.put, set9]
      refine wpAnyH_ready (rs := [20]) (by kernel_rfl) (by simp) (AllReadyH.cons (by simp only [get9]; rfl) (fun K hK => ?_) AllReadyH.nil)
      go_simp
      have HB9 : Hid (Below w6.heap.size w6 ((w7.alloc (.cells #[.int .i64 mr.to, .int .i64 ms.to] 3)).alloc (.cells #[.slice (some ⟨w7.heap.size, 0, none⟩) 2 2] 31))) := Lib.hid (HB8.out.alloc HB8.out.size _)
      refine hK.out _ _ (Kp.below HB9.out) (fun hHeld => ?_)
      clear hK K
      try simp only [Act.put, set9]
      refine wpAnyH_ready (rs := [21]) (by kernel_rfl) (by simp) (AllReadyH.cons (by simp only [get9]; rfl) (fun K hK => ?_) AllReadyH.nil)
      have HBR9 : Hid (Below wr.heap.size wr ((w7.alloc (.cells #[.int .i64 mr.to, .int .i64 ms.to] 3)).alloc (.cells #[.slice (some ⟨w7.heap.size, 0, none⟩) 2 2] 31))) := Lib.hid (HB6.out.trans (HB9.out.mono HB6.out.size))
      have HBR7 : Hid (Below wr.heap.size wr w7) := Lib.hid (HB6.out.trans (HB7.out.mono HB6.out.size))
      have hs7 := HBR7.out.size
      have hs9 := HBR9.out.size
      have HIT := Lib.hid (items_two w7 (mr.to, ms.to))
      have HOI := Lib.hid (HO.out.own.same HBR9.out)
      refine step_app_someI _ rowEnc_len (by omega) rowEnc_one (by rfl) (.tmp 74) (.tmp 94) 33 (by rfl) 31 i0 (.slice none 0 0) 24 Try.underlying33 HI.out.1 HI.out.2.1 HI.out.2.2.1 HI.out.2.2.2 rfl (by rfl) HOI.out (by rfl) HIT.out (by omega) (by omega) (by omega) ?_
      intro g7 c7 w8 ho8 hg8 hgg
      have HKP : Hid (Kp g5 wr w8) := Lib.hid (Kp.grow HBR9.out hg8)
      have HRP := Lib.hid (row_push (p := (mr.to, ms.to)) HO.out HBR7.out ho8 hg8 hgg)
      have HIN : Hid (Inside g5 (g5 + 1) ((w7.alloc (.cells #[.int .i64 mr.to, .int .i64 ms.to] 3)).alloc (.cells #[.slice (some ⟨w7.heap.size, 0, none⟩) 2 2] 31)) w8) := Lib.hid (Inside.row hg8 fun r' e' => by cases e'; omega)
      have hs8 : ((w7.alloc (.cells #[.int .i64 mr.to, .int .i64 ms.to] 3)).alloc (.cells #[.slice (some ⟨w7.heap.size, 0, none⟩) 2 2] 31)).heap.size ≤ w8.heap.size := hg8.size
      have hgl : g7 < L ∨ H ≤ g7 := by
       rcases hgg with e | e
       ·omega
       ·exact Or.inr (by omega)
      have HK6 : Hid (Kp g5 w6 w8) := Lib.hid (Kp.grow HB9.out hg8)
      clear ho8 hg8 hgg
      refine hK.out _ _ HK6.out (fun hHeld => ?_)
      clear hK K
      try simp only [Act.put, set9]
      refine wpAnyH_take (i := 22) (v := ?v38) (by simp only [get9]; rfl) (by kernel_rfl) (by kernel_rfl) (by kernel_rfl) (by exact fun _ _ _ h => h) (Or.inl ⟨by rfl, fun w9 hS9 => ?hy38⟩) hHeld ?rest38
      case hy38 =>
       dsimp only at hS9
       have z0 := Kp.cell hS9 (cell_stay HXC.out.1 HB6.out) (by dsimp only; omega)
       have z1 := Kp.cell hS9 (cell_stay HXC.out.2.1 HB6.out) (by dsimp only; omega)
       have z2 := Kp.cell hS9 (cell_stay HXC.out.2.2 HB6.out) (by dsimp only; omega)
       have z3 := Kp.cell hS9 (cell_stay HYC.out.1 HB6.out) (by dsimp only; omega)
       have z4 := Kp.cell hS9 (cell_stay HYC.out.2.1 HB6.out) (by dsimp only; omega)
       have z5 := Kp.cell hS9 (cell_stay HYC.out.2.2 HB6.out) (by dsimp only; omega)
       have z6 := Kp.cell hS9 (cell_stay HCR.out HB6.out) (by dsimp only; omega)
       have z7 := Kp.cell hS9 (cell_stay HCS.out HB6.out) (by dsimp only; omega)
       have z8 := Kp.cell hS9 (cell_stay HC.out HB6.out) (by rw [addr_block]; omega)
       go_simp
       try with_reducible rfl
      try simp only [Act.put, set9]
      refine wpAnyH_done (by kernel_rfl) ?_ _
      have HRP2 : Hid (OwnRs (rs ++ [w7.heap.size]) w8.heap.size w8 W0.heap.size g7 (n5 + 1) c7 (delivs a x b y ++ (((movesFrom b y true).take (j + 1)).filterMap (deliv b y a x)).map Prod.swap)) := Lib.hid (by rw [HE.out]; exact HRP.out)
      have HN8 := Lib.hid (HN.out.kp HKP.out (fun ad2 e2 => by have := HSP2.out ad2 e2; omega))
      have HD8 : Hid (Below W0.heap.size W0 w8) := Lib.hid (HIN.out.to (HD.out.trans (HBR9.out.mono HD.out.size)) (by omega) (by omega))
      go_wp2_with fail
      go_roundw
      case rel => exact ⟨_, j + 1, g7, n5 + 1, c7, by omega, by go_num, rfl, HRP2.out, by omega, hgl, HN8.out, HD8.out, by omega⟩
      case measure => simp [intOf]; omega
    ·obtain rfl : j = n4 := by omega
     have h9 := HO.out
     rw [List.take_of_length_le (by omega)] at h9
     have HF : Hid (OwnRs rs wr.heap.size wr W0.heap.size g5 n5 c5 (nextP a b x y)) := Lib.hid h9
     clear h9
     have hge := HB.out.size
     go_wp2_with fail
     go_ret
     exact ⟨_, _, _, rfl, ⟨rs, HF.out.lower hge⟩, HB.out.trans (HD.out.mono hge)⟩
end Go.Proofs.Ytckmgbobkffabaa
namespace Go.Proofs.Ytckmgbobkffabaa
open Go.ChangeShapes Go.WideShapes Go.ChangeAt Go.RowKit
set_option linter.unusedVariables false
set_option linter.unusedSimpArgs false

theorem l1In_told (n l h : Int) (w : World) :
  Calls Try.prog 55 #[.int .i64 n, .int .i64 l, .int .i64 h] w (Told (.bool (decide (l ≤ n) && decide (n ≤ h))) w) := by
 by_cases h1 : l ≤ n <;> by_cases h2 : n ≤ h <;> (go_enter Try.func55, Try.ntmps55; go_wp2; go_ret; exact ⟨by simp [h1, h2], Below.refl _ _⟩)

theorem take_allM {p : Mv → Bool} {l : List Mv} {j : Nat} {x : Mv} (hx : l[j]? = some x) (h : (l.take j).all p = true) (hp : p x = true) : (l.take (j + 1)).all p = true := by
 rw [List.take_add_one, hx, List.all_append, h]
 simp [hp]
theorem hit_self (z : Mv) : hitM z.frm z.send z.msg z = true := hitM_iff.2 ⟨rfl, rfl, rfl⟩
theorem hit_sym (a b : Mv) : hitM b.frm b.send b.msg a = hitM a.frm a.send a.msg b := by
 rw [Bool.eq_iff_iff, hitM_iff, hitM_iff]
 exact ⟨fun ⟨p, q, r⟩ => ⟨p.symm, q.symm, r.symm⟩, fun ⟨p, q, r⟩ => ⟨p.symm, q.symm, r.symm⟩⟩
/-- A move stands first, or one like it stands ahead. -/
theorem first_at {x : Mac} {j : Nat} {z : Mv} (hx : x.moves[j]? = some z) : decide (moveOf x z.frm z.send z.msg < (j : Int)) = (x.moves.take j).any (hitM z.frm z.send z.msg) := by
 cases h : (x.moves.take j).any (hitM z.frm z.send z.msg) with
 | false =>
  have : moveOf x z.frm z.send z.msg = (j : Int) := firstAt_hit hx h (hit_self z)
  rw [this]
  simp
 | true =>
  rcases firstAt_cases (hitM z.frm z.send z.msg) x.moves with ⟨_, e⟩ | ⟨k, y, e, hy, hp, hb⟩
  ·rw [List.any_eq_false] at e
   exact absurd (hit_self z) (e z (List.mem_of_getElem? hx))
  ·have : k < j := by
    rcases Nat.lt_or_ge k j with g | g
    ·exact g
    ·obtain ⟨u, hu, hpu⟩ := List.any_eq_true.1 h
     rw [List.any_eq_false] at hb
     exact absurd hpu (hb u (by
      have : x.moves.take j = (x.moves.take k).take j := by rw [List.take_take, Nat.min_eq_left g]
      rw [this] at hu
      exact List.mem_of_mem_take hu))
   unfold moveOf
   rw [e]
   simp; omega
theorem distinct_step {l : List Mv} {j : Nat} {z : Mv} (hx : l[j]? = some z) (h : Distinct (l.take j)) (hn : (l.take j).any (hitM z.frm z.send z.msg) = false) : Distinct (l.take (j + 1)) := by
 unfold Distinct at h ⊢
 rw [List.take_add_one, hx]
 refine List.pairwise_append.2 ⟨h, by simp, fun a ha b hb => ?_⟩
 have : b = z := by simpa using hb
 subst this
 rw [List.any_eq_false] at hn
 have := hn a ha
 unfold sameKey
 rw [← hit_sym a b]
 simpa using this
theorem not_distinct {l : List Mv} {j : Nat} {z : Mv} (hx : l[j]? = some z) (hn : (l.take j).any (hitM z.frm z.send z.msg) = true) : ¬ Distinct l := by
 intro h
 obtain ⟨y, hy, hp⟩ := List.any_eq_true.1 hn
 obtain ⟨i, hi⟩ := List.mem_iff_getElem?.1 hy
 rw [List.getElem?_take] at hi
 split at hi
 ·rename_i hij
  have hjl := at_lt hx
  have h3 := List.pairwise_iff_getElem.1 h i j (by omega) hjl hij
  rw [List.getElem?_eq_getElem (by omega)] at hi
  rw [List.getElem?_eq_getElem hjl] at hx
  rw [Option.some.inj hi, Option.some.inj hx] at h3
  unfold sameKey at h3
  rw [← hit_sym y z, hp] at h3
  cases h3
 ·cases hi
theorem from_other (x : Mac) (z : Mv) : decide (((movesFrom x z.frm (!z.send)).length : Int) > 0) = hasOther x.moves z := by
 have hm : ∀ y, y ∈ movesFrom x z.frm (!z.send) ↔ y ∈ msgsOf x.moves z.frm (!z.send) := fun y => by
  unfold movesFrom
  rw [(puts_asc (l := msgsOf x.moves z.frm (!z.send)) (acc := []) (by simp [Asc])).2 y]
  simp
 cases h : hasOther x.moves z with
 | true =>
  obtain ⟨y, hy, hp⟩ := List.any_eq_true.1 h
  have h1 : y.msg ∈ msgsOf x.moves z.frm (!z.send) := by
   unfold msgsOf
   refine List.mem_map.2 ⟨y, List.mem_filter.2 ⟨hy, ?_⟩, rfl⟩
   simp only [turnM, Bool.and_eq_true, beq_iff_eq, bne_iff_ne] at hp
   simp only [fromM, Bool.and_eq_true, beq_iff_eq]
   refine ⟨hp.1, ?_⟩
   cases h1 : y.send <;> cases h2 : z.send <;> simp_all
  have := List.length_pos_of_mem ((hm _).2 h1)
  simpa using this
 | false =>
  unfold hasOther at h
  rw [List.any_eq_false] at h
  have : movesFrom x z.frm (!z.send) = [] := by
   apply List.eq_nil_iff_forall_not_mem.2
   intro y hy
   have h1 := (hm y).1 hy
   unfold msgsOf at h1
   obtain ⟨u, hu, _⟩ := List.mem_map.1 h1
   obtain ⟨hu1, hu2⟩ := List.mem_filter.1 hu
   have h3 := h u hu1
   simp only [fromM, Bool.and_eq_true, beq_iff_eq] at hu2
   simp only [turnM, Bool.and_eq_true, beq_iff_eq, bne_iff_ne, not_and] at h3
   have := h3 hu2.1
   rw [hu2.2] at this
   cases h2 : z.send <;> simp_all
  rw [this]; rfl

set_option maxHeartbeats 8000000 in
set_option maxRecDepth 100000 in
theorem specIsMachine_any {w : World} {v : Value} {x : Mac} (h : MacW w v x) : Calls Try.prog 19 #[v] w (Told (.bool (isMac x)) w) := by
 obtain ⟨a, n, c, q, m, d, rfl, h1, h2, h3, h4⟩ := h
 have e1 := h1.len
 have e2 := h2.len
 have HB : Hid (Below w.heap.size w (w.alloc (.cells #[.int .i64 x.st, .slice a n c, .slice q m d] 27))) := Lib.hid (alloc_same w _)
 have HX : Hid ((w.alloc (.cells #[.int .i64 x.st, .slice a n c, .slice q m d] 27)).heap[w.heap.size]? = some (.cells #[.int .i64 x.st, .slice a n c, .slice q m d] 27 (0, 0))) := Lib.hid (heap_alloc_new w (.cells #[.int .i64 x.st, .slice a n c, .slice q m d] 27 (0, 0)))
 have hsz : (w.alloc (.cells #[.int .i64 x.st, .slice a n c, .slice q m d] 27)).heap.size = w.heap.size + 1 := by simp
 have HMW : Hid (MacW (w.alloc (.cells #[.int .i64 x.st, .slice a n c, .slice q m d] 27)) (.agg #[.int .i64 x.st, .slice a n c, .slice q m d]) x) := Lib.hid (MacW.same ⟨a, n, c, q, m, d, rfl, h1, h2, h3, h4⟩ HB.out)
 have H2 := Lib.hid (h2.same HB.out)
 have HE := Lib.hid (And.intro e1 e2)
 have hn64 : (n : Int) ≤ 9223372036854775807 := by omega
 have hm64 : (m : Int) ≤ 9223372036854775807 := by omega
 clear h1 h2 h3 h4 e1 e2
 have HI := Lib.hid (l1In_told x.st 1 6)
 cases q0 : inB x.st 1 6 with
 | false =>
  have HR : Hid (isMac x = false) := Lib.hid (by simp [isMac, q0])
  unfold inB at q0
  rw [q0] at HI
  clear q0
  go_enter Try.func19, Try.ntmps19
  go_wp2_with fail
  generalize (w.alloc (.cells #[.int .i64 x.st, .slice a n c, .slice q m d] 27)) = W0 at *
  refine (HI.out _).mono ?_
  rintro e w1 ⟨rfl, hb⟩
  have HD1 := Lib.hid hb
  have HB1 := Lib.hid (HB.out.trans (hb.mono HB.out.size))
  obtain ⟨b0, b1, b2, _, _, _⟩ := three_cells ((hb.block w.heap.size (by omega)).trans HX.out)
  clear hb
  go_wp2_with fail
  go_ret
  exact ⟨by rw [HR.out]; try rfl, HB1.out⟩
 | true =>
  have hst : 1 ≤ x.st ∧ x.st ≤ 6 := by simpa [inB] using q0
  have HQ0 := Lib.hid q0
  unfold inB at q0
  rw [q0] at HI
  clear q0
  by_cases q1 : (n : Int) = x.st
  ·have f1 : ((n : Int) != x.st) = false := by simpa using q1
   by_cases q2 : m ≤ 12
   ·have f2 : decide ((m : Int) > 12) = false := by simp; omega
    have f3 : decide ((12 : Int) < (m : Int)) = false := by simp; omega
    have HQ : Hid (isMac x = (x.moves.all (goodM x) && decide (Distinct x.moves))) := Lib.hid (by simp [isMac, HQ0.out, HE.out.1, HE.out.2, q1, q2])
    have HPT : Hid (x.parts ≤ 100) := Lib.hid (by unfold Mac.parts; rw [HE.out.1, HE.out.2]; omega)
    clear q1
    go_enter Try.func19, Try.ntmps19
    go_wp2_with fail
    generalize (w.alloc (.cells #[.int .i64 x.st, .slice a n c, .slice q m d] 27)) = W0 at *
    refine (HI.out _).mono ?_
    rintro e w1 ⟨rfl, hb⟩
    have HD1 := Lib.hid hb
    have HB1 := Lib.hid (HB.out.trans (hb.mono HB.out.size))
    obtain ⟨b0, b1, b2, _, _, _⟩ := three_cells ((hb.block w.heap.size (by omega)).trans HX.out)
    clear hb
    go_wp2_with fail
    clear f1 f2 f3 b0 b1 b2
    go_loopw [3] (fun i wr => ∃ j : Nat, j ≤ m ∧ i = .int .i64 j ∧ (x.moves.take j).all (goodM x) = true ∧ Distinct (x.moves.take j) ∧ Below W0.heap.size W0 wr) (fun i _ => m - (intOf i).toNat)
    case atStart => exact ⟨0, Nat.zero_le _, rfl, by simp, by simp [Distinct], HD1.out⟩
    case round =>
     obtain ⟨j, hj, rfl, hall, hdis, hb⟩ := hrel
     have HA := Lib.hid hall
     have HDI := Lib.hid hdis
     have HB9 := Lib.hid hb
     have hX1 := (hb.block w.heap.size (by omega)).trans HX.out
     obtain ⟨b0, b1, b2, _, _, _⟩ := three_cells hX1
     clear hall hb hX1 hdis
     by_cases hlt : j < m
     ·obtain ⟨y1, o1, z, rfl, hx, hc0, hc1, hc2, hc3⟩ := mvs_at (H2.out.same HB9.out) hlt
      have HXJ := Lib.hid hx
      have HM := Lib.hid (alloc_same wr (.cells #[.int .i64 z.frm, .bool z.send, .int .i64 z.msg, .int .i64 z.to] 63))
      have C := Lib.hid (four_at (heap_alloc_new wr (.cells #[.int .i64 z.frm, .bool z.send, .int .i64 z.msg, .int .i64 z.to] 63 (0, 0))))
      have A := Lib.hid (And.intro (cell_stay b0 HM.out) (And.intro (cell_stay b1 HM.out) (cell_stay b2 HM.out)))
      have HBM : Hid (Below W0.heap.size W0 (wr.alloc (.cells #[.int .i64 z.frm, .bool z.send, .int .i64 z.msg, .int .i64 z.to] 63))) := Lib.hid (HB9.out.trans (HM.out.mono HB9.out.size))
      have HT1 := Lib.hid (l1In_told z.frm 0 (x.st - 1))
      have HT2 := Lib.hid (l1In_told z.to 0 (x.st - 1))
      have HT3 := Lib.hid (l1In_told z.msg 0 5)
      have HT4 := Lib.hid (fun w' (h : MacW w' (.agg #[.int .i64 x.st, .slice a n c, .slice (some ⟨y1, o1, none⟩) m d]) x) => specMoveOf_any z.frm z.send z.msg h)
      have HT5 := Lib.hid (fun w' (h : MacW w' (.agg #[.int .i64 x.st, .slice a n c, .slice (some ⟨y1, o1, none⟩) m d]) x) => specMovesFrom_any z.frm (!z.send) h (by have := HPT.out; omega))
      have HJ4 := Lib.hid (first_at hx)
      have HJ5 := Lib.hid (from_other x z)
      clear hx
      cases q3 : inB z.frm 0 (x.st - 1) with
      | false =>
       have HR : Hid (isMac x = false) := Lib.hid (by
         rw [HQ.out]
         have : x.moves.all (goodM x) = false := by
          rw [List.all_eq_false]
          exact ⟨z, List.mem_of_getElem? HXJ.out, by simp [goodM, okM, q3]⟩
         rw [this]; rfl)
       unfold inB at q3
       rw [q3] at HT1
       clear q3
       have a0 := A.out.1
       have a1 := A.out.2.1
       have a2 := A.out.2.2
       go_wp2_with fail
       clear hc0 hc1 hc2 hc3 b0 b1 b2 a0 a1 a2
       generalize (wr.alloc (.cells #[.int .i64 z.frm, .bool z.send, .int .i64 z.msg, .int .i64 z.to] 63)) = W2 at *
       refine (HT1.out _).mono ?_
       rintro e v1 ⟨rfl, hb⟩
       have HV1 : Hid (Below W0.heap.size W0 v1) := Lib.hid (HBM.out.trans (hb.mono HBM.out.size))
       have HC1 : Hid (Below W2.heap.size W2 v1) := Lib.hid (hb)
       have c0 := cell_stay C.out.1 HC1.out
       have c1 := cell_stay C.out.2.1 HC1.out
       have c2 := cell_stay C.out.2.2.1 HC1.out
       have c3 := cell_stay C.out.2.2.2 HC1.out
       have k0 := cell_stay A.out.1 HC1.out
       have k1 := cell_stay A.out.2.1 HC1.out
       have k2 := cell_stay A.out.2.2 HC1.out
       clear hb
       go_wp2_with fail
       go_ret
       exact ⟨by rw [HR.out]; try rfl, HB.out.trans (HV1.out.mono HB.out.size)⟩
      | true =>
       cases q4 : inB z.to 0 (x.st - 1) with
       | false =>
        have HR : Hid (isMac x = false) := Lib.hid (by
          rw [HQ.out]
          have : x.moves.all (goodM x) = false := by
           rw [List.all_eq_false]
           exact ⟨z, List.mem_of_getElem? HXJ.out, by simp [goodM, okM, q4]⟩
          rw [this]; rfl)
        unfold inB at q3
        rw [q3] at HT1
        unfold inB at q4
        rw [q4] at HT2
        clear q3 q4
        have a0 := A.out.1
        have a1 := A.out.2.1
        have a2 := A.out.2.2
        go_wp2_with fail
        clear hc0 hc1 hc2 hc3 b0 b1 b2 a0 a1 a2
        generalize (wr.alloc (.cells #[.int .i64 z.frm, .bool z.send, .int .i64 z.msg, .int .i64 z.to] 63)) = W2 at *
        refine (HT1.out _).mono ?_
        rintro e v1 ⟨rfl, hb⟩
        have HV1 : Hid (Below W0.heap.size W0 v1) := Lib.hid (HBM.out.trans (hb.mono HBM.out.size))
        have HC1 : Hid (Below W2.heap.size W2 v1) := Lib.hid (hb)
        have c0 := cell_stay C.out.1 HC1.out
        have c1 := cell_stay C.out.2.1 HC1.out
        have c2 := cell_stay C.out.2.2.1 HC1.out
        have c3 := cell_stay C.out.2.2.2 HC1.out
        have k0 := cell_stay A.out.1 HC1.out
        have k1 := cell_stay A.out.2.1 HC1.out
        have k2 := cell_stay A.out.2.2 HC1.out
        clear hb
        go_wp2_with fail
        clear c0 c1 c2 c3 k0 k1 k2
        refine (HT2.out _).mono ?_
        rintro e v2 ⟨rfl, hb⟩
        have HV2 : Hid (Below W0.heap.size W0 v2) := Lib.hid (HV1.out.trans (hb.mono HV1.out.size))
        have HC2 : Hid (Below W2.heap.size W2 v2) := Lib.hid (HC1.out.trans (hb.mono HC1.out.size))
        have c0 := cell_stay C.out.1 HC2.out
        have c1 := cell_stay C.out.2.1 HC2.out
        have c2 := cell_stay C.out.2.2.1 HC2.out
        have c3 := cell_stay C.out.2.2.2 HC2.out
        have k0 := cell_stay A.out.1 HC2.out
        have k1 := cell_stay A.out.2.1 HC2.out
        have k2 := cell_stay A.out.2.2 HC2.out
        clear hb
        go_wp2_with fail
        go_ret
        exact ⟨by rw [HR.out]; try rfl, HB.out.trans (HV2.out.mono HB.out.size)⟩
       | true =>
        cases q5 : inB z.msg 0 5 with
        | false =>
         have HR : Hid (isMac x = false) := Lib.hid (by
           rw [HQ.out]
           have : x.moves.all (goodM x) = false := by
            rw [List.all_eq_false]
            exact ⟨z, List.mem_of_getElem? HXJ.out, by simp [goodM, okM, q5]⟩
           rw [this]; rfl)
         unfold inB at q3
         rw [q3] at HT1
         unfold inB at q4
         rw [q4] at HT2
         unfold inB at q5
         rw [q5] at HT3
         clear q3 q4 q5
         have a0 := A.out.1
         have a1 := A.out.2.1
         have a2 := A.out.2.2
         go_wp2_with fail
         clear hc0 hc1 hc2 hc3 b0 b1 b2 a0 a1 a2
         generalize (wr.alloc (.cells #[.int .i64 z.frm, .bool z.send, .int .i64 z.msg, .int .i64 z.to] 63)) = W2 at *
         refine (HT1.out _).mono ?_
         rintro e v1 ⟨rfl, hb⟩
         have HV1 : Hid (Below W0.heap.size W0 v1) := Lib.hid (HBM.out.trans (hb.mono HBM.out.size))
         have HC1 : Hid (Below W2.heap.size W2 v1) := Lib.hid (hb)
         have c0 := cell_stay C.out.1 HC1.out
         have c1 := cell_stay C.out.2.1 HC1.out
         have c2 := cell_stay C.out.2.2.1 HC1.out
         have c3 := cell_stay C.out.2.2.2 HC1.out
         have k0 := cell_stay A.out.1 HC1.out
         have k1 := cell_stay A.out.2.1 HC1.out
         have k2 := cell_stay A.out.2.2 HC1.out
         clear hb
         go_wp2_with fail
         clear c0 c1 c2 c3 k0 k1 k2
         refine (HT2.out _).mono ?_
         rintro e v2 ⟨rfl, hb⟩
         have HV2 : Hid (Below W0.heap.size W0 v2) := Lib.hid (HV1.out.trans (hb.mono HV1.out.size))
         have HC2 : Hid (Below W2.heap.size W2 v2) := Lib.hid (HC1.out.trans (hb.mono HC1.out.size))
         have c0 := cell_stay C.out.1 HC2.out
         have c1 := cell_stay C.out.2.1 HC2.out
         have c2 := cell_stay C.out.2.2.1 HC2.out
         have c3 := cell_stay C.out.2.2.2 HC2.out
         have k0 := cell_stay A.out.1 HC2.out
         have k1 := cell_stay A.out.2.1 HC2.out
         have k2 := cell_stay A.out.2.2 HC2.out
         clear hb
         go_wp2_with fail
         clear c0 c1 c2 c3 k0 k1 k2
         refine (HT3.out _).mono ?_
         rintro e v3 ⟨rfl, hb⟩
         have HV3 : Hid (Below W0.heap.size W0 v3) := Lib.hid (HV2.out.trans (hb.mono HV2.out.size))
         have HC3 : Hid (Below W2.heap.size W2 v3) := Lib.hid (HC2.out.trans (hb.mono HC2.out.size))
         have c0 := cell_stay C.out.1 HC3.out
         have c1 := cell_stay C.out.2.1 HC3.out
         have c2 := cell_stay C.out.2.2.1 HC3.out
         have c3 := cell_stay C.out.2.2.2 HC3.out
         have k0 := cell_stay A.out.1 HC3.out
         have k1 := cell_stay A.out.2.1 HC3.out
         have k2 := cell_stay A.out.2.2 HC3.out
         clear hb
         go_wp2_with fail
         go_ret
         exact ⟨by rw [HR.out]; try rfl, HB.out.trans (HV3.out.mono HB.out.size)⟩
        | true =>
         cases q6 : (x.moves.take j).any (hitM z.frm z.send z.msg) with
         | true =>
          have HR : Hid (isMac x = false) := Lib.hid (by
            rw [HQ.out, decide_eq_false (not_distinct HXJ.out q6)]
            simp)
          unfold inB at q3
          rw [q3] at HT1
          unfold inB at q4
          rw [q4] at HT2
          unfold inB at q5
          rw [q5] at HT3
          rw [q6] at HJ4
          have g4 := HJ4.out
          clear q3 q4 q5 q6
          have a0 := A.out.1
          have a1 := A.out.2.1
          have a2 := A.out.2.2
          go_wp2_with fail
          clear hc0 hc1 hc2 hc3 b0 b1 b2 a0 a1 a2
          generalize (wr.alloc (.cells #[.int .i64 z.frm, .bool z.send, .int .i64 z.msg, .int .i64 z.to] 63)) = W2 at *
          refine (HT1.out _).mono ?_
          rintro e v1 ⟨rfl, hb⟩
          have HV1 : Hid (Below W0.heap.size W0 v1) := Lib.hid (HBM.out.trans (hb.mono HBM.out.size))
          have HC1 : Hid (Below W2.heap.size W2 v1) := Lib.hid (hb)
          have c0 := cell_stay C.out.1 HC1.out
          have c1 := cell_stay C.out.2.1 HC1.out
          have c2 := cell_stay C.out.2.2.1 HC1.out
          have c3 := cell_stay C.out.2.2.2 HC1.out
          have k0 := cell_stay A.out.1 HC1.out
          have k1 := cell_stay A.out.2.1 HC1.out
          have k2 := cell_stay A.out.2.2 HC1.out
          clear hb
          go_wp2_with fail
          clear c0 c1 c2 c3 k0 k1 k2
          refine (HT2.out _).mono ?_
          rintro e v2 ⟨rfl, hb⟩
          have HV2 : Hid (Below W0.heap.size W0 v2) := Lib.hid (HV1.out.trans (hb.mono HV1.out.size))
          have HC2 : Hid (Below W2.heap.size W2 v2) := Lib.hid (HC1.out.trans (hb.mono HC1.out.size))
          have c0 := cell_stay C.out.1 HC2.out
          have c1 := cell_stay C.out.2.1 HC2.out
          have c2 := cell_stay C.out.2.2.1 HC2.out
          have c3 := cell_stay C.out.2.2.2 HC2.out
          have k0 := cell_stay A.out.1 HC2.out
          have k1 := cell_stay A.out.2.1 HC2.out
          have k2 := cell_stay A.out.2.2 HC2.out
          clear hb
          go_wp2_with fail
          clear c0 c1 c2 c3 k0 k1 k2
          refine (HT3.out _).mono ?_
          rintro e v3 ⟨rfl, hb⟩
          have HV3 : Hid (Below W0.heap.size W0 v3) := Lib.hid (HV2.out.trans (hb.mono HV2.out.size))
          have HC3 : Hid (Below W2.heap.size W2 v3) := Lib.hid (HC2.out.trans (hb.mono HC2.out.size))
          have c0 := cell_stay C.out.1 HC3.out
          have c1 := cell_stay C.out.2.1 HC3.out
          have c2 := cell_stay C.out.2.2.1 HC3.out
          have c3 := cell_stay C.out.2.2.2 HC3.out
          have k0 := cell_stay A.out.1 HC3.out
          have k1 := cell_stay A.out.2.1 HC3.out
          have k2 := cell_stay A.out.2.2 HC3.out
          clear hb
          go_wp2_with fail
          clear c0 c1 c2 c3 k0 k1 k2
          refine (HT4.out _ (HMW.out.same HV3.out)).mono ?_
          rintro e v4 ⟨rfl, hb⟩
          have HV4 : Hid (Below W0.heap.size W0 v4) := Lib.hid (HV3.out.trans (hb.mono HV3.out.size))
          have HC4 : Hid (Below W2.heap.size W2 v4) := Lib.hid (HC3.out.trans (hb.mono HC3.out.size))
          have c0 := cell_stay C.out.1 HC4.out
          have c1 := cell_stay C.out.2.1 HC4.out
          have c2 := cell_stay C.out.2.2.1 HC4.out
          have c3 := cell_stay C.out.2.2.2 HC4.out
          have k0 := cell_stay A.out.1 HC4.out
          have k1 := cell_stay A.out.2.1 HC4.out
          have k2 := cell_stay A.out.2.2 HC4.out
          clear hb
          go_wp2_with fail
          go_ret
          exact ⟨by rw [HR.out]; try rfl, HB.out.trans (HV4.out.mono HB.out.size)⟩
         | false =>
          cases q7 : hasOther x.moves z with
          | true =>
           have HR : Hid (isMac x = false) := Lib.hid (by
             rw [HQ.out]
             have : x.moves.all (goodM x) = false := by
              rw [List.all_eq_false]
              exact ⟨z, List.mem_of_getElem? HXJ.out, by simp [goodM, q7]⟩
             rw [this]; rfl)
           unfold inB at q3
           rw [q3] at HT1
           unfold inB at q4
           rw [q4] at HT2
           unfold inB at q5
           rw [q5] at HT3
           rw [q6] at HJ4
           have g4 := HJ4.out
           rw [q7] at HJ5
           clear q3 q4 q5 q6 q7
           have a0 := A.out.1
           have a1 := A.out.2.1
           have a2 := A.out.2.2
           go_wp2_with fail
           clear hc0 hc1 hc2 hc3 b0 b1 b2 a0 a1 a2
           generalize (wr.alloc (.cells #[.int .i64 z.frm, .bool z.send, .int .i64 z.msg, .int .i64 z.to] 63)) = W2 at *
           refine (HT1.out _).mono ?_
           rintro e v1 ⟨rfl, hb⟩
           have HV1 : Hid (Below W0.heap.size W0 v1) := Lib.hid (HBM.out.trans (hb.mono HBM.out.size))
           have HC1 : Hid (Below W2.heap.size W2 v1) := Lib.hid (hb)
           have c0 := cell_stay C.out.1 HC1.out
           have c1 := cell_stay C.out.2.1 HC1.out
           have c2 := cell_stay C.out.2.2.1 HC1.out
           have c3 := cell_stay C.out.2.2.2 HC1.out
           have k0 := cell_stay A.out.1 HC1.out
           have k1 := cell_stay A.out.2.1 HC1.out
           have k2 := cell_stay A.out.2.2 HC1.out
           clear hb
           go_wp2_with fail
           clear c0 c1 c2 c3 k0 k1 k2
           refine (HT2.out _).mono ?_
           rintro e v2 ⟨rfl, hb⟩
           have HV2 : Hid (Below W0.heap.size W0 v2) := Lib.hid (HV1.out.trans (hb.mono HV1.out.size))
           have HC2 : Hid (Below W2.heap.size W2 v2) := Lib.hid (HC1.out.trans (hb.mono HC1.out.size))
           have c0 := cell_stay C.out.1 HC2.out
           have c1 := cell_stay C.out.2.1 HC2.out
           have c2 := cell_stay C.out.2.2.1 HC2.out
           have c3 := cell_stay C.out.2.2.2 HC2.out
           have k0 := cell_stay A.out.1 HC2.out
           have k1 := cell_stay A.out.2.1 HC2.out
           have k2 := cell_stay A.out.2.2 HC2.out
           clear hb
           go_wp2_with fail
           clear c0 c1 c2 c3 k0 k1 k2
           refine (HT3.out _).mono ?_
           rintro e v3 ⟨rfl, hb⟩
           have HV3 : Hid (Below W0.heap.size W0 v3) := Lib.hid (HV2.out.trans (hb.mono HV2.out.size))
           have HC3 : Hid (Below W2.heap.size W2 v3) := Lib.hid (HC2.out.trans (hb.mono HC2.out.size))
           have c0 := cell_stay C.out.1 HC3.out
           have c1 := cell_stay C.out.2.1 HC3.out
           have c2 := cell_stay C.out.2.2.1 HC3.out
           have c3 := cell_stay C.out.2.2.2 HC3.out
           have k0 := cell_stay A.out.1 HC3.out
           have k1 := cell_stay A.out.2.1 HC3.out
           have k2 := cell_stay A.out.2.2 HC3.out
           clear hb
           go_wp2_with fail
           clear c0 c1 c2 c3 k0 k1 k2
           refine (HT4.out _ (HMW.out.same HV3.out)).mono ?_
           rintro e v4 ⟨rfl, hb⟩
           have HV4 : Hid (Below W0.heap.size W0 v4) := Lib.hid (HV3.out.trans (hb.mono HV3.out.size))
           have HC4 : Hid (Below W2.heap.size W2 v4) := Lib.hid (HC3.out.trans (hb.mono HC3.out.size))
           have c0 := cell_stay C.out.1 HC4.out
           have c1 := cell_stay C.out.2.1 HC4.out
           have c2 := cell_stay C.out.2.2.1 HC4.out
           have c3 := cell_stay C.out.2.2.2 HC4.out
           have k0 := cell_stay A.out.1 HC4.out
           have k1 := cell_stay A.out.2.1 HC4.out
           have k2 := cell_stay A.out.2.2 HC4.out
           clear hb
           go_wp2_with fail
           clear c0 c1 c2 c3 k0 k1 k2
           refine (HT5.out _ (HMW.out.same HV4.out)).mono ?_
           rintro e v5 ⟨p5, u5, r5, rfl, ho, hb⟩
           have hu5 := ho.len
           have HV5 : Hid (Below W0.heap.size W0 v5) := Lib.hid (HV4.out.trans (hb.mono HV4.out.size))
           have HC5 : Hid (Below W2.heap.size W2 v5) := Lib.hid (HC4.out.trans (hb.mono HC4.out.size))
           have c0 := cell_stay C.out.1 HC5.out
           have c1 := cell_stay C.out.2.1 HC5.out
           have c2 := cell_stay C.out.2.2.1 HC5.out
           have c3 := cell_stay C.out.2.2.2 HC5.out
           have k0 := cell_stay A.out.1 HC5.out
           have k1 := cell_stay A.out.2.1 HC5.out
           have k2 := cell_stay A.out.2.2 HC5.out
           clear hb
           have g5 := HJ5.out
           rw [hu5] at g5
           have g6 : 0 < u5 := by simpa using g5
           clear ho hu5 g5
           go_wp2_with fail
           go_ret
           exact ⟨by rw [HR.out]; try rfl, HB.out.trans (HV5.out.mono HB.out.size)⟩
          | false =>
           have HS := Lib.hid (take_allM HXJ.out HA.out (by simp [goodM, okM, q3, q4, q5, q7]))
           have HS2 := Lib.hid (distinct_step HXJ.out HDI.out q6)
           unfold inB at q3
           rw [q3] at HT1
           unfold inB at q4
           rw [q4] at HT2
           unfold inB at q5
           rw [q5] at HT3
           rw [q6] at HJ4
           have g4 := HJ4.out
           rw [q7] at HJ5
           clear q3 q4 q5 q6 q7
           have a0 := A.out.1
           have a1 := A.out.2.1
           have a2 := A.out.2.2
           go_wp2_with fail
           clear hc0 hc1 hc2 hc3 b0 b1 b2 a0 a1 a2
           generalize (wr.alloc (.cells #[.int .i64 z.frm, .bool z.send, .int .i64 z.msg, .int .i64 z.to] 63)) = W2 at *
           refine (HT1.out _).mono ?_
           rintro e v1 ⟨rfl, hb⟩
           have HV1 : Hid (Below W0.heap.size W0 v1) := Lib.hid (HBM.out.trans (hb.mono HBM.out.size))
           have HC1 : Hid (Below W2.heap.size W2 v1) := Lib.hid (hb)
           have c0 := cell_stay C.out.1 HC1.out
           have c1 := cell_stay C.out.2.1 HC1.out
           have c2 := cell_stay C.out.2.2.1 HC1.out
           have c3 := cell_stay C.out.2.2.2 HC1.out
           have k0 := cell_stay A.out.1 HC1.out
           have k1 := cell_stay A.out.2.1 HC1.out
           have k2 := cell_stay A.out.2.2 HC1.out
           clear hb
           go_wp2_with fail
           clear c0 c1 c2 c3 k0 k1 k2
           refine (HT2.out _).mono ?_
           rintro e v2 ⟨rfl, hb⟩
           have HV2 : Hid (Below W0.heap.size W0 v2) := Lib.hid (HV1.out.trans (hb.mono HV1.out.size))
           have HC2 : Hid (Below W2.heap.size W2 v2) := Lib.hid (HC1.out.trans (hb.mono HC1.out.size))
           have c0 := cell_stay C.out.1 HC2.out
           have c1 := cell_stay C.out.2.1 HC2.out
           have c2 := cell_stay C.out.2.2.1 HC2.out
           have c3 := cell_stay C.out.2.2.2 HC2.out
           have k0 := cell_stay A.out.1 HC2.out
           have k1 := cell_stay A.out.2.1 HC2.out
           have k2 := cell_stay A.out.2.2 HC2.out
           clear hb
           go_wp2_with fail
           clear c0 c1 c2 c3 k0 k1 k2
           refine (HT3.out _).mono ?_
           rintro e v3 ⟨rfl, hb⟩
           have HV3 : Hid (Below W0.heap.size W0 v3) := Lib.hid (HV2.out.trans (hb.mono HV2.out.size))
           have HC3 : Hid (Below W2.heap.size W2 v3) := Lib.hid (HC2.out.trans (hb.mono HC2.out.size))
           have c0 := cell_stay C.out.1 HC3.out
           have c1 := cell_stay C.out.2.1 HC3.out
           have c2 := cell_stay C.out.2.2.1 HC3.out
           have c3 := cell_stay C.out.2.2.2 HC3.out
           have k0 := cell_stay A.out.1 HC3.out
           have k1 := cell_stay A.out.2.1 HC3.out
           have k2 := cell_stay A.out.2.2 HC3.out
           clear hb
           go_wp2_with fail
           clear c0 c1 c2 c3 k0 k1 k2
           refine (HT4.out _ (HMW.out.same HV3.out)).mono ?_
           rintro e v4 ⟨rfl, hb⟩
           have HV4 : Hid (Below W0.heap.size W0 v4) := Lib.hid (HV3.out.trans (hb.mono HV3.out.size))
           have HC4 : Hid (Below W2.heap.size W2 v4) := Lib.hid (HC3.out.trans (hb.mono HC3.out.size))
           have c0 := cell_stay C.out.1 HC4.out
           have c1 := cell_stay C.out.2.1 HC4.out
           have c2 := cell_stay C.out.2.2.1 HC4.out
           have c3 := cell_stay C.out.2.2.2 HC4.out
           have k0 := cell_stay A.out.1 HC4.out
           have k1 := cell_stay A.out.2.1 HC4.out
           have k2 := cell_stay A.out.2.2 HC4.out
           clear hb
           go_wp2_with fail
           clear c0 c1 c2 c3 k0 k1 k2
           refine (HT5.out _ (HMW.out.same HV4.out)).mono ?_
           rintro e v5 ⟨p5, u5, r5, rfl, ho, hb⟩
           have hu5 := ho.len
           have HV5 : Hid (Below W0.heap.size W0 v5) := Lib.hid (HV4.out.trans (hb.mono HV4.out.size))
           have HC5 : Hid (Below W2.heap.size W2 v5) := Lib.hid (HC4.out.trans (hb.mono HC4.out.size))
           have c0 := cell_stay C.out.1 HC5.out
           have c1 := cell_stay C.out.2.1 HC5.out
           have c2 := cell_stay C.out.2.2.1 HC5.out
           have c3 := cell_stay C.out.2.2.2 HC5.out
           have k0 := cell_stay A.out.1 HC5.out
           have k1 := cell_stay A.out.2.1 HC5.out
           have k2 := cell_stay A.out.2.2 HC5.out
           clear hb
           have g5 := HJ5.out
           rw [hu5] at g5
           have g6 : u5 = 0 := by simpa using g5
           clear ho hu5 g5
           subst g6
           go_wp2_with fail
           go_roundw
           case rel => exact ⟨j + 1, by omega, by go_num, HS.out, HS2.out, HV5.out⟩
           case measure => simp [intOf]; omega
     ·obtain rfl : j = m := by omega
      have hall : x.moves.all (goodM x) = true := by
       have h1 := HA.out
       rwa [List.take_of_length_le (by rw [HE.out.2]; omega)] at h1
      have hdis : Distinct x.moves := by
       have h1 := HDI.out
       rwa [List.take_of_length_le (by rw [HE.out.2]; omega)] at h1
      have HR : Hid (isMac x = true) := Lib.hid (by rw [HQ.out, hall, decide_eq_true hdis]; rfl)
      clear hall hdis
      go_wp2_with fail
      go_ret
      exact ⟨by rw [HR.out]; try rfl, HB.out.trans (HB9.out.mono HB.out.size)⟩
   ·have f1 : decide ((m : Int) > 12) = true := by simp; omega
    have f2 : decide ((12 : Int) < (m : Int)) = true := by simp; omega
    have f0 : ((n : Int) != x.st) = false := by simpa using q1
    have HR : Hid (isMac x = false) := Lib.hid (by
     have : decide (x.moves.length ≤ 12) = false := by rw [HE.out.2]; simpa using q2
     simp [isMac, this])
    clear q1 q2
    go_enter Try.func19, Try.ntmps19
    go_wp2_with fail
    generalize (w.alloc (.cells #[.int .i64 x.st, .slice a n c, .slice q m d] 27)) = W0 at *
    refine (HI.out _).mono ?_
    rintro e w1 ⟨rfl, hb⟩
    have HD1 := Lib.hid hb
    have HB1 := Lib.hid (HB.out.trans (hb.mono HB.out.size))
    obtain ⟨b0, b1, b2, _, _, _⟩ := three_cells ((hb.block w.heap.size (by omega)).trans HX.out)
    clear hb
    go_wp2_with fail
    go_ret
    exact ⟨by rw [HR.out]; try rfl, HB1.out⟩
  ·have f0 : ((n : Int) != x.st) = true := by simpa using q1
   have HR : Hid (isMac x = false) := Lib.hid (by
    have : decide ((x.ends.length : Int) = x.st) = false := by rw [HE.out.1]; simpa using q1
    simp [isMac, this])
   clear q1
   go_enter Try.func19, Try.ntmps19
   go_wp2_with fail
   generalize (w.alloc (.cells #[.int .i64 x.st, .slice a n c, .slice q m d] 27)) = W0 at *
   refine (HI.out _).mono ?_
   rintro e w1 ⟨rfl, hb⟩
   have HD1 := Lib.hid hb
   have HB1 := Lib.hid (HB.out.trans (hb.mono HB.out.size))
   obtain ⟨b0, b1, b2, _, _, _⟩ := three_cells ((hb.block w.heap.size (by omega)).trans HX.out)
   clear hb
   go_wp2_with fail
   go_ret
   exact ⟨by rw [HR.out]; try rfl, HB1.out⟩
end Go.Proofs.Ytckmgbobkffabaa
