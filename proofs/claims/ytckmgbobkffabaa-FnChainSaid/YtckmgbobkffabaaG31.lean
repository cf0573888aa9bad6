/- What is wrong in a pair of states; the first such pair; safety: by the model. Whether a number is on a list, by the model. -/
import Derived.Test.YtckmgbobkffabaaG28
import Derived.Test.YtckmgbobkffabaaG30
import Derived.Test.YtckmgbobkffabaaG1
import Derived.RegionTactic
import Derived.Handy
namespace Go.Proofs.Ytckmgbobkffabaa
open Go.ChangeShapes Go.WideShapes Go.ChangeAt Go.RowKit
set_option linter.unusedVariables false
set_option linter.unusedSimpArgs false

theorem moveOf_neg (x : Mac) (s : Int) (b : Bool) (k : Int) : decide (moveOf x s b k < 0) = (toOf x.moves s b k).isNone := by
 cases h : toOf x.moves s b k with
 | none => rw [moveOf_none h]; rfl
 | some t =>
  obtain ⟨j, m, e, _⟩ := moveOf_some h
  rw [e]
  exact decide_eq_false (by omega)
theorem any_yes {α : Type} {p : α → Bool} {l : List α} {j : Nat} {x : α} (hx : l[j]? = some x) (hp : p x = true) : l.any p = true := List.any_eq_true.2 ⟨x, List.mem_of_getElem? hx, hp⟩
theorem any_next {α : Type} {p : α → Bool} {l : List α} {j : Nat} {x : α} (hx : l[j]? = some x) (h : (l.take j).any p = false) (hp : p x = false) : (l.take (j + 1)).any p = false := by
 rw [List.take_add_one, hx, List.any_append, h]
 simp [hp]
set_option maxHeartbeats 1000000 in
set_option maxRecDepth 100000 in
theorem l14Unread_any {va vb : Value} {a b : Mac} (x y : Int) {w : World} (ha : MacW w va a) (hb : MacW w vb b) (hn : a.parts ≤ 10000000) (hn' : b.parts ≤ 10000000) :
  Calls Try.prog 80 #[va, vb, .int .i64 x, .int .i64 y] w (Told (.bool (unreadP a b x y)) w) := by
 obtain ⟨p, np, cp, q, n, c, rfl⟩ := ha.shape
 obtain ⟨p', np', cp', q', n', c', rfl⟩ := hb.shape
 obtain ⟨hB, hX, hY, hS⟩ := twice w #[.int .i64 a.st, .slice p np cp, .slice q n c] #[.int .i64 b.st, .slice p' np' cp', .slice q' n' c'] 27 27
 have HB := Lib.hid hB
 have HX := Lib.hid hX
 have HY := Lib.hid hY
 have HMA := Lib.hid (ha.same hB)
 have HMB := Lib.hid (hb.same hB)
 have hyl : w.heap.size + 1 < ((w.alloc (.cells #[.int .i64 a.st, .slice p np cp, .slice q n c] 27)).alloc (.cells #[.int .i64 b.st, .slice p' np' cp', .slice q' n' c'] 27)).heap.size := (Array.getElem?_eq_some_iff.1 hY).1
 clear hB hX hY hS ha hb
 obtain ⟨x0, x1, x2, -⟩ := three_cells HX.out
 go_enter Try.func80, Try.ntmps80
 go_wp2_with fail
 clear x0 x1 x2
 generalize (w.alloc (.cells #[.int .i64 a.st, .slice p np cp, .slice q n c] 27)).alloc (.cells #[.int .i64 b.st, .slice p' np' cp', .slice q' n' c'] 27) = W0 at *
 refine (specMovesFrom_any x true HMA.out (by omega)).mono ?_
 rintro e w2 ⟨a4, n4, c4, rfl, ho4, hb4⟩
 have hn4 := ho4.len
 have hroom4 := ho4.room
 have HN4 := Lib.hid ho4.nums
 have HD4 := Lib.hid hb4
 clear ho4 hb4
 go_wp2_with fail
 go_loopw [10] (fun i wr => ∃ j : Nat, j ≤ n4 ∧ i = .int .i64 j ∧ ((movesFrom a x true).take j).any (fun k => (toOf b.moves y false k).isNone) = false ∧ Below w2.heap.size w2 wr) (fun i _ => n4 - (intOf i).toNat)
 case atStart => exact ⟨0, Nat.zero_le _, rfl, by simp, Below.refl _ _⟩
 case round =>
  obtain ⟨j, hj, rfl, hno, hb⟩ := hrel
  have HNO := Lib.hid hno
  have HR := Lib.hid hb
  have HD : Hid (Below W0.heap.size W0 wr) := Lib.hid (HD4.out.trans (hb.mono HD4.out.size))
  clear hno hb
  by_cases hlt : j < n4
  ·obtain ⟨ad, km, e4, hk, hc⟩ := (HN4.out.same HR.out).at_ hlt
   subst e4
   obtain ⟨y0, y1, y2, -⟩ := three_cells ((HD.out.block _ hyl).trans HY.out)
   have HK := Lib.hid hk
   have HMO := Lib.hid (fun W' hb' => specMoveOf_any y false km (HMB.out.same (w' := W') (HD.out.trans hb')))
   have hneg := moveOf_neg b y false km
   clear hk
   cases hr : (toOf b.moves y false km).isNone with
   | true =>
    rw [hr] at hneg
    have HU : Hid (unreadP a b x y = true) := Lib.hid (any_yes (p := fun k => (toOf b.moves y false k).isNone) HK.out hr)
    have HNG := Lib.hid hneg
    clear hr hneg
    go_wp2_with fail
    go_still_tail 6, (by kernel_rfl)
    have H2 : Hid (Below W0.heap.size wr wr.drew) := Lib.hid (Below.refl _ _).drew
    change wpList _ _ _ _ _ wr.drew
    generalize wr.drew = w3 at H2 ⊢
    clear y0 y1 y2 hc
    have hneg := HNG.out
    go_wp2_with fail
    refine (HMO.out w3 H2.out).mono ?_
    rintro e w6 ⟨rfl, hb6⟩
    have HB6 : Hid (Below w.heap.size w w6) := Lib.hid (HB.out.trans ((HD.out.trans (H2.out.trans (hb6.mono (by have := HD.out.size; have := H2.out.size; omega)))).mono HB.out.size))
    clear hb6
    go_wp2_with fail
    go_ret
    exact ⟨by rw [HU.out]; try rfl, HB6.out⟩
   | false =>
    rw [hr] at hneg
    have HU := Lib.hid (any_next (p := fun k => (toOf b.moves y false k).isNone) HK.out HNO.out hr)
    have HNG := Lib.hid hneg
    clear hr hneg
    go_wp2_with fail
    go_still_tail 6, (by kernel_rfl)
    have H2 : Hid (Below W0.heap.size wr wr.drew) := Lib.hid (Below.refl _ _).drew
    have H3 : Hid (Below wr.heap.size wr wr.drew) := Lib.hid (Below.refl _ _).drew
    change wpList _ _ _ _ _ wr.drew
    generalize wr.drew = w3 at H2 H3 ⊢
    clear y0 y1 y2 hc
    have hneg := HNG.out
    go_wp2_with fail
    refine (HMO.out w3 H2.out).mono ?_
    rintro e w6 ⟨rfl, hb6⟩
    have HB6 : Hid (Below w2.heap.size w2 w6) := Lib.hid (HR.out.trans ((H3.out.trans (hb6.mono H3.out.size)).mono HR.out.size))
    clear hb6
    go_wp2_with fail
    go_roundw
    case rel => exact ⟨j + 1, by omega, by go_num, HU.out, HB6.out⟩
    case measure => simp [intOf]; omega
  ·obtain rfl : j = n4 := by omega
   have hno := HNO.out
   rw [List.take_of_length_le (by omega)] at hno
   have HU : Hid (unreadP a b x y = false) := Lib.hid hno
   clear hno
   go_wp2_with fail
   go_ret
   exact ⟨by rw [HU.out]; try rfl, HB.out.trans (HD.out.mono HB.out.size)⟩
set_option maxRecDepth 100000 in
theorem l14End_any {v : Value} {x : Mac} (s : Int) {w : World} (h : MacW w v x) :
  Calls Try.prog 81 #[v, .int .i64 s] w (Told (.bool (stopP x s)) w) := by
 obtain ⟨p, np, cp, a, n, c, rfl, hbl, hmv, ⟨hr1, hr2⟩, hr3, hr4⟩ := h
 have hlen := hbl.len
 have HB := Lib.hid (alloc_same w (.cells #[.int .i64 x.st, .slice p np cp, .slice a n c] 27))
 have HL := Lib.hid (hbl.same HB.out)
 have C := Lib.hid (three_cells (heap_alloc_new w (.cells #[.int .i64 x.st, .slice p np cp, .slice a n c] 27 (0, 0))))
 have HI := Lib.hid (l1In_told s 0 ((np : Int) - 1))
 have HS : Hid (stopP x s = (inB s 0 ((np : Int) - 1) && x.ends.getD s.toNat false)) := Lib.hid (by unfold stopP; rw [hlen])
 clear hbl hmv
 cases q : inB s 0 ((np : Int) - 1) with
 | false =>
  unfold inB at q
  rw [q] at HI
  have HR : Hid (stopP x s = false) := Lib.hid (by rw [HS.out]; simp [inB, q])
  clear q
  go_enter Try.func81, Try.ntmps81
  go_wp2_with fail
  generalize (w.alloc (.cells #[.int .i64 x.st, .slice p np cp, .slice a n c] 27)) = W0 at *
  refine (HI.out _).mono ?_
  rintro e w1 ⟨rfl, hb⟩
  have HB1 := Lib.hid (HB.out.trans (hb.mono HB.out.size))
  clear hb
  go_wp2_with fail
  go_ret
  exact ⟨by rw [HR.out]; try rfl, HB1.out⟩
 | true =>
  have hq := q
  unfold inB at q
  rw [q] at HI
  simp only [inB, Bool.and_eq_true, decide_eq_true_eq] at hq
  obtain ⟨j, rfl⟩ : ∃ j : Nat, s = (j : Int) := ⟨s.toNat, by omega⟩
  have hj : j < np := by omega
  obtain ⟨b1, o1, z, rfl, hz, hcz⟩ := bls_at HL.out hj
  have HR : Hid (stopP x (j : Int) = z) := Lib.hid (by
   rw [HS.out]
   simp only [Int.toNat_natCast, List.getD, hz, Option.getD_some, inB]
   rw [q, Bool.true_and])
  clear q hz
  go_enter Try.func81, Try.ntmps81
  go_wp2_with fail
  generalize (w.alloc (.cells #[.int .i64 x.st, .slice (some ⟨b1, o1, none⟩) np cp, .slice a n c] 27)) = W0 at *
  refine (HI.out _).mono ?_
  rintro e w1 ⟨rfl, hb⟩
  have HB1 := Lib.hid (HB.out.trans (hb.mono HB.out.size))
  have c1 := cell_stay C.out.2.1 hb
  have cz := cell_stay hcz hb
  clear hb
  go_wp2_with fail
  go_ret
  exact ⟨by rw [HR.out]; try rfl, HB1.out⟩
set_option maxHeartbeats 4000000 in
set_option maxRecDepth 100000 in
theorem specTroubleAt_any {va vb : Value} {a b : Mac} (x y : Int) {w : World} (ha : MacW w va a) (hb : MacW w vb b) (hn : a.parts ≤ 10000000) (hn' : b.parts ≤ 10000000) :
  Calls Try.prog 36 #[va, vb, .int .i64 x, .int .i64 y] w (Told (.int .i64 (troubleP a b x y)) w) := by
 obtain ⟨p, np, cp, q, n, c, rfl⟩ := ha.shape
 obtain ⟨p', np', cp', q', n', c', rfl⟩ := hb.shape
 obtain ⟨hB, hX, hY, hS⟩ := twice w #[.int .i64 a.st, .slice p np cp, .slice q n c] #[.int .i64 b.st, .slice p' np' cp', .slice q' n' c'] 27 27
 have HB := Lib.hid hB
 have HX := Lib.hid hX
 have HY := Lib.hid hY
 have HMA := Lib.hid (ha.same hB)
 have HMB := Lib.hid (hb.same hB)
 have hxl : w.heap.size < ((w.alloc (.cells #[.int .i64 a.st, .slice p np cp, .slice q n c] 27)).alloc (.cells #[.int .i64 b.st, .slice p' np' cp', .slice q' n' c'] 27)).heap.size := (Array.getElem?_eq_some_iff.1 hX).1
 have hyl : w.heap.size + 1 < ((w.alloc (.cells #[.int .i64 a.st, .slice p np cp, .slice q n c] 27)).alloc (.cells #[.int .i64 b.st, .slice p' np' cp', .slice q' n' c'] 27)).heap.size := (Array.getElem?_eq_some_iff.1 hY).1
 clear hB hX hY hS ha hb
 obtain ⟨x0, x1, x2, -⟩ := three_cells HX.out
 obtain ⟨y0, y1, y2, -⟩ := three_cells HY.out
 go_enter Try.func36, Try.ntmps36
 go_wp2_with fail
 clear x0 x1 x2 y0 y1 y2
 generalize (w.alloc (.cells #[.int .i64 a.st, .slice p np cp, .slice q n c] 27)).alloc (.cells #[.int .i64 b.st, .slice p' np' cp', .slice q' n' c'] 27) = W0 at *
 have HF4 : Hid (Below W0.heap.size W0 W0) := Lib.hid (Below.refl _ _)
 refine (l14Unread_any x y HMA.out HMB.out hn hn').mono ?_
 rintro e w5 ⟨rfl, hb⟩
 have HF5 : Hid (Below W0.heap.size W0 w5) := Lib.hid (HF4.out.trans (hb.mono HF4.out.size))
 clear hb
 cases u1 : unreadP a b x y with
 | true =>
  obtain ⟨x0, x1, x2, -⟩ := three_cells ((HF5.out.block _ hxl).trans HX.out)
  obtain ⟨y0, y1, y2, -⟩ := three_cells ((HF5.out.block _ hyl).trans HY.out)
  have HT : Hid (troubleP a b x y = 1) := Lib.hid (by unfold troubleP; rw [u1, Bool.true_or, if_pos rfl])
  go_wp2_with fail
  go_ret
  exact ⟨by rw [HT.out]; try rfl, HB.out.trans (HF5.out.mono HB.out.size)⟩
 | false =>
  obtain ⟨x0, x1, x2, -⟩ := three_cells ((HF5.out.block _ hxl).trans HX.out)
  obtain ⟨y0, y1, y2, -⟩ := three_cells ((HF5.out.block _ hyl).trans HY.out)
  go_wp2_with fail
  clear x0 x1 x2 y0 y1 y2
  refine (l14Unread_any y x (HMB.out.same HF5.out) (HMA.out.same HF5.out) hn' hn).mono ?_
  rintro e w6 ⟨rfl, hb⟩
  have HF6 : Hid (Below W0.heap.size W0 w6) := Lib.hid (HF5.out.trans (hb.mono HF5.out.size))
  clear hb
  cases u2 : unreadP b a y x with
  | true =>
   obtain ⟨x0, x1, x2, -⟩ := three_cells ((HF6.out.block _ hxl).trans HX.out)
   obtain ⟨y0, y1, y2, -⟩ := three_cells ((HF6.out.block _ hyl).trans HY.out)
   have HT : Hid (troubleP a b x y = 1) := Lib.hid (by unfold troubleP; rw [u1, u2, Bool.false_or, if_pos rfl])
   go_wp2_with fail
   go_ret
   exact ⟨by rw [HT.out]; try rfl, HB.out.trans (HF6.out.mono HB.out.size)⟩
  | false =>
   obtain ⟨x0, x1, x2, -⟩ := three_cells ((HF6.out.block _ hxl).trans HX.out)
   obtain ⟨y0, y1, y2, -⟩ := three_cells ((HF6.out.block _ hyl).trans HY.out)
   go_wp2_with fail
   clear x0 x1 x2 y0 y1 y2
   refine (specNextPairs_any x y (HMA.out.same HF6.out) (HMB.out.same HF6.out) hn hn').mono ?_
   rintro e w7 ⟨g, k, d, rfl, ho, hb⟩
   have HF7 : Hid (Below W0.heap.size W0 w7) := Lib.hid (HF6.out.trans (hb.mono HF6.out.size))
   have hk : (nextP a b x y).length = k := ho.count
   clear ho
   clear hb
   cases nz : (nextP a b x y).isEmpty with
   | false =>
    have hk0 : ((k : Int) == 0) = false := by
     rw [beq_eq_false_iff_ne]
     intro e
     have : (nextP a b x y) = [] := List.eq_nil_of_length_eq_zero (by omega)
     rw [this] at nz
     cases nz
    obtain ⟨x0, x1, x2, -⟩ := three_cells ((HF7.out.block _ hxl).trans HX.out)
    obtain ⟨y0, y1, y2, -⟩ := three_cells ((HF7.out.block _ hyl).trans HY.out)
    have HT : Hid (troubleP a b x y = 0) := Lib.hid (by unfold troubleP; rw [u1, u2, Bool.false_or, if_neg (by decide), nz]; rfl)
    go_wp2_with fail
    go_ret
    exact ⟨by rw [HT.out]; try rfl, HB.out.trans (HF7.out.mono HB.out.size)⟩
   | true =>
    obtain rfl : k = 0 := by
     rw [← hk, List.isEmpty_iff.1 nz]
     rfl
    obtain ⟨x0, x1, x2, -⟩ := three_cells ((HF7.out.block _ hxl).trans HX.out)
    obtain ⟨y0, y1, y2, -⟩ := three_cells ((HF7.out.block _ hyl).trans HY.out)
    go_wp2_with fail
    clear x0 x1 x2 y0 y1 y2
    refine (l14End_any x (HMA.out.same HF7.out)).mono ?_
    rintro e w8 ⟨rfl, hb⟩
    have HF8 : Hid (Below W0.heap.size W0 w8) := Lib.hid (HF7.out.trans (hb.mono HF7.out.size))
    clear hb
    cases s1 : stopP a x with
    | false =>
     obtain ⟨x0, x1, x2, -⟩ := three_cells ((HF8.out.block _ hxl).trans HX.out)
     obtain ⟨y0, y1, y2, -⟩ := three_cells ((HF8.out.block _ hyl).trans HY.out)
     have HT : Hid (troubleP a b x y = 2) := Lib.hid (by unfold troubleP; rw [u1, u2, Bool.false_or, if_neg (by decide), nz, s1]; rfl)
     go_wp2_with fail
     go_ret
     exact ⟨by rw [HT.out]; try rfl, HB.out.trans (HF8.out.mono HB.out.size)⟩
    | true =>
     obtain ⟨x0, x1, x2, -⟩ := three_cells ((HF8.out.block _ hxl).trans HX.out)
     obtain ⟨y0, y1, y2, -⟩ := three_cells ((HF8.out.block _ hyl).trans HY.out)
     go_wp2_with fail
     clear x0 x1 x2 y0 y1 y2
     refine (l14End_any y (HMB.out.same HF8.out)).mono ?_
     rintro e w9 ⟨rfl, hb⟩
     have HF9 : Hid (Below W0.heap.size W0 w9) := Lib.hid (HF8.out.trans (hb.mono HF8.out.size))
     clear hb
     cases s2 : stopP b y with
     | false =>
      obtain ⟨x0, x1, x2, -⟩ := three_cells ((HF9.out.block _ hxl).trans HX.out)
      obtain ⟨y0, y1, y2, -⟩ := three_cells ((HF9.out.block _ hyl).trans HY.out)
      have HT : Hid (troubleP a b x y = 2) := Lib.hid (by unfold troubleP; rw [u1, u2, Bool.false_or, if_neg (by decide), nz, s1, s2]; rfl)
      go_wp2_with fail
      go_ret
      exact ⟨by rw [HT.out]; try rfl, HB.out.trans (HF9.out.mono HB.out.size)⟩
     | true =>
      obtain ⟨x0, x1, x2, -⟩ := three_cells ((HF9.out.block _ hxl).trans HX.out)
      obtain ⟨y0, y1, y2, -⟩ := three_cells ((HF9.out.block _ hyl).trans HY.out)
      have HT : Hid (troubleP a b x y = 0) := Lib.hid (by unfold troubleP; rw [u1, u2, Bool.false_or, if_neg (by decide), nz, s1, s2]; rfl)
      go_wp2_with fail
      go_ret
      exact ⟨by rw [HT.out]; try rfl, HB.out.trans (HF9.out.mono HB.out.size)⟩

theorem infoI14 : (Try.prog.info? 3).map (fun i => (i.zero, i.size, i.bytes)) = some (some (.int .i64 0), 1, 8) := by kernel_rfl
set_option maxHeartbeats 2000000 in
set_option maxRecDepth 100000 in
theorem specFirstTrouble_any {va vb : Value} {a b : Mac} {w : World} (ha : MacW w va a) (hb : MacW w vb b) (hn : a.parts ≤ 10000000) (hn' : b.parts ≤ 10000000) :
  Calls Try.prog 38 #[va, vb] w (Made .i64 3 w.heap.size (rowOf (firstP a b)) w) := by
 obtain ⟨p, np, cp, q, n, c, rfl⟩ := ha.shape
 obtain ⟨p', np', cp', q', n', c', rfl⟩ := hb.shape
 obtain ⟨hB, hX, hY, hS⟩ := twice w #[.int .i64 a.st, .slice p np cp, .slice q n c] #[.int .i64 b.st, .slice p' np' cp', .slice q' n' c'] 27 27
 have HB := Lib.hid hB
 have HX := Lib.hid hX
 have HY := Lib.hid hY
 have HMA := Lib.hid (ha.same hB)
 have HMB := Lib.hid (hb.same hB)
 clear hB hX hY hS ha hb
 obtain ⟨i1, hi, hz0, hz1, hz2⟩ := info_parts infoI14
 have HI1 := Lib.hid (And.intro hi (And.intro hz0 (And.intro hz1 hz2)))
 clear hi hz0 hz1 hz2
 obtain ⟨x0, x1, x2, -⟩ := three_cells HX.out
 obtain ⟨y0, y1, y2, -⟩ := three_cells HY.out
 unfold Made
 go_enter Try.func38, Try.ntmps38
 go_wp2_with fail
 clear x0 x1 x2 y0 y1 y2
 generalize (w.alloc (.cells #[.int .i64 a.st, .slice p np cp, .slice q n c] 27)).alloc (.cells #[.int .i64 b.st, .slice p' np' cp', .slice q' n' c'] 27) = W0 at *
 refine (specPairsOf_any HMA.out HMB.out hn hn').mono ?_
 rintro e w1 ⟨g, m, d, rfl, ho, hb1⟩
 have hml := ho.count
 have hm36 := pairsP_len a b
 have hroom := ho.room
 have HO := Lib.hid (ho.lower HB.out.size)
 have HB1 := Lib.hid (HB.out.trans (hb1.mono HB.out.size))
 have HD1 := Lib.hid hb1
 clear ho hb1
 have hxl : w.heap.size < W0.heap.size := (Array.getElem?_eq_some_iff.1 HX.out).1
 have hyl : w.heap.size + 1 < W0.heap.size := (Array.getElem?_eq_some_iff.1 HY.out).1
 go_wp2_with fail
 go_loopw [6] (fun i wr => ∃ j : Nat, j ≤ m ∧ i = .int .i64 j ∧ ((pairsP a b).take j).find? (fun p => troubleP a b p.1 p.2 != 0) = none ∧ Below w1.heap.size w1 wr) (fun i _ => m - (intOf i).toNat)
 case atStart => exact ⟨0, Nat.zero_le _, rfl, by simp, Below.refl _ _⟩
 case round =>
  obtain ⟨j, hj, rfl, hno, hb⟩ := hrel
  have HNO := Lib.hid hno
  have HR := Lib.hid hb
  have HRD : Hid (Below W0.heap.size W0 wr) := Lib.hid (HD1.out.trans (hb.mono HD1.out.size))
  have HRB : Hid (Below w.heap.size w wr) := Lib.hid (HB1.out.trans (hb.mono HB1.out.size))
  clear hno hb
  by_cases hlt : j < m
  ·obtain ⟨r, k, hk, hc0, hrow, o1, o2, o3⟩ := (HO.out.same HR.out).at_ hlt
   obtain ⟨d0, d1⟩ := two_cells hrow
   obtain ⟨x0, x1, x2, -⟩ := three_cells ((HRD.out.block _ hxl).trans HX.out)
   obtain ⟨y0, y1, y2, -⟩ := three_cells ((HRD.out.block _ hyl).trans HY.out)
   have HK := Lib.hid hk
   have HROW := Lib.hid hrow
   clear hk hrow
   go_wp2_with fail
   go_still_tail 14, (by kernel_rfl)
   have H2 : Hid (Below wr.heap.size wr wr.drew) := Lib.hid (Below.refl _ _).drew
   change wpList _ _ _ _ _ wr.drew
   generalize wr.drew = w2 at H2 ⊢
   have HRD2 := Lib.hid (HRD.out.trans (H2.out.mono HRD.out.size))
   have HRB2 := Lib.hid (HRB.out.trans (H2.out.mono HRB.out.size))
   have HR2 := Lib.hid (HR.out.trans (H2.out.mono HR.out.size))
   clear x0 x1 x2 y0 y1 y2 d0 d1
   have HTR := Lib.hid (specTroubleAt_any k.1 k.2 (HMA.out.same HRD2.out) (HMB.out.same HRD2.out) hn hn')
   cases ht : (troubleP a b k.1 k.2 != 0) with
   | true =>
    have HF : Hid (firstP a b = some k) := Lib.hid (find_some_take HK.out HNO.out ht)
    have HT := Lib.hid ht
    clear ht
    go_wp2_with fail
    refine HTR.out.mono ?_
    rintro e w3 ⟨rfl, hb3⟩
    have HB3 := Lib.hid (HRB2.out.trans (hb3.mono HRB2.out.size))
    have hcell := cell_stay hc0 (H2.out.trans (hb3.mono H2.out.size))
    have HNR := Lib.hid ((((two_own HROW.out o1).nums.same H2.out).same hb3).same (alloc_same w3 (.cells #[] 3)))
    have hcell2 := cell_stay hcell (alloc_same w3 (.cells #[] 3))
    have HE0 := Lib.hid (own_nil w3)
    have hs3 := HB3.out.size
    clear hb3 hc0 hcell
    have ht := HT.out
    go_wp2_with (at_builtin; refine wpl_app _ rfl (.tmp 32) (.tmp 36) 31 rfl .i64 3 i1 (.int .i64 0) 8 Try.underlying31 HI1.out.1 HI1.out.2.1 HI1.out.2.2.1 HI1.out.2.2.2 rfl rfl HE0.out rfl HNR.out (by omega) ?c3 ?c4 ?_)
    case c3 => omega
    case c4 => simp
    intro a1 c1 w4 ho4 hb4
    have HO4 := Lib.hid (ho4.lower hs3)
    have HB4 : Hid (Below w.heap.size w w4) := Lib.hid ((HB3.out.alloc hs3 _).trans (hb4.mono hs3))
    clear ho4 hb4
    go_wp2_with fail
    go_ret
    refine ⟨_, _, _, rfl, ?_, HB4.out⟩
    rw [HF.out]
    exact HO4.out
   | false =>
    have HN := Lib.hid (find_none_take HK.out HNO.out ht)
    have HT := Lib.hid ht
    clear ht
    go_wp2_with fail
    refine HTR.out.mono ?_
    rintro e w3 ⟨rfl, hb3⟩
    have HB3 := Lib.hid (HR2.out.trans (hb3.mono HR2.out.size))
    clear hb3
    have ht := HT.out
    go_wp2_with fail
    go_roundw
    case rel => exact ⟨j + 1, by omega, by go_num, HN.out, HB3.out⟩
    case measure => simp [intOf]; omega
  ·obtain rfl : j = m := by omega
   have hno := HNO.out
   rw [List.take_of_length_le (by omega)] at hno
   have HF : Hid (firstP a b = none) := Lib.hid hno
   clear hno
   go_wp2_with fail
   go_ret
   have hs := HRB.out.size
   refine ⟨_, _, _, rfl, ?_, HRB.out.alloc hs _⟩
   rw [HF.out]
   exact (own_nil wr).lower hs
set_option maxHeartbeats 2000000 in
set_option maxRecDepth 100000 in
theorem specIsSafe_any {va vb : Value} {a b : Mac} {w : World} (ha : MacW w va a) (hb : MacW w vb b) (hn : a.parts ≤ 10000000) (hn' : b.parts ≤ 10000000) :
  Calls Try.prog 37 #[va, vb] w (Told (.bool (safeP a b)) w) := by
 obtain ⟨p, np, cp, q, n, c, rfl⟩ := ha.shape
 obtain ⟨p', np', cp', q', n', c', rfl⟩ := hb.shape
 obtain ⟨hB, hX, hY, hS⟩ := twice w #[.int .i64 a.st, .slice p np cp, .slice q n c] #[.int .i64 b.st, .slice p' np' cp', .slice q' n' c'] 27 27
 have HB := Lib.hid hB
 have HX := Lib.hid hX
 have HY := Lib.hid hY
 have HMA := Lib.hid (ha.same hB)
 have HMB := Lib.hid (hb.same hB)
 clear hB hX hY hS ha hb
 have HIA := Lib.hid (fun W' hb' => specIsMachine_any (HMA.out.same (w' := W') hb'))
 have HIB := Lib.hid (fun W' hb' => specIsMachine_any (HMB.out.same (w' := W') hb'))
 have HFT := Lib.hid (fun W' hb' => specFirstTrouble_any (HMA.out.same (w' := W') hb') (HMB.out.same hb') hn hn')
 have hxl : w.heap.size < ((w.alloc (.cells #[.int .i64 a.st, .slice p np cp, .slice q n c] 27)).alloc (.cells #[.int .i64 b.st, .slice p' np' cp', .slice q' n' c'] 27)).heap.size := (Array.getElem?_eq_some_iff.1 HX.out).1
 have hyl : w.heap.size + 1 < ((w.alloc (.cells #[.int .i64 a.st, .slice p np cp, .slice q n c] 27)).alloc (.cells #[.int .i64 b.st, .slice p' np' cp', .slice q' n' c'] 27)).heap.size := (Array.getElem?_eq_some_iff.1 HY.out).1
 cases qa : isMac a with
 | false =>
  have HR : Hid (safeP a b = false) := Lib.hid (by unfold safeP; rw [qa]; rfl)
  rw [qa] at HIA
  clear qa
  obtain ⟨x0, x1, x2, -⟩ := three_cells HX.out
  go_enter Try.func37, Try.ntmps37
  go_wp2_with fail
  clear x0 x1 x2
  generalize (w.alloc (.cells #[.int .i64 a.st, .slice p np cp, .slice q n c] 27)).alloc (.cells #[.int .i64 b.st, .slice p' np' cp', .slice q' n' c'] 27) = W0 at *
  refine (HIA.out W0 (Below.refl _ _)).mono ?_
  rintro e w1 ⟨rfl, hb1⟩
  have HB1 := Lib.hid (HB.out.trans (hb1.mono HB.out.size))
  clear hb1
  go_wp2_with fail
  go_ret
  exact ⟨by rw [HR.out]; try rfl, HB1.out⟩
 | true =>
  cases qb : isMac b with
  | false =>
   have HR : Hid (safeP a b = false) := Lib.hid (by unfold safeP; rw [qb, Bool.false_and, Bool.and_false])
   rw [qa] at HIA
   rw [qb] at HIB
   clear qa qb
   obtain ⟨x0, x1, x2, -⟩ := three_cells HX.out
   go_enter Try.func37, Try.ntmps37
   go_wp2_with fail
   clear x0 x1 x2
   generalize (w.alloc (.cells #[.int .i64 a.st, .slice p np cp, .slice q n c] 27)).alloc (.cells #[.int .i64 b.st, .slice p' np' cp', .slice q' n' c'] 27) = W0 at *
   refine (HIA.out W0 (Below.refl _ _)).mono ?_
   rintro e w1 ⟨rfl, hb1⟩
   have HB1 := Lib.hid (HB.out.trans (hb1.mono HB.out.size))
   obtain ⟨y0, y1, y2, -⟩ := three_cells ((hb1.block _ hyl).trans HY.out)
   have HD1 := Lib.hid hb1
   clear hb1
   go_wp2_with fail
   clear y0 y1 y2
   refine (HIB.out w1 HD1.out).mono ?_
   rintro e w2 ⟨rfl, hb2⟩
   have HB2 := Lib.hid (HB1.out.trans (hb2.mono HB1.out.size))
   clear hb2
   go_wp2_with fail
   go_ret
   exact ⟨by rw [HR.out]; try rfl, HB2.out⟩
  | true =>
   have HR : Hid (safeP a b = (firstP a b).isNone) := Lib.hid (by unfold safeP; rw [qa, qb, Bool.true_and, Bool.true_and])
   have hrl := row_len (firstP a b)
   rw [qa] at HIA
   rw [qb] at HIB
   clear qa qb
   obtain ⟨x0, x1, x2, -⟩ := three_cells HX.out
   go_enter Try.func37, Try.ntmps37
   go_wp2_with fail
   clear x0 x1 x2
   generalize (w.alloc (.cells #[.int .i64 a.st, .slice p np cp, .slice q n c] 27)).alloc (.cells #[.int .i64 b.st, .slice p' np' cp', .slice q' n' c'] 27) = W0 at *
   refine (HIA.out W0 (Below.refl _ _)).mono ?_
   rintro e w1 ⟨rfl, hb1⟩
   have HB1 := Lib.hid (HB.out.trans (hb1.mono HB.out.size))
   obtain ⟨y0, y1, y2, -⟩ := three_cells ((hb1.block _ hyl).trans HY.out)
   have HD1 := Lib.hid hb1
   clear hb1
   go_wp2_with fail
   clear y0 y1 y2
   refine (HIB.out w1 HD1.out).mono ?_
   rintro e w2 ⟨rfl, hb2⟩
   have HB2 := Lib.hid (HB1.out.trans (hb2.mono HB1.out.size))
   have HD2 := Lib.hid (HD1.out.trans (hb2.mono HD1.out.size))
   clear hb2
   obtain ⟨x0, x1, x2, -⟩ := three_cells ((HD2.out.block _ hxl).trans HX.out)
   obtain ⟨y0, y1, y2, -⟩ := three_cells ((HD2.out.block _ hyl).trans HY.out)
   go_wp2_with fail
   clear x0 x1 x2 y0 y1 y2
   refine (HFT.out w2 HD2.out).mono ?_
   rintro e w3 ⟨g3, n3, c3, rfl, ho, hb3⟩
   have hln := ho.len
   rw [hln] at hrl
   have HB3 := Lib.hid (HB2.out.trans (hb3.mono HB2.out.size))
   clear ho hb3
   go_wp2_with fail
   go_ret
   exact ⟨by rw [HR.out]; try rfl, HB3.out⟩
end Go.Proofs.Ytckmgbobkffabaa
namespace Go.Proofs.Ytckmgbobkffabaa
open Go.ChangeShapes Go.WideShapes Go.ChangeAt Go.RowKit
set_option linter.unusedVariables false
set_option linter.unusedSimpArgs false

set_option maxRecDepth 100000 in
theorem l9Has_any {p : Option Addr} {m c : Nat} {y : List Int} (t : Int) {w : World} (h : Nums .i64 w p m y) :
  Calls Try.prog 115 #[.slice p m c, .int .i64 t] w fun e w' => e = .returned (.bool (decide (t ∈ y))) ∧ w = w' := by
 have H := Lib.hid h
 have hl := h.len
 have hfit := h.fits
 clear h
 go_enter Try.func115, Try.ntmps115
 go_wp2_with fail
 go_loop [5] (fun i => ∃ j : Nat, j ≤ m ∧ i = .int .i64 j ∧ ¬ t ∈ y.take j) (fun i => m - (intOf i).toNat)
 case atStart => exact ⟨0, Nat.zero_le _, rfl, by simp⟩
 case round =>
  obtain ⟨j, hj, rfl, hno⟩ := hrel
  have HN := Lib.hid hno
  clear hno
  by_cases hlt : j < m
  ·obtain ⟨ad, z, rfl, hz, hc⟩ := H.out.at_ hlt
   by_cases hk : z = t
   ·have HE : Hid (decide (t ∈ y) = true) := Lib.hid (decide_eq_true (by rw [← hk]; exact List.mem_of_getElem? hz))
    have hb : (z == t) = true := by simpa using hk
    clear hz hk
    go_wp2_with fail
    go_ret
    exact ⟨by rw [HE.out]; rfl, rfl⟩
   ·have hb : (z == t) = false := by simpa using hk
    have HS : Hid (¬ t ∈ y.take (j + 1)) := Lib.hid (by
     rw [List.take_add_one, hz]
     intro hm
     rcases List.mem_append.1 hm with q | q
     ·exact HN.out q
     ·have : t = z := by simpa using q
      exact hk this.symm)
    clear hz hk
    go_wp2_with fail
    go_round
    case rel => exact ⟨j + 1, by omega, by go_num, HS.out⟩
    case measure => simp [intOf]; omega
  ·obtain rfl : j = m := by omega
   have h1 := HN.out
   rw [List.take_of_length_le (by omega)] at h1
   have HE := Lib.hid (decide_eq_false h1)
   clear h1
   go_wp2_with fail
   go_ret
   exact ⟨by rw [HE.out]; rfl, rfl⟩
end Go.Proofs.Ytckmgbobkffabaa
