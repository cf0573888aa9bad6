/- Whether a number is on a list, by the model. What a state of a newer machine keeps to, next to one of an older machine: by the model. -/
import Derived.Test.YtckmgbobkffabaaGreatG1
import Derived.RegionTactic
import Derived.Handy
import Derived.Test.YtckmgbobkffabaaGreatG36
import Derived.Test.YtckmgbobkffabaaGreatG22
import Derived.Test.YtckmgbobkffabaaGreatG29
namespace Go.Proofs.YtckmgbobkffabaaGreat
open Go.ChangeShapes Go.WideShapes Go.ChangeAt Go.RowKit
set_option linter.unusedVariables false
set_option linter.unusedSimpArgs false

set_option maxRecDepth 100000 in
theorem l9Has_any {p : Option Addr} {m c : Nat} {y : List Int} (t : Int) {w : World} (h : Nums .i64 w p m y) :
  Calls Tryz.prog 67 #[.slice p m c, .int .i64 t] w fun e w' => e = .returned (.bool (decide (t ∈ y))) ∧ w = w' := by
 have H := Lib.hid h
 have hl := h.len
 have hfit := h.fits
 clear h
 go_enter Tryz.func67, Tryz.ntmps67
 go_wp2_with fail
 go_loop [5] (fun i => ∃ j : Nat, j ≤ m ∧ i = .int .i64 j ∧ ¬ t ∈ y.take j) (fun i => m - (intOf i).toNat)
 case atStart => exact ⟨0, Nat.zero_le _, rfl, by simp⟩
 case round =>
  obtain ⟨j, hj, rfl, hno⟩ := hrel
  have HN := Lib.hid hno
  clear hno
  by_cases hlt : j < m
  ·obtain ⟨ad, z, rfl, hz, hc⟩ := H.out.at_ hlt
   by_cases hk : z = t
   ·have HE : Hid (decide (t ∈ y) = true) := Lib.hid (decide_eq_true (by rw [← hk]; exact List.mem_of_getElem? hz))
    have hb : (z == t) = true := by simpa using hk
    clear hz hk
    go_wp2_with fail
    go_ret
    exact ⟨by rw [HE.out]; rfl, rfl⟩
   ·have hb : (z == t) = false := by simpa using hk
    have HS : Hid (¬ t ∈ y.take (j + 1)) := Lib.hid (by
     rw [List.take_add_one, hz]
     intro hm
     rcases List.mem_append.1 hm with q | q
     ·exact HN.out q
     ·have : t = z := by simpa using q
      exact hk this.symm)
    clear hz hk
    go_wp2_with fail
    go_round
    case rel => exact ⟨j + 1, by omega, by go_num, HS.out⟩
    case measure => simp [intOf]; omega
  ·obtain rfl : j = m := by omega
   have h1 := HN.out
   rw [List.take_of_length_le (by omega)] at h1
   have HE := Lib.hid (decide_eq_false h1)
   clear h1
   go_wp2_with fail
   go_ret
   exact ⟨by rw [HE.out]; rfl, rfl⟩
end Go.Proofs.YtckmgbobkffabaaGreat
namespace Go.Proofs.YtckmgbobkffabaaGreat
open Go.ChangeShapes Go.WideShapes Go.ChangeAt Go.RowKit
set_option linter.unusedVariables false
set_option linter.unusedSimpArgs false

def withinP (l l' : List Int) : Bool := l.all fun k => decide (k ∈ l')
set_option maxHeartbeats 1000000 in
set_option maxRecDepth 100000 in
theorem l15Within_any {a b : Option Addr} {n m c d : Nat} {l l' : List Int} {w : World} (h : Nums .i64 w a n l) (h' : Nums .i64 w b m l') :
  Calls Tryz.prog 45 #[.slice a n c, .slice b m d] w (Told (.bool (withinP l l')) w) := by
 have hn := h.fits
 have hl := h.len
 have H := Lib.hid h
 have HH := Lib.hid (fun (t : Int) (W' : World) (hb : Below w.heap.size w W') => told_is (l9Has_any (c := d) t (h'.same hb)))
 clear h h'
 go_enter Tryz.func45, Tryz.ntmps45
 go_wp2_with fail
 go_loopw [5] (fun i wr => ∃ j : Nat, j ≤ n ∧ i = .int .i64 j ∧ ((l.take j).all fun k => decide (k ∈ l')) = true ∧ Below w.heap.size w wr) (fun i _ => n - (intOf i).toNat)
 case atStart => exact ⟨0, Nat.zero_le _, rfl, by simp, Below.refl _ _⟩
 case round =>
  obtain ⟨j, hj, rfl, hno, hb⟩ := hrel
  have HN := Lib.hid hno
  have HB := Lib.hid hb
  clear hno hb
  by_cases hlt : j < n
  ·obtain ⟨ad, k, e4, hk, hc⟩ := (H.out.same HB.out).at_ hlt
   subst e4
   have HK := Lib.hid hk
   have HC := Lib.hid (HH.out k wr HB.out)
   clear hk
   by_cases hin : k ∈ l'
   ·rw [decide_eq_true hin] at HC
    have HT : Hid (((l.take (j + 1)).all fun k => decide (k ∈ l')) = true) := Lib.hid (by
     rw [List.take_add_one, HK.out, List.all_append, HN.out]
     simp [hin])
    clear hin
    go_wp2_with fail
    refine HC.out.mono ?_
    rintro e w2 ⟨rfl, hb2⟩
    have HB2 := Lib.hid (HB.out.trans (hb2.mono HB.out.size))
    clear hb2 hc
    go_wp2_with fail
    go_roundw
    case rel => exact ⟨j + 1, by omega, by go_num, HT.out, HB2.out⟩
    case measure => simp [intOf]; omega
   ·rw [decide_eq_false hin] at HC
    have HT : Hid (withinP l l' = false) := Lib.hid (by
     unfold withinP
     rw [List.all_eq_false]
     exact ⟨k, List.mem_of_getElem? HK.out, by simp [hin]⟩)
    clear hin
    go_wp2_with fail
    refine HC.out.mono ?_
    rintro e w2 ⟨rfl, hb2⟩
    have HB2 := Lib.hid (HB.out.trans (hb2.mono HB.out.size))
    clear hb2 hc
    go_wp2_with fail
    go_ret
    exact ⟨by rw [HT.out]; try rfl, HB2.out⟩
  ·obtain rfl : j = n := by omega
   have hno := HN.out
   rw [List.take_of_length_le (by omega)] at hno
   have HT : Hid (withinP l l' = true) := Lib.hid hno
   clear hno
   go_wp2_with fail
   go_ret
   exact ⟨by rw [HT.out]; try rfl, HB.out⟩
theorem within_nil {l l' : List Int} (h : withinP l l' = true) (h0 : l'.length = 0) : l.length = 0 := by
 cases l with
 | nil => rfl
 | cons x t =>
  have := List.eq_nil_of_length_eq_zero h0
  subst this
  simp [withinP] at h
theorem isEmpty_pos {l : List Int} (h : 0 < l.length) : l.isEmpty = false := by
 cases l with
 | nil => simp at h
 | cons x t => rfl
theorem isEmpty_zero {l : List Int} (h : l.length = 0) : l.isEmpty = true := by rw [List.eq_nil_of_length_eq_zero h]; rfl
/-- What the model looks at. -/
theorem followsAt_within (a b : Mac) (x y : Int) : followsAtP a b x y = ((withinP (movesFrom a x true) (movesFrom b y true) && ((movesFrom a x true).isEmpty == (movesFrom b y true).isEmpty)) && ((withinP (movesFrom b y false) (movesFrom a x false) && ((movesFrom b y false).isEmpty == (movesFrom a x false).isEmpty)) && (endP a x || !endP b y))) := rfl
set_option maxHeartbeats 8000000 in
set_option maxRecDepth 100000 in
theorem specFollowsAt_any {va vb : Value} {a b : Mac} (x y : Int) {w : World} (ha : MacW w va a) (hb : MacW w vb b) (hn : a.parts ≤ 10000000) (hn' : b.parts ≤ 10000000) (hea : endP a x = stopP a x) (heb : endP b y = stopP b y) :
  Calls Tryz.prog 22 #[va, vb, .int .i64 x, .int .i64 y] w (Told (.bool (followsAtP a b x y)) w) := by
 obtain ⟨p, np, cp, q, n, c, rfl⟩ := ha.shape
 obtain ⟨p', np', cp', q', n', c', rfl⟩ := hb.shape
 obtain ⟨hB, hX, hY, hS⟩ := twice w #[.int .i64 a.st, .slice p np cp, .slice q n c] #[.int .i64 b.st, .slice p' np' cp', .slice q' n' c'] 27 27
 have HB := Lib.hid hB
 have HX := Lib.hid hX
 have HY := Lib.hid hY
 have HMA := Lib.hid (ha.same hB)
 have HMB := Lib.hid (hb.same hB)
 have HF := followsAt_within a b x y
 rw [hea, heb] at HF
 have HFA := Lib.hid HF
 have hxl : w.heap.size < ((w.alloc (.cells #[.int .i64 a.st, .slice p np cp, .slice q n c] 27)).alloc (.cells #[.int .i64 b.st, .slice p' np' cp', .slice q' n' c'] 27)).heap.size := (Array.getElem?_eq_some_iff.1 hX).1
 have hyl : w.heap.size + 1 < ((w.alloc (.cells #[.int .i64 a.st, .slice p np cp, .slice q n c] 27)).alloc (.cells #[.int .i64 b.st, .slice p' np' cp', .slice q' n' c'] 27)).heap.size := (Array.getElem?_eq_some_iff.1 hY).1
 clear hB hX hY hS ha hb HF hea heb
 obtain ⟨x0, x1, x2, -⟩ := three_cells HX.out
 go_enter Tryz.func22, Tryz.ntmps22
 go_wp2_with fail
 clear x0 x1 x2
 generalize (w.alloc (.cells #[.int .i64 a.st, .slice p np cp, .slice q n c] 27)).alloc (.cells #[.int .i64 b.st, .slice p' np' cp', .slice q' n' c'] 27) = W0 at *
 refine (specMovesFrom_any x true (HMA.out) (by omega)).mono ?_
 rintro e w1 ⟨a1, n1, c1, rfl, ho1, hb1⟩
 have hl1 := ho1.len
 have hr1 := ho1.room
 have HO1 := Lib.hid ho1.nums
 have HD1 : Hid (Below W0.heap.size W0 w1) := Lib.hid (hb1)
 clear ho1 hb1
 obtain ⟨y0, y1, y2, -⟩ := three_cells ((HD1.out.block _ hyl).trans HY.out)
 go_wp2_with fail
 clear y0 y1 y2
 refine (specMovesFrom_any y true (HMB.out.same HD1.out) (by omega)).mono ?_
 rintro e w2 ⟨a2, n2, c2, rfl, ho2, hb2⟩
 have hl2 := ho2.len
 have hr2 := ho2.room
 have HO2 := Lib.hid ho2.nums
 replace HO1 := Lib.hid (HO1.out.same hb2)
 have HD2 : Hid (Below W0.heap.size W0 w2) := Lib.hid (HD1.out.trans (hb2.mono HD1.out.size))
 clear ho2 hb2
 obtain ⟨x0, x1, x2, -⟩ := three_cells ((HD2.out.block _ hxl).trans HX.out)
 go_wp2_with fail
 clear x0 x1 x2
 refine (specMovesFrom_any x false (HMA.out.same HD2.out) (by omega)).mono ?_
 rintro e w3 ⟨a3, n3, c3, rfl, ho3, hb3⟩
 have hl3 := ho3.len
 have hr3 := ho3.room
 have HO3 := Lib.hid ho3.nums
 replace HO1 := Lib.hid (HO1.out.same hb3)
 replace HO2 := Lib.hid (HO2.out.same hb3)
 have HD3 : Hid (Below W0.heap.size W0 w3) := Lib.hid (HD2.out.trans (hb3.mono HD2.out.size))
 clear ho3 hb3
 obtain ⟨y0, y1, y2, -⟩ := three_cells ((HD3.out.block _ hyl).trans HY.out)
 go_wp2_with fail
 clear y0 y1 y2
 refine (specMovesFrom_any y false (HMB.out.same HD3.out) (by omega)).mono ?_
 rintro e w4 ⟨a4, n4, c4, rfl, ho4, hb4⟩
 have hl4 := ho4.len
 have hr4 := ho4.room
 have HO4 := Lib.hid ho4.nums
 replace HO1 := Lib.hid (HO1.out.same hb4)
 replace HO2 := Lib.hid (HO2.out.same hb4)
 replace HO3 := Lib.hid (HO3.out.same hb4)
 have HD4 : Hid (Below W0.heap.size W0 w4) := Lib.hid (HD3.out.trans (hb4.mono HD3.out.size))
 clear ho4 hb4
 go_wp2_with fail
 refine (l15Within_any (c := c4) (d := c3) HO4.out HO3.out).mono ?_
 rintro e w5 ⟨rfl, hb5⟩
 have HD5 : Hid (Below W0.heap.size W0 w5) := Lib.hid (HD4.out.trans (hb5.mono HD4.out.size))
 have HE5 := Lib.hid hb5
 clear hb5
 cases q1 : withinP (movesFrom b y false) (movesFrom a x false) with
 | false =>
  have HT : Hid (followsAtP a b x y = false) := Lib.hid (by rw [HFA.out]; rw [q1]; simp)
  go_wp2_with fail
  go_ret
  exact ⟨by rw [HT.out]; try rfl, HB.out.trans (HD5.out.mono HB.out.size)⟩
 | true =>
  go_wp2_with fail
  refine (l15Within_any (c := c1) (d := c2) (HO1.out.same HE5.out) (HO2.out.same HE5.out)).mono ?_
  rintro e w6 ⟨rfl, hb6⟩
  have HD6 : Hid (Below W0.heap.size W0 w6) := Lib.hid (HD5.out.trans (hb6.mono HD5.out.size))
  have HE6 := Lib.hid hb6
  clear hb6
  cases q2 : withinP (movesFrom a x true) (movesFrom b y true) with
  | false =>
   have HT : Hid (followsAtP a b x y = false) := Lib.hid (by rw [HFA.out]; rw [q2]; simp)
   go_wp2_with fail
   go_ret
   exact ⟨by rw [HT.out]; try rfl, HB.out.trans (HD6.out.mono HB.out.size)⟩
  | true =>
   have k1 := within_nil q1
   have k2 := within_nil q2
   rcases Nat.eq_zero_or_pos n1 with z1 | z1
   ·rcases Nat.eq_zero_or_pos n2 with z2 | z2
    ·rcases Nat.eq_zero_or_pos n4 with z4 | z4
     ·rcases Nat.eq_zero_or_pos n3 with z3 | z3
      ·obtain ⟨y0, y1, y2, -⟩ := three_cells ((HD6.out.block _ hyl).trans HY.out)
       go_wp2_with fail
       clear y0 y1 y2
       refine (l14End_any y (HMB.out.same HD6.out)).mono ?_
       rintro e w7 ⟨rfl, hb7⟩
       have HD7 : Hid (Below W0.heap.size W0 w7) := Lib.hid (HD6.out.trans (hb7.mono HD6.out.size))
       have HE7 := Lib.hid hb7
       clear hb7
       cases s1 : stopP b y with
       | false =>
        have HT : Hid (followsAtP a b x y = true) := Lib.hid (by rw [HFA.out]; rw [q1, q2, s1, isEmpty_zero (hl1.trans z1), isEmpty_zero (hl2.trans z2), isEmpty_zero (hl4.trans z4), isEmpty_zero (hl3.trans z3)]; simp)
        go_wp2_with fail
        go_ret
        exact ⟨by rw [HT.out]; try rfl, HB.out.trans (HD7.out.mono HB.out.size)⟩
       | true =>
        obtain ⟨x0, x1, x2, -⟩ := three_cells ((HD7.out.block _ hxl).trans HX.out)
        go_wp2_with fail
        clear x0 x1 x2
        refine (l14End_any x (HMA.out.same HD7.out)).mono ?_
        rintro e w8 ⟨rfl, hb8⟩
        have HD8 : Hid (Below W0.heap.size W0 w8) := Lib.hid (HD7.out.trans (hb8.mono HD7.out.size))
        have HE8 := Lib.hid hb8
        clear hb8
        have HT : Hid (followsAtP a b x y = stopP a x) := Lib.hid (by rw [HFA.out]; rw [q1, q2, s1, isEmpty_zero (hl1.trans z1), isEmpty_zero (hl2.trans z2), isEmpty_zero (hl4.trans z4), isEmpty_zero (hl3.trans z3)]; simp)
        go_wp2_with fail
        go_ret
        exact ⟨by rw [HT.out]; try rfl, HB.out.trans (HD8.out.mono HB.out.size)⟩
      ·have HT : Hid (followsAtP a b x y = false) := Lib.hid (by rw [HFA.out]; rw [isEmpty_zero (hl4.trans z4), isEmpty_pos (l := movesFrom a x false) (by rw [hl3]; exact z3)]; simp)
       go_wp2_with fail
       go_ret
       exact ⟨by rw [HT.out]; try rfl, HB.out.trans (HD6.out.mono HB.out.size)⟩
     ·have z3 : 0 < n3 := by
       rcases Nat.eq_zero_or_pos n3 with z3 | z3
       ·have := k1 (hl3.trans z3)
        omega
       ·exact z3
      obtain ⟨y0, y1, y2, -⟩ := three_cells ((HD6.out.block _ hyl).trans HY.out)
      go_wp2_with fail
      clear y0 y1 y2
      refine (l14End_any y (HMB.out.same HD6.out)).mono ?_
      rintro e w7 ⟨rfl, hb7⟩
      have HD7 : Hid (Below W0.heap.size W0 w7) := Lib.hid (HD6.out.trans (hb7.mono HD6.out.size))
      have HE7 := Lib.hid hb7
      clear hb7
      cases s1 : stopP b y with
      | false =>
       have HT : Hid (followsAtP a b x y = true) := Lib.hid (by rw [HFA.out]; rw [q1, q2, s1, isEmpty_zero (hl1.trans z1), isEmpty_zero (hl2.trans z2), isEmpty_pos (l := movesFrom b y false) (by rw [hl4]; exact z4), isEmpty_pos (l := movesFrom a x false) (by rw [hl3]; exact z3)]; simp)
       go_wp2_with fail
       go_ret
       exact ⟨by rw [HT.out]; try rfl, HB.out.trans (HD7.out.mono HB.out.size)⟩
      | true =>
       obtain ⟨x0, x1, x2, -⟩ := three_cells ((HD7.out.block _ hxl).trans HX.out)
       go_wp2_with fail
       clear x0 x1 x2
       refine (l14End_any x (HMA.out.same HD7.out)).mono ?_
       rintro e w8 ⟨rfl, hb8⟩
       have HD8 : Hid (Below W0.heap.size W0 w8) := Lib.hid (HD7.out.trans (hb8.mono HD7.out.size))
       have HE8 := Lib.hid hb8
       clear hb8
       have HT : Hid (followsAtP a b x y = stopP a x) := Lib.hid (by rw [HFA.out]; rw [q1, q2, s1, isEmpty_zero (hl1.trans z1), isEmpty_zero (hl2.trans z2), isEmpty_pos (l := movesFrom b y false) (by rw [hl4]; exact z4), isEmpty_pos (l := movesFrom a x false) (by rw [hl3]; exact z3)]; simp)
       go_wp2_with fail
       go_ret
       exact ⟨by rw [HT.out]; try rfl, HB.out.trans (HD8.out.mono HB.out.size)⟩
    ·have HT : Hid (followsAtP a b x y = false) := Lib.hid (by rw [HFA.out]; rw [isEmpty_zero (hl1.trans z1), isEmpty_pos (l := movesFrom b y true) (by rw [hl2]; exact z2)]; simp)
     go_wp2_with fail
     go_ret
     exact ⟨by rw [HT.out]; try rfl, HB.out.trans (HD6.out.mono HB.out.size)⟩
   ·have z2 : 0 < n2 := by
     rcases Nat.eq_zero_or_pos n2 with z2 | z2
     ·have := k2 (hl2.trans z2)
      omega
     ·exact z2
    rcases Nat.eq_zero_or_pos n4 with z4 | z4
    ·rcases Nat.eq_zero_or_pos n3 with z3 | z3
     ·obtain ⟨y0, y1, y2, -⟩ := three_cells ((HD6.out.block _ hyl).trans HY.out)
      go_wp2_with fail
      clear y0 y1 y2
      refine (l14End_any y (HMB.out.same HD6.out)).mono ?_
      rintro e w7 ⟨rfl, hb7⟩
      have HD7 : Hid (Below W0.heap.size W0 w7) := Lib.hid (HD6.out.trans (hb7.mono HD6.out.size))
      have HE7 := Lib.hid hb7
      clear hb7
      cases s1 : stopP b y with
      | false =>
       have HT : Hid (followsAtP a b x y = true) := Lib.hid (by rw [HFA.out]; rw [q1, q2, s1, isEmpty_pos (l := movesFrom a x true) (by rw [hl1]; exact z1), isEmpty_pos (l := movesFrom b y true) (by rw [hl2]; exact z2), isEmpty_zero (hl4.trans z4), isEmpty_zero (hl3.trans z3)]; simp)
       go_wp2_with fail
       go_ret
       exact ⟨by rw [HT.out]; try rfl, HB.out.trans (HD7.out.mono HB.out.size)⟩
      | true =>
       obtain ⟨x0, x1, x2, -⟩ := three_cells ((HD7.out.block _ hxl).trans HX.out)
       go_wp2_with fail
       clear x0 x1 x2
       refine (l14End_any x (HMA.out.same HD7.out)).mono ?_
       rintro e w8 ⟨rfl, hb8⟩
       have HD8 : Hid (Below W0.heap.size W0 w8) := Lib.hid (HD7.out.trans (hb8.mono HD7.out.size))
       have HE8 := Lib.hid hb8
       clear hb8
       have HT : Hid (followsAtP a b x y = stopP a x) := Lib.hid (by rw [HFA.out]; rw [q1, q2, s1, isEmpty_pos (l := movesFrom a x true) (by rw [hl1]; exact z1), isEmpty_pos (l := movesFrom b y true) (by rw [hl2]; exact z2), isEmpty_zero (hl4.trans z4), isEmpty_zero (hl3.trans z3)]; simp)
       go_wp2_with fail
       go_ret
       exact ⟨by rw [HT.out]; try rfl, HB.out.trans (HD8.out.mono HB.out.size)⟩
     ·have HT : Hid (followsAtP a b x y = false) := Lib.hid (by rw [HFA.out]; rw [isEmpty_zero (hl4.trans z4), isEmpty_pos (l := movesFrom a x false) (by rw [hl3]; exact z3)]; simp)
      go_wp2_with fail
      go_ret
      exact ⟨by rw [HT.out]; try rfl, HB.out.trans (HD6.out.mono HB.out.size)⟩
    ·have z3 : 0 < n3 := by
      rcases Nat.eq_zero_or_pos n3 with z3 | z3
      ·have := k1 (hl3.trans z3)
       omega
      ·exact z3
     obtain ⟨y0, y1, y2, -⟩ := three_cells ((HD6.out.block _ hyl).trans HY.out)
     go_wp2_with fail
     clear y0 y1 y2
     refine (l14End_any y (HMB.out.same HD6.out)).mono ?_
     rintro e w7 ⟨rfl, hb7⟩
     have HD7 : Hid (Below W0.heap.size W0 w7) := Lib.hid (HD6.out.trans (hb7.mono HD6.out.size))
     have HE7 := Lib.hid hb7
     clear hb7
     cases s1 : stopP b y with
     | false =>
      have HT : Hid (followsAtP a b x y = true) := Lib.hid (by rw [HFA.out]; rw [q1, q2, s1, isEmpty_pos (l := movesFrom a x true) (by rw [hl1]; exact z1), isEmpty_pos (l := movesFrom b y true) (by rw [hl2]; exact z2), isEmpty_pos (l := movesFrom b y false) (by rw [hl4]; exact z4), isEmpty_pos (l := movesFrom a x false) (by rw [hl3]; exact z3)]; simp)
      go_wp2_with fail
      go_ret
      exact ⟨by rw [HT.out]; try rfl, HB.out.trans (HD7.out.mono HB.out.size)⟩
     | true =>
      obtain ⟨x0, x1, x2, -⟩ := three_cells ((HD7.out.block _ hxl).trans HX.out)
      go_wp2_with fail
      clear x0 x1 x2
      refine (l14End_any x (HMA.out.same HD7.out)).mono ?_
      rintro e w8 ⟨rfl, hb8⟩
      have HD8 : Hid (Below W0.heap.size W0 w8) := Lib.hid (HD7.out.trans (hb8.mono HD7.out.size))
      have HE8 := Lib.hid hb8
      clear hb8
      have HT : Hid (followsAtP a b x y = stopP a x) := Lib.hid (by rw [HFA.out]; rw [q1, q2, s1, isEmpty_pos (l := movesFrom a x true) (by rw [hl1]; exact z1), isEmpty_pos (l := movesFrom b y true) (by rw [hl2]; exact z2), isEmpty_pos (l := movesFrom b y false) (by rw [hl4]; exact z4), isEmpty_pos (l := movesFrom a x false) (by rw [hl3]; exact z3)]; simp)
      go_wp2_with fail
      go_ret
      exact ⟨by rw [HT.out]; try rfl, HB.out.trans (HD8.out.mono HB.out.size)⟩
end Go.Proofs.YtckmgbobkffabaaGreat
