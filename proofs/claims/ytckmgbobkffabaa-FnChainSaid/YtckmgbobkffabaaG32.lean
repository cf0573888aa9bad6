/- What a state of a newer machine keeps to, next to one of an older machine: by the model. Lists of machines, each a number and two lists: what a walk is told of one that is read; chains of machines. -/
import Derived.Test.YtckmgbobkffabaaG31
import Derived.Test.YtckmgbobkffabaaG17
import Derived.Test.YtckmgbobkffabaaG8
import Derived.Test.YtckmgbobkffabaaG25
import Derived.Test.YtckmgbobkffabaaG1
namespace Go.Proofs.Ytckmgbobkffabaa
open Go.ChangeShapes Go.WideShapes Go.ChangeAt Go.RowKit
set_option linter.unusedVariables false
set_option linter.unusedSimpArgs false

def withinP (l l' : List Int) : Bool := l.all fun k => decide (k ∈ l')
set_option maxHeartbeats 1000000 in
set_option maxRecDepth 100000 in
theorem l15Within_any {a b : Option Addr} {n m c d : Nat} {l l' : List Int} {w : World} (h : Nums .i64 w a n l) (h' : Nums .i64 w b m l') :
  Calls Try.prog 104 #[.slice a n c, .slice b m d] w (Told (.bool (withinP l l')) w) := by
 have hn := h.fits
 have hl := h.len
 have H := Lib.hid h
 have HH := Lib.hid (fun (t : Int) (W' : World) (hb : Below w.heap.size w W') => told_is (l9Has_any (c := d) t (h'.same hb)))
 clear h h'
 go_enter Try.func104, Try.ntmps104
 go_wp2_with fail
 go_loopw [5] (fun i wr => ∃ j : Nat, j ≤ n ∧ i = .int .i64 j ∧ ((l.take j).all fun k => decide (k ∈ l')) = true ∧ Below w.heap.size w wr) (fun i _ => n - (intOf i).toNat)
 case atStart => exact ⟨0, Nat.zero_le _, rfl, by simp, Below.refl _ _⟩
 case round =>
  obtain ⟨j, hj, rfl, hno, hb⟩ := hrel
  have HN := Lib.hid hno
  have HB := Lib.hid hb
  clear hno hb
  by_cases hlt : j < n
  ·obtain ⟨ad, k, e4, hk, hc⟩ := (H.out.same HB.out).at_ hlt
   subst e4
   have HK := Lib.hid hk
   have HC := Lib.hid (HH.out k wr HB.out)
   clear hk
   by_cases hin : k ∈ l'
   ·rw [decide_eq_true hin] at HC
    have HT : Hid (((l.take (j + 1)).all fun k => decide (k ∈ l')) = true) := Lib.hid (by
     rw [List.take_add_one, HK.out, List.all_append, HN.out]
     simp [hin])
    clear hin
    go_wp2_with fail
    refine HC.out.mono ?_
    rintro e w2 ⟨rfl, hb2⟩
    have HB2 := Lib.hid (HB.out.trans (hb2.mono HB.out.size))
    clear hb2 hc
    go_wp2_with fail
    go_roundw
    case rel => exact ⟨j + 1, by omega, by go_num, HT.out, HB2.out⟩
    case measure => simp [intOf]; omega
   ·rw [decide_eq_false hin] at HC
    have HT : Hid (withinP l l' = false) := Lib.hid (by
     unfold withinP
     rw [List.all_eq_false]
     exact ⟨k, List.mem_of_getElem? HK.out, by simp [hin]⟩)
    clear hin
    go_wp2_with fail
    refine HC.out.mono ?_
    rintro e w2 ⟨rfl, hb2⟩
    have HB2 := Lib.hid (HB.out.trans (hb2.mono HB.out.size))
    clear hb2 hc
    go_wp2_with fail
    go_ret
    exact ⟨by rw [HT.out]; try rfl, HB2.out⟩
  ·obtain rfl : j = n := by omega
   have hno := HN.out
   rw [List.take_of_length_le (by omega)] at hno
   have HT : Hid (withinP l l' = true) := Lib.hid hno
   clear hno
   go_wp2_with fail
   go_ret
   exact ⟨by rw [HT.out]; try rfl, HB.out⟩
theorem within_nil {l l' : List Int} (h : withinP l l' = true) (h0 : l'.length = 0) : l.length = 0 := by
 cases l with
 | nil => rfl
 | cons x t =>
  have := List.eq_nil_of_length_eq_zero h0
  subst this
  simp [withinP] at h
theorem isEmpty_pos {l : List Int} (h : 0 < l.length) : l.isEmpty = false := by
 cases l with
 | nil => simp at h
 | cons x t => rfl
theorem isEmpty_zero {l : List Int} (h : l.length = 0) : l.isEmpty = true := by rw [List.eq_nil_of_length_eq_zero h]; rfl
/-- What the model looks at. -/
theorem followsAt_within (a b : Mac) (x y : Int) : followsAtP a b x y = ((withinP (movesFrom a x true) (movesFrom b y true) && ((movesFrom a x true).isEmpty == (movesFrom b y true).isEmpty)) && ((withinP (movesFrom b y false) (movesFrom a x false) && ((movesFrom b y false).isEmpty == (movesFrom a x false).isEmpty)) && (endP a x || !endP b y))) := rfl
set_option maxHeartbeats 8000000 in
set_option maxRecDepth 100000 in
theorem specFollowsAt_any {va vb : Value} {a b : Mac} (x y : Int) {w : World} (ha : MacW w va a) (hb : MacW w vb b) (hn : a.parts ≤ 10000000) (hn' : b.parts ≤ 10000000) (hea : endP a x = stopP a x) (heb : endP b y = stopP b y) :
  Calls Try.prog 84 #[va, vb, .int .i64 x, .int .i64 y] w (Told (.bool (followsAtP a b x y)) w) := by
 obtain ⟨p, np, cp, q, n, c, rfl⟩ := ha.shape
 obtain ⟨p', np', cp', q', n', c', rfl⟩ := hb.shape
 obtain ⟨hB, hX, hY, hS⟩ := twice w #[.int .i64 a.st, .slice p np cp, .slice q n c] #[.int .i64 b.st, .slice p' np' cp', .slice q' n' c'] 27 27
 have HB := Lib.hid hB
 have HX := Lib.hid hX
 have HY := Lib.hid hY
 have HMA := Lib.hid (ha.same hB)
 have HMB := Lib.hid (hb.same hB)
 have HF := followsAt_within a b x y
 rw [hea, heb] at HF
 have HFA := Lib.hid HF
 have hxl : w.heap.size < ((w.alloc (.cells #[.int .i64 a.st, .slice p np cp, .slice q n c] 27)).alloc (.cells #[.int .i64 b.st, .slice p' np' cp', .slice q' n' c'] 27)).heap.size := (Array.getElem?_eq_some_iff.1 hX).1
 have hyl : w.heap.size + 1 < ((w.alloc (.cells #[.int .i64 a.st, .slice p np cp, .slice q n c] 27)).alloc (.cells #[.int .i64 b.st, .slice p' np' cp', .slice q' n' c'] 27)).heap.size := (Array.getElem?_eq_some_iff.1 hY).1
 clear hB hX hY hS ha hb HF hea heb
 obtain ⟨x0, x1, x2, -⟩ := three_cells HX.out
 go_enter Try.func84, Try.ntmps84
 go_wp2_with fail
 clear x0 x1 x2
 generalize (w.alloc (.cells #[.int .i64 a.st, .slice p np cp, .slice q n c] 27)).alloc (.cells #[.int .i64 b.st, .slice p' np' cp', .slice q' n' c'] 27) = W0 at *
 refine (specMovesFrom_any x true (HMA.out) (by omega)).mono ?_
 rintro e w1 ⟨a1, n1, c1, rfl, ho1, hb1⟩
 have hl1 := ho1.len
 have hr1 := ho1.room
 have HO1 := Lib.hid ho1.nums
 have HD1 : Hid (Below W0.heap.size W0 w1) := Lib.hid (hb1)
 clear ho1 hb1
 obtain ⟨y0, y1, y2, -⟩ := three_cells ((HD1.out.block _ hyl).trans HY.out)
 go_wp2_with fail
 clear y0 y1 y2
 refine (specMovesFrom_any y true (HMB.out.same HD1.out) (by omega)).mono ?_
 rintro e w2 ⟨a2, n2, c2, rfl, ho2, hb2⟩
 have hl2 := ho2.len
 have hr2 := ho2.room
 have HO2 := Lib.hid ho2.nums
 replace HO1 := Lib.hid (HO1.out.same hb2)
 have HD2 : Hid (Below W0.heap.size W0 w2) := Lib.hid (HD1.out.trans (hb2.mono HD1.out.size))
 clear ho2 hb2
 obtain ⟨x0, x1, x2, -⟩ := three_cells ((HD2.out.block _ hxl).trans HX.out)
 go_wp2_with fail
 clear x0 x1 x2
 refine (specMovesFrom_any x false (HMA.out.same HD2.out) (by omega)).mono ?_
 rintro e w3 ⟨a3, n3, c3, rfl, ho3, hb3⟩
 have hl3 := ho3.len
 have hr3 := ho3.room
 have HO3 := Lib.hid ho3.nums
 replace HO1 := Lib.hid (HO1.out.same hb3)
 replace HO2 := Lib.hid (HO2.out.same hb3)
 have HD3 : Hid (Below W0.heap.size W0 w3) := Lib.hid (HD2.out.trans (hb3.mono HD2.out.size))
 clear ho3 hb3
 obtain ⟨y0, y1, y2, -⟩ := three_cells ((HD3.out.block _ hyl).trans HY.out)
 go_wp2_with fail
 clear y0 y1 y2
 refine (specMovesFrom_any y false (HMB.out.same HD3.out) (by omega)).mono ?_
 rintro e w4 ⟨a4, n4, c4, rfl, ho4, hb4⟩
 have hl4 := ho4.len
 have hr4 := ho4.room
 have HO4 := Lib.hid ho4.nums
 replace HO1 := Lib.hid (HO1.out.same hb4)
 replace HO2 := Lib.hid (HO2.out.same hb4)
 replace HO3 := Lib.hid (HO3.out.same hb4)
 have HD4 : Hid (Below W0.heap.size W0 w4) := Lib.hid (HD3.out.trans (hb4.mono HD3.out.size))
 clear ho4 hb4
 go_wp2_with fail
 refine (l15Within_any (c := c4) (d := c3) HO4.out HO3.out).mono ?_
 rintro e w5 ⟨rfl, hb5⟩
 have HD5 : Hid (Below W0.heap.size W0 w5) := Lib.hid (HD4.out.trans (hb5.mono HD4.out.size))
 have HE5 := Lib.hid hb5
 clear hb5
 cases q1 : withinP (movesFrom b y false) (movesFrom a x false) with
 | false =>
  have HT : Hid (followsAtP a b x y = false) := Lib.hid (by rw [HFA.out]; rw [q1]; simp)
  go_wp2_with fail
  go_ret
  exact ⟨by rw [HT.out]; try rfl, HB.out.trans (HD5.out.mono HB.out.size)⟩
 | true =>
  go_wp2_with fail
  refine (l15Within_any (c := c1) (d := c2) (HO1.out.same HE5.out) (HO2.out.same HE5.out)).mono ?_
  rintro e w6 ⟨rfl, hb6⟩
  have HD6 : Hid (Below W0.heap.size W0 w6) := Lib.hid (HD5.out.trans (hb6.mono HD5.out.size))
  have HE6 := Lib.hid hb6
  clear hb6
  cases q2 : withinP (movesFrom a x true) (movesFrom b y true) with
  | false =>
   have HT : Hid (followsAtP a b x y = false) := Lib.hid (by rw [HFA.out]; rw [q2]; simp)
   go_wp2_with fail
   go_ret
   exact ⟨by rw [HT.out]; try rfl, HB.out.trans (HD6.out.mono HB.out.size)⟩
  | true =>
   have k1 := within_nil q1
   have k2 := within_nil q2
   rcases Nat.eq_zero_or_pos n1 with z1 | z1
   ·rcases Nat.eq_zero_or_pos n2 with z2 | z2
    ·rcases Nat.eq_zero_or_pos n4 with z4 | z4
     ·rcases Nat.eq_zero_or_pos n3 with z3 | z3
      ·obtain ⟨y0, y1, y2, -⟩ := three_cells ((HD6.out.block _ hyl).trans HY.out)
       go_wp2_with fail
       clear y0 y1 y2
       refine (l14End_any y (HMB.out.same HD6.out)).mono ?_
       rintro e w7 ⟨rfl, hb7⟩
       have HD7 : Hid (Below W0.heap.size W0 w7) := Lib.hid (HD6.out.trans (hb7.mono HD6.out.size))
       have HE7 := Lib.hid hb7
       clear hb7
       cases s1 : stopP b y with
       | false =>
        have HT : Hid (followsAtP a b x y = true) := Lib.hid (by rw [HFA.out]; rw [q1, q2, s1, isEmpty_zero (hl1.trans z1), isEmpty_zero (hl2.trans z2), isEmpty_zero (hl4.trans z4), isEmpty_zero (hl3.trans z3)]; simp)
        go_wp2_with fail
        go_ret
        exact ⟨by rw [HT.out]; try rfl, HB.out.trans (HD7.out.mono HB.out.size)⟩
       | true =>
        obtain ⟨x0, x1, x2, -⟩ := three_cells ((HD7.out.block _ hxl).trans HX.out)
        go_wp2_with fail
        clear x0 x1 x2
        refine (l14End_any x (HMA.out.same HD7.out)).mono ?_
        rintro e w8 ⟨rfl, hb8⟩
        have HD8 : Hid (Below W0.heap.size W0 w8) := Lib.hid (HD7.out.trans (hb8.mono HD7.out.size))
        have HE8 := Lib.hid hb8
        clear hb8
        have HT : Hid (followsAtP a b x y = stopP a x) := Lib.hid (by rw [HFA.out]; rw [q1, q2, s1, isEmpty_zero (hl1.trans z1), isEmpty_zero (hl2.trans z2), isEmpty_zero (hl4.trans z4), isEmpty_zero (hl3.trans z3)]; simp)
        go_wp2_with fail
        go_ret
        exact ⟨by rw [HT.out]; try rfl, HB.out.trans (HD8.out.mono HB.out.size)⟩
      ·have HT : Hid (followsAtP a b x y = false) := Lib.hid (by rw [HFA.out]; rw [isEmpty_zero (hl4.trans z4), isEmpty_pos (l := movesFrom a x false) (by rw [hl3]; exact z3)]; simp)
       go_wp2_with fail
       go_ret
       exact ⟨by rw [HT.out]; try rfl, HB.out.trans (HD6.out.mono HB.out.size)⟩
     ·have z3 : 0 < n3 := by
       rcases Nat.eq_zero_or_pos n3 with z3 | z3
       ·have := k1 (hl3.trans z3)
        omega
       ·exact z3
      obtain ⟨y0, y1, y2, -⟩ := three_cells ((HD6.out.block _ hyl).trans HY.out)
      go_wp2_with fail
      clear y0 y1 y2
      refine (l14End_any y (HMB.out.same HD6.out)).mono ?_
      rintro e w7 ⟨rfl, hb7⟩
      have HD7 : Hid (Below W0.heap.size W0 w7) := Lib.hid (HD6.out.trans (hb7.mono HD6.out.size))
      have HE7 := Lib.hid hb7
      clear hb7
      cases s1 : stopP b y with
      | false =>
       have HT : Hid (followsAtP a b x y = true) := Lib.hid (by rw [HFA.out]; rw [q1, q2, s1, isEmpty_zero (hl1.trans z1), isEmpty_zero (hl2.trans z2), isEmpty_pos (l := movesFrom b y false) (by rw [hl4]; exact z4), isEmpty_pos (l := movesFrom a x false) (by rw [hl3]; exact z3)]; simp)
       go_wp2_with fail
       go_ret
       exact ⟨by rw [HT.out]; try rfl, HB.out.trans (HD7.out.mono HB.out.size)⟩
      | true =>
       obtain ⟨x0, x1, x2, -⟩ := three_cells ((HD7.out.block _ hxl).trans HX.out)
       go_wp2_with fail
       clear x0 x1 x2
       refine (l14End_any x (HMA.out.same HD7.out)).mono ?_
       rintro e w8 ⟨rfl, hb8⟩
       have HD8 : Hid (Below W0.heap.size W0 w8) := Lib.hid (HD7.out.trans (hb8.mono HD7.out.size))
       have HE8 := Lib.hid hb8
       clear hb8
       have HT : Hid (followsAtP a b x y = stopP a x) := Lib.hid (by rw [HFA.out]; rw [q1, q2, s1, isEmpty_zero (hl1.trans z1), isEmpty_zero (hl2.trans z2), isEmpty_pos (l := movesFrom b y false) (by rw [hl4]; exact z4), isEmpty_pos (l := movesFrom a x false) (by rw [hl3]; exact z3)]; simp)
       go_wp2_with fail
       go_ret
       exact ⟨by rw [HT.out]; try rfl, HB.out.trans (HD8.out.mono HB.out.size)⟩
    ·have HT : Hid (followsAtP a b x y = false) := Lib.hid (by rw [HFA.out]; rw [isEmpty_zero (hl1.trans z1), isEmpty_pos (l := movesFrom b y true) (by rw [hl2]; exact z2)]; simp)
     go_wp2_with fail
     go_ret
     exact ⟨by rw [HT.out]; try rfl, HB.out.trans (HD6.out.mono HB.out.size)⟩
   ·have z2 : 0 < n2 := by
     rcases Nat.eq_zero_or_pos n2 with z2 | z2
     ·have := k2 (hl2.trans z2)
      omega
     ·exact z2
    rcases Nat.eq_zero_or_pos n4 with z4 | z4
    ·rcases Nat.eq_zero_or_pos n3 with z3 | z3
     ·obtain ⟨y0, y1, y2, -⟩ := three_cells ((HD6.out.block _ hyl).trans HY.out)
      go_wp2_with fail
      clear y0 y1 y2
      refine (l14End_any y (HMB.out.same HD6.out)).mono ?_
      rintro e w7 ⟨rfl, hb7⟩
      have HD7 : Hid (Below W0.heap.size W0 w7) := Lib.hid (HD6.out.trans (hb7.mono HD6.out.size))
      have HE7 := Lib.hid hb7
      clear hb7
      cases s1 : stopP b y with
      | false =>
       have HT : Hid (followsAtP a b x y = true) := Lib.hid (by rw [HFA.out]; rw [q1, q2, s1, isEmpty_pos (l := movesFrom a x true) (by rw [hl1]; exact z1), isEmpty_pos (l := movesFrom b y true) (by rw [hl2]; exact z2), isEmpty_zero (hl4.trans z4), isEmpty_zero (hl3.trans z3)]; simp)
       go_wp2_with fail
       go_ret
       exact ⟨by rw [HT.out]; try rfl, HB.out.trans (HD7.out.mono HB.out.size)⟩
      | true =>
       obtain ⟨x0, x1, x2, -⟩ := three_cells ((HD7.out.block _ hxl).trans HX.out)
       go_wp2_with fail
       clear x0 x1 x2
       refine (l14End_any x (HMA.out.same HD7.out)).mono ?_
       rintro e w8 ⟨rfl, hb8⟩
       have HD8 : Hid (Below W0.heap.size W0 w8) := Lib.hid (HD7.out.trans (hb8.mono HD7.out.size))
       have HE8 := Lib.hid hb8
       clear hb8
       have HT : Hid (followsAtP a b x y = stopP a x) := Lib.hid (by rw [HFA.out]; rw [q1, q2, s1, isEmpty_pos (l := movesFrom a x true) (by rw [hl1]; exact z1), isEmpty_pos (l := movesFrom b y true) (by rw [hl2]; exact z2), isEmpty_zero (hl4.trans z4), isEmpty_zero (hl3.trans z3)]; simp)
       go_wp2_with fail
       go_ret
       exact ⟨by rw [HT.out]; try rfl, HB.out.trans (HD8.out.mono HB.out.size)⟩
     ·have HT : Hid (followsAtP a b x y = false) := Lib.hid (by rw [HFA.out]; rw [isEmpty_zero (hl4.trans z4), isEmpty_pos (l := movesFrom a x false) (by rw [hl3]; exact z3)]; simp)
      go_wp2_with fail
      go_ret
      exact ⟨by rw [HT.out]; try rfl, HB.out.trans (HD6.out.mono HB.out.size)⟩
    ·have z3 : 0 < n3 := by
      rcases Nat.eq_zero_or_pos n3 with z3 | z3
      ·have := k1 (hl3.trans z3)
       omega
      ·exact z3
     obtain ⟨y0, y1, y2, -⟩ := three_cells ((HD6.out.block _ hyl).trans HY.out)
     go_wp2_with fail
     clear y0 y1 y2
     refine (l14End_any y (HMB.out.same HD6.out)).mono ?_
     rintro e w7 ⟨rfl, hb7⟩
     have HD7 : Hid (Below W0.heap.size W0 w7) := Lib.hid (HD6.out.trans (hb7.mono HD6.out.size))
     have HE7 := Lib.hid hb7
     clear hb7
     cases s1 : stopP b y with
     | false =>
      have HT : Hid (followsAtP a b x y = true) := Lib.hid (by rw [HFA.out]; rw [q1, q2, s1, isEmpty_pos (l := movesFrom a x true) (by rw [hl1]; exact z1), isEmpty_pos (l := movesFrom b y true) (by rw [hl2]; exact z2), isEmpty_pos (l := movesFrom b y false) (by rw [hl4]; exact z4), isEmpty_pos (l := movesFrom a x false) (by rw [hl3]; exact z3)]; simp)
      go_wp2_with fail
      go_ret
      exact ⟨by rw [HT.out]; try rfl, HB.out.trans (HD7.out.mono HB.out.size)⟩
     | true =>
      obtain ⟨x0, x1, x2, -⟩ := three_cells ((HD7.out.block _ hxl).trans HX.out)
      go_wp2_with fail
      clear x0 x1 x2
      refine (l14End_any x (HMA.out.same HD7.out)).mono ?_
      rintro e w8 ⟨rfl, hb8⟩
      have HD8 : Hid (Below W0.heap.size W0 w8) := Lib.hid (HD7.out.trans (hb8.mono HD7.out.size))
      have HE8 := Lib.hid hb8
      clear hb8
      have HT : Hid (followsAtP a b x y = stopP a x) := Lib.hid (by rw [HFA.out]; rw [q1, q2, s1, isEmpty_pos (l := movesFrom a x true) (by rw [hl1]; exact z1), isEmpty_pos (l := movesFrom b y true) (by rw [hl2]; exact z2), isEmpty_pos (l := movesFrom b y false) (by rw [hl4]; exact z4), isEmpty_pos (l := movesFrom a x false) (by rw [hl3]; exact z3)]; simp)
      go_wp2_with fail
      go_ret
      exact ⟨by rw [HT.out]; try rfl, HB.out.trans (HD8.out.mono HB.out.size)⟩
end Go.Proofs.Ytckmgbobkffabaa
namespace Go.Proofs.Ytckmgbobkffabaa
open Go.ChangeShapes Go.WideShapes Go.ChangeAt Go.RowKit
set_option linter.unusedVariables false
set_option linter.unusedSimpArgs false

/-- From a on lie n machines: the list l. -/
structure Macs (w : World) (a : Option Addr) (n : Nat) (l : List Mac) : Prop where
 len : l.length = n
 fits : (n : Int) ≤ 9223372036854775807
 cell : ∀ j x, l[j]? = some x → ∃ b o p m c q k d, a = some ⟨b, o, none⟩ ∧ w.cell? ⟨b, o + j * 3, none⟩ = some (.int .i64 x.st) ∧ w.cell? ⟨b, o + j * 3 + 1, none⟩ = some (.slice p m c) ∧ w.cell? ⟨b, o + j * 3 + 2, none⟩ = some (.slice q k d) ∧ MacW w (.agg #[.int .i64 x.st, .slice p m c, .slice q k d]) x
theorem Macs.nothing {w : World} : Macs w none 0 [] := ⟨rfl, by omega, fun j x h => by simp at h⟩
theorem Macs.same {w w' : World} {a : Option Addr} {n : Nat} {l : List Mac} (h : Macs w a n l) (hb : Below w.heap.size w w') : Macs w' a n l :=
 ⟨h.len, h.fits, fun j x hj => by
  obtain ⟨b, o, p, m, c, q, k, d, e, h0, h1, h2, h3⟩ := h.cell j x hj
  exact ⟨b, o, p, m, c, q, k, d, e, cell_stay h0 hb, cell_stay h1 hb, cell_stay h2 hb, h3.same hb⟩⟩
theorem Macs.at_ {w : World} {a : Option Addr} {n : Nat} {l : List Mac} (h : Macs w a n l) {j : Nat} (hj : j < n) : ∃ x b o p m c q k d, l[j]? = some x ∧ a = some ⟨b, o, none⟩ ∧ w.cell? ⟨b, o + j * 3, none⟩ = some (.int .i64 x.st) ∧ w.cell? ⟨b, o + j * 3 + 1, none⟩ = some (.slice p m c) ∧ w.cell? ⟨b, o + j * 3 + 2, none⟩ = some (.slice q k d) ∧ MacW w (.agg #[.int .i64 x.st, .slice p m c, .slice q k d]) x := by
 have hl : j < l.length := by rw [h.len]; exact hj
 obtain ⟨b, o, p, m, c, q, k, d, e, h1⟩ := h.cell j _ (List.getElem?_eq_getElem hl)
 exact ⟨_, b, o, p, m, c, q, k, d, List.getElem?_eq_getElem hl, e, h1⟩
theorem chainFrom_iff : ∀ {t : List Mac} {x : Mac}, chainFrom x t = true ↔ ∀ j y z, (x :: t)[j]? = some y → (x :: t)[j + 1]? = some z → followsP z y = true
 | [], x => by
  refine ⟨fun _ j y z _ h => ?_, fun _ => rfl⟩
  simp at h
 | u :: t, x => by
  unfold chainFrom
  rw [Bool.and_eq_true, chainFrom_iff (t := t) (x := u)]
  constructor
  ·rintro ⟨h1, h2⟩ j y z hy hz
   cases j with
   | zero =>
    simp only [List.getElem?_cons_zero, List.getElem?_cons_succ, Option.some.injEq] at hy hz
    rw [← hy, ← hz]
    exact h1
   | succ j =>
    simp only [List.getElem?_cons_succ] at hy hz
    exact h2 j y z hy (by simpa using hz)
  ·intro h
   exact ⟨h 0 x u rfl rfl, fun j y z hy hz => h (j + 1) y z (by simpa using hy) (by simpa using hz)⟩
theorem chainP_iff {l : List Mac} : chainP l = true ↔ ∃ x, l[0]? = some x ∧ isMac x = true ∧ ∀ j y z, l[j]? = some y → l[j + 1]? = some z → followsP z y = true := by
 cases l with
 | nil => simp [chainP]
 | cons x t =>
  unfold chainP
  rw [Bool.and_eq_true, chainFrom_iff]
  simp
/-- Each of the first i machines behind the first one follows the one before it. -/
def ChainTo (l : List Mac) (i : Nat) : Prop := ∀ j, j < i → ∀ y z, l[j]? = some y → l[j + 1]? = some z → followsP z y = true
theorem ChainTo.start (l : List Mac) : ChainTo l 0 := fun j h => absurd h (by omega)
theorem ChainTo.step {l : List Mac} {i : Nat} {x u : Mac} (h : ChainTo l i) (hx : l[i]? = some x) (hu : l[i + 1]? = some u) (hf : followsP u x = true) : ChainTo l (i + 1) := fun j hj y z hy hz => by
 by_cases e : j = i
 ·subst e
  rw [hx] at hy
  rw [hu] at hz
  rw [← Option.some.inj hy, ← Option.some.inj hz]
  exact hf
 ·exact h j (by omega) y z hy hz
theorem ChainTo.done {l : List Mac} {i : Nat} {x : Mac} (h : ChainTo l i) (h0 : l[0]? = some x) (hm : isMac x = true) (hi : l.length ≤ i + 1) : chainP l = true :=
 chainP_iff.2 ⟨x, h0, hm, fun j y z hy hz => h j (by have := at_lt hz; omega) y z hy hz⟩
theorem chain_bad {l : List Mac} {i : Nat} {x u : Mac} (hx : l[i]? = some x) (hu : l[i + 1]? = some u) (hf : followsP u x = false) : chainP l = false := by
 rw [Bool.eq_false_iff]
 intro h
 obtain ⟨_, _, _, h2⟩ := chainP_iff.1 h
 rw [h2 i x u hx hu] at hf
 cases hf
theorem chain_first {l : List Mac} {x : Mac} (h0 : l[0]? = some x) (hm : isMac x = false) : chainP l = false := by
 rw [Bool.eq_false_iff]
 intro h
 obtain ⟨y, h1, h2, _⟩ := chainP_iff.1 h
 rw [h0] at h1
 rw [← Option.some.inj h1, hm] at h2
 cases h2
set_option maxRecDepth 100000 in
set_option maxHeartbeats 4000000 in
theorem chainFollows_any {a : Option Addr} {n c : Nat} {l : List Mac} {w : World} (h : Macs w a n l) (hz : ∀ x ∈ l, ∀ z ∈ x.moves, Wmv z) (hp : ∀ x ∈ l, x.parts ≤ 10000000) (hn : n ≤ 100000000) (hnc : n ≤ c) (hc : (c : Int) ≤ 9223372036854775807) :
  Calls Try.prog 24 #[.slice a n c] w (Told (.bool (chainP l)) w) := by
 have HL := Lib.hid h.len
 by_cases h0 : n = 0
 ·subst h0
  obtain rfl : l = [] := List.eq_nil_of_length_eq_zero HL.out
  clear h hz hp
  go_enter Try.func24, Try.ntmps24
  go_wp2_with fail
  go_ret
  exact ⟨rfl, Below.refl _ _⟩
 ·have hne : ((n : Int) == 0) = false := by rw [beq_eq_false_iff_ne]; omega
  obtain ⟨x, b, o, p, m, d, q, k, e, hx, rfl, c0, c1, c2, hm⟩ := h.at_ (j := 0) (by omega)
  have HM := Lib.hid (isMachine_any hm)
  have HX := Lib.hid hx
  have HS := Lib.hid h
  have HZ := Lib.hid hz
  have HP := Lib.hid hp
  rw [Nat.zero_mul, Nat.add_zero] at c0 c1 c2
  clear h hz hp hm hx
  cases hq : isMac x with
  | false =>
   have HC := Lib.hid (chain_first HX.out hq)
   rw [hq] at HM
   clear hq
   go_enter Try.func24, Try.ntmps24
   go_wp2_with fail
   refine HM.out.mono ?_
   rintro e w1 ⟨rfl, hb1⟩
   have HB1 := Lib.hid hb1
   clear hb1 c0 c1 c2
   go_wp2_with fail
   go_ret
   exact ⟨by rw [HC.out]; try rfl, HB1.out⟩
  | true =>
   rw [hq] at HM
   have HQ := Lib.hid hq
   clear hq
   rcases Nat.lt_or_ge 1 c with hc1 | hc1
   ·go_enter Try.func24, Try.ntmps24
    go_wp2_with fail
    refine HM.out.mono ?_
    rintro e w1 ⟨rfl, hb1⟩
    have HB1 := Lib.hid hb1
    have HS1 := Lib.hid (HS.out.same hb1)
    clear hb1 c0 c1 c2 HM
    go_wp2_with fail
    go_loopw [18] (fun i wr => ∃ j : Nat, j ≤ n - 1 ∧ i = .int .i64 j ∧ ChainTo l j ∧ Below w1.heap.size w1 wr) (fun i _ => (n - 1) - (intOf i).toNat)
    case atStart => exact ⟨0, Nat.zero_le _, rfl, ChainTo.start l, Below.refl _ _⟩
    case round =>
     obtain ⟨j, hj, rfl, hct, hb⟩ := hrel
     have HCT := Lib.hid hct
     have HB := Lib.hid hb
     have hsr := hb.size
     clear hct hb
     by_cases hlt : j < n - 1
     ·obtain ⟨u, b1, o1, p1, m1, d1, q1, k1, e1, hu, hee, c0, c1, c2, hmu⟩ := (HS1.out.same HB.out).at_ (j := j + 1) (by omega)
      cases hee
      obtain ⟨v, b2, o2, p2, m2, d2, q2, k2, e2, hv, hee, y0, y1, y2, hmv⟩ := (HS1.out.same HB.out).at_ (j := j) (by omega)
      cases hee
      rw [show o + (j + 1) * 3 = o + 3 + j * 3 by omega] at c0 c1 c2
      have hjn : j < n := by omega
      have HU := Lib.hid hu
      have HV := Lib.hid hv
      have huz := List.mem_of_getElem? hu
      have hvz := List.mem_of_getElem? hv
      have HMU := Lib.hid hmu
      have HMV := Lib.hid hmv
      have HY := Lib.hid (And.intro y0 (And.intro y1 y2))
      have hnx : ((n : Int) == 0) = false := hne
      clear hu hv hmu hmv y0 y1 y2
      go_wp2_with fail
      clear c0 c1 c2
      have HAL := Lib.hid (alloc_same wr (.cells #[.int .i64 u.st, .slice p1 m1 d1, .slice q1 k1 e1] 27))
      have HBX : Hid ((wr.alloc (.cells #[.int .i64 u.st, .slice p1 m1 d1, .slice q1 k1 e1] 27)).heap[wr.heap.size]? = some (.cells #[.int .i64 u.st, .slice p1 m1 d1, .slice q1 k1 e1] 27 (0, 0))) := Lib.hid (heap_alloc_new wr (.cells #[.int .i64 u.st, .slice p1 m1 d1, .slice q1 k1 e1] 27 (0, 0)))
      obtain ⟨x0, x1, x2, -⟩ := three_cells HBX.out
      have y0 := cell_stay HY.out.1 HAL.out
      have y1 := cell_stay HY.out.2.1 HAL.out
      have y2 := cell_stay HY.out.2.2 HAL.out
      generalize wr.alloc (.cells #[.int .i64 u.st, .slice p1 m1 d1, .slice q1 k1 e1] 27) = w2 at *
      go_wp2_with fail
      go_still_tail 5, (by kernel_rfl)
      have H2 : Hid (Below w2.heap.size w2 w2.drew) := Lib.hid (Below.refl _ _).drew
      change wpList _ _ _ _ _ w2.drew
      generalize w2.drew = w3 at H2 ⊢
      clear x0 x1 x2 y0 y1 y2
      have HB3 : Hid (Below wr.heap.size wr w3) := Lib.hid (HAL.out.trans (H2.out.mono HAL.out.size))
      have HC := Lib.hid (follows_any (HMU.out.same HB3.out) (HMV.out.same HB3.out) (HZ.out u huz) (HZ.out v hvz) (HP.out u huz) (HP.out v hvz))
      cases hf : followsP u v with
      | false =>
       have HD := Lib.hid (chain_bad HV.out HU.out hf)
       rw [hf] at HC
       clear hf
       go_wp2_with fail
       refine HC.out.mono ?_
       rintro e w4 ⟨rfl, hb4⟩
       have HB4 := Lib.hid (HB.out.trans ((HB3.out.trans (hb4.mono HB3.out.size)).mono hsr))
       clear hb4
       go_wp2_with fail
       go_ret
       exact ⟨by rw [HD.out]; try rfl, HB1.out.trans (HB4.out.mono HB1.out.size)⟩
      | true =>
       have HD := Lib.hid (HCT.out.step HV.out HU.out hf)
       rw [hf] at HC
       clear hf
       go_wp2_with fail
       refine HC.out.mono ?_
       rintro e w4 ⟨rfl, hb4⟩
       have HB4 := Lib.hid (HB.out.trans ((HB3.out.trans (hb4.mono HB3.out.size)).mono hsr))
       clear hb4
       go_wp2_with fail
       go_roundw
       case rel => exact ⟨j + 1, by omega, by go_num, HD.out, HB4.out⟩
       case measure => simp [intOf]; omega
     ·obtain rfl : j = n - 1 := by omega
      have HD := Lib.hid (HCT.out.done HX.out HQ.out (by rw [HL.out]; omega))
      go_wp2_with fail
      go_ret
      exact ⟨by rw [HD.out]; try rfl, HB1.out.trans (HB.out.mono HB1.out.size)⟩
   ·obtain rfl : c = 1 := by omega
    obtain rfl : n = 1 := by omega
    have HD := Lib.hid ((ChainTo.start l).done HX.out HQ.out (by rw [HL.out]; omega))
    go_enter Try.func24, Try.ntmps24
    go_wp2_with fail
    refine HM.out.mono ?_
    rintro e w1 ⟨rfl, hb1⟩
    have HB1 := Lib.hid hb1
    clear hb1 c0 c1 c2 HM
    go_wp2_with fail
    go_loopw [18] (fun i wr => i = .int .i64 0 ∧ wr = w1) (fun i _ => 0)
    case atStart => exact ⟨rfl, rfl⟩
    case round =>
     obtain ⟨rfl, rfl⟩ := hrel
     go_wp2_with fail
     go_ret
     exact ⟨by rw [HD.out]; try rfl, HB1.out⟩
end Go.Proofs.Ytckmgbobkffabaa
