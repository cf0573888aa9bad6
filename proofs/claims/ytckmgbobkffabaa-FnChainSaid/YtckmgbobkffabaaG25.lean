/- Whether a newer machine follows an older one: by the program. The index of the first move with a key, by the model. -/
import Derived.Test.YtckmgbobkffabaaG24
import Derived.Test.YtckmgbobkffabaaG11
import Derived.Test.YtckmgbobkffabaaG12
import Derived.Handy
import Derived.Test.YtckmgbobkffabaaG1
namespace Go.Proofs.Ytckmgbobkffabaa
open Go.ChangeShapes Go.WideShapes Go.ChangeAt Go.RowKit
set_option linter.unusedVariables false
set_option linter.unusedSimpArgs false

theorem run_makeSet (w : World) : (Instr.makeMap 88 none).run Try.prog w = .ok (.map (some w.heap.size)) (w.alloc (.map #[] 0)) := by
 simp [Instr.makeMap, run_underlying Try.underlying88, asInt, asIntOf, Result.andThen]
set_option maxHeartbeats 2000000 in
set_option maxRecDepth 100000 in
theorem follows_any {va vb : Value} {a b : Mac} {w : World} (ha : MacW w va a) (hb : MacW w vb b) (hz : ∀ z ∈ a.moves, Wmv z) (hz' : ∀ z ∈ b.moves, Wmv z) (hn : a.parts ≤ 10000000) (hn' : b.parts ≤ 10000000) :
  Calls Try.prog 26 #[va, vb] w (Told (.bool (followsP a b)) w) := by
 obtain ⟨p, np, cp, q, n, c, rfl⟩ := ha.shape
 obtain ⟨p', np', cp', q', n', c', rfl⟩ := hb.shape
 obtain ⟨hB, hX, hY, hS⟩ := twice w #[.int .i64 a.st, .slice p np cp, .slice q n c] #[.int .i64 b.st, .slice p' np' cp', .slice q' n' c'] 27 27
 have HB := Lib.hid hB
 have HX := Lib.hid hX
 have HY := Lib.hid hY
 have HMA := Lib.hid (ha.same hB)
 have HMB := Lib.hid (hb.same hB)
 clear hB hX hY hS ha hb
 have HIA := Lib.hid (fun W' hb' => isMachine_any (HMA.out.same (w' := W') hb'))
 have HIB := Lib.hid (fun W' hb' => isMachine_any (HMB.out.same (w' := W') hb'))
 have hxl : w.heap.size < ((w.alloc (.cells #[.int .i64 a.st, .slice p np cp, .slice q n c] 27)).alloc (.cells #[.int .i64 b.st, .slice p' np' cp', .slice q' n' c'] 27)).heap.size := (Array.getElem?_eq_some_iff.1 HX.out).1
 have hyl : w.heap.size + 1 < ((w.alloc (.cells #[.int .i64 a.st, .slice p np cp, .slice q n c] 27)).alloc (.cells #[.int .i64 b.st, .slice p' np' cp', .slice q' n' c'] 27)).heap.size := (Array.getElem?_eq_some_iff.1 HY.out).1
 cases qa : isMac a with
 | false =>
  have HR : Hid (followsP a b = false) := Lib.hid (by unfold followsP; rw [qa]; rfl)
  rw [qa] at HIA
  clear qa
  obtain ⟨x0, x1, x2, -⟩ := three_cells HX.out
  go_enter Try.func26, Try.ntmps26
  go_wp2_with fail
  clear x0 x1 x2
  generalize (w.alloc (.cells #[.int .i64 a.st, .slice p np cp, .slice q n c] 27)).alloc (.cells #[.int .i64 b.st, .slice p' np' cp', .slice q' n' c'] 27) = W0 at *
  refine (HIA.out W0 (Below.refl _ _)).mono ?_
  rintro e w1 ⟨rfl, hb1⟩
  have HB1 := Lib.hid (HB.out.trans (hb1.mono HB.out.size))
  clear hb1
  go_wp2_with fail
  go_ret
  exact ⟨by rw [HR.out]; try rfl, HB1.out⟩
 | true =>
  cases qb : isMac b with
  | false =>
   have HR : Hid (followsP a b = false) := Lib.hid (by unfold followsP; rw [qb, Bool.false_and, Bool.and_false])
   rw [qa] at HIA
   rw [qb] at HIB
   clear qa qb
   obtain ⟨x0, x1, x2, -⟩ := three_cells HX.out
   go_enter Try.func26, Try.ntmps26
   go_wp2_with fail
   clear x0 x1 x2
   generalize (w.alloc (.cells #[.int .i64 a.st, .slice p np cp, .slice q n c] 27)).alloc (.cells #[.int .i64 b.st, .slice p' np' cp', .slice q' n' c'] 27) = W0 at *
   refine (HIA.out W0 (Below.refl _ _)).mono ?_
   rintro e w1 ⟨rfl, hb1⟩
   have HB1 := Lib.hid (HB.out.trans (hb1.mono HB.out.size))
   obtain ⟨y0, y1, y2, -⟩ := three_cells ((hb1.block _ hyl).trans HY.out)
   have HD1 := Lib.hid hb1
   clear hb1
   go_wp2_with fail
   clear y0 y1 y2
   refine (HIB.out w1 HD1.out).mono ?_
   rintro e w2 ⟨rfl, hb2⟩
   have HB2 := Lib.hid (HB1.out.trans (hb2.mono HB1.out.size))
   clear hb2
   go_wp2_with fail
   go_ret
   exact ⟨by rw [HR.out]; try rfl, HB2.out⟩
  | true =>
   have HZ := Lib.hid (And.intro (And.intro hz hz') (And.intro qa qb))
   rw [qa] at HIA
   rw [qb] at HIB
   clear qa qb hz hz'
   obtain ⟨x0, x1, x2, -⟩ := three_cells HX.out
   go_enter Try.func26, Try.ntmps26
   go_wp2_with fail
   clear x0 x1 x2
   generalize (w.alloc (.cells #[.int .i64 a.st, .slice p np cp, .slice q n c] 27)).alloc (.cells #[.int .i64 b.st, .slice p' np' cp', .slice q' n' c'] 27) = W0 at *
   refine (HIA.out W0 (Below.refl _ _)).mono ?_
   rintro e w1 ⟨rfl, hb1⟩
   have HB1 := Lib.hid (HB.out.trans (hb1.mono HB.out.size))
   obtain ⟨y0, y1, y2, -⟩ := three_cells ((hb1.block _ hyl).trans HY.out)
   have HD1 := Lib.hid hb1
   clear hb1
   go_wp2_with fail
   clear y0 y1 y2
   refine (HIB.out w1 HD1.out).mono ?_
   rintro e w2 ⟨rfl, hb2⟩
   have HB2 := Lib.hid (HB1.out.trans (hb2.mono HB1.out.size))
   have HD2 := Lib.hid (HD1.out.trans (hb2.mono HD1.out.size))
   clear hb2
   obtain ⟨x0, x1, x2, -⟩ := three_cells ((HD2.out.block _ hxl).trans HX.out)
   obtain ⟨y0, y1, y2, -⟩ := three_cells ((HD2.out.block _ hyl).trans HY.out)
   have hmk := run_makeSet w2
   go_wp2_with fail
   clear x0 x1 x2 y0 y1 y2
   clear hmk
   have hs2 := HD2.out.size
   refine (followsFrom_any HZ.out.1.1 HZ.out.1.2 HZ.out.2.1 HZ.out.2.2 hn hn' HMA.out HMB.out w2.heap.size hs2 36 (0, 0) [] (w2.alloc (.map #[] 0)) (HD2.out.alloc hs2 _) List.nodup_nil (by simp) ReachG.start (by simp) (met_made w2)).mono ?_
   rintro e w3 ⟨r, M', rfl, hd, hm, hon⟩
   have HR : Hid (followsP a b = r) := Lib.hid (by
    rw [Bool.eq_iff_iff, followsP_iff, hd.whole]
    exact ⟨fun h => h.2.2, fun h => ⟨HZ.out.2.1, HZ.out.2.2, h⟩⟩)
   have hsA : (w2.alloc (.map #[] 0)).heap.size = w2.heap.size + 1 := by simp
   have HB3 : Hid (Below w.heap.size w w3) := Lib.hid (hon.to (HB2.out.alloc HB2.out.size _) HB2.out.size (by have := HB2.out.size; omega))
   clear hd hm hon
   go_wp2_with fail
   go_ret
   exact ⟨by rw [HR.out]; try rfl, HB3.out⟩
end Go.Proofs.Ytckmgbobkffabaa
namespace Go.Proofs.Ytckmgbobkffabaa
open Go.ChangeShapes Go.WideShapes Go.ChangeAt Go.RowKit Go.Sort
set_option linter.unusedVariables false
set_option linter.unusedSimpArgs false

set_option maxHeartbeats 1000000 in
set_option maxRecDepth 100000 in
theorem specMoveOf_any {w : World} {v : Value} {x : Mac} (s : Int) (b : Bool) (k : Int) (h : MacW w v x) : Calls Try.prog 56 #[v, .int .i64 s, .bool b, .int .i64 k] w (Told (.int .i64 (moveOf x s b k)) w) := by
 obtain ⟨a, n, c, q, m, d, rfl, h1, h2, h3⟩ := h
 have HB : Hid (Below w.heap.size w (w.alloc (.cells #[.int .i64 x.st, .slice a n c, .slice q m d] 27))) := Lib.hid (alloc_same w _)
 have HX : Hid ((w.alloc (.cells #[.int .i64 x.st, .slice a n c, .slice q m d] 27)).heap[w.heap.size]? = some (.cells #[.int .i64 x.st, .slice a n c, .slice q m d] 27 (0, 0))) := Lib.hid (heap_alloc_new w (.cells #[.int .i64 x.st, .slice a n c, .slice q m d] 27 (0, 0)))
 have hsz : (w.alloc (.cells #[.int .i64 x.st, .slice a n c, .slice q m d] 27)).heap.size = w.heap.size + 1 := by simp
 have H2 := Lib.hid (h2.same HB.out)
 have hl := h2.len
 have hfit := h2.fits
 clear h1 h2 h3
 go_enter Try.func56, Try.ntmps56
 go_wp2_with fail
 generalize (w.alloc (.cells #[.int .i64 x.st, .slice a n c, .slice q m d] 27)) = W0 at *
 go_loopw [9] (fun i wr => ∃ j : Nat, j ≤ m ∧ i = .int .i64 j ∧ (x.moves.take j).any (hitM s b k) = false ∧ Below W0.heap.size W0 wr) (fun i _ => m - (intOf i).toNat)
 case atStart => exact ⟨0, Nat.zero_le _, rfl, by simp, Below.refl _ _⟩
 case round =>
  obtain ⟨j, hj, rfl, hno, hb⟩ := hrel
  have HN := Lib.hid hno
  have HB9 := Lib.hid hb
  clear hno hb
  have hX1 := (HB9.out.block w.heap.size (by omega)).trans HX.out
  obtain ⟨_, _, b2, _, _, _⟩ := three_cells hX1
  clear hX1
  by_cases hlt : j < m
  ·obtain ⟨b1, o1, z, rfl, hx, hc0, hc1, hc2, hc3⟩ := mvs_at (H2.out.same HB9.out) hlt
   cases hk : hitM s b k z with
   | true =>
    have HE := Lib.hid (firstAt_hit hx HN.out hk)
    obtain ⟨e1, e2, e3⟩ := hitM_iff.1 hk
    clear hx hk
    rw [e1] at hc0
    rw [e2] at hc1
    rw [e3] at hc2
    clear e1 e2 e3
    go_wp2_with fail
    go_ret
    exact ⟨by unfold moveOf; rw [HE.out]; try rfl, HB.out.trans ((HB9.out.mono HB.out.size).alloc (by have := HB9.out.size; omega) _)⟩
   | false =>
    have HS : Hid ((x.moves.take (j + 1)).any (hitM s b k) = false) := Lib.hid (by
     rw [List.take_add_one, hx, List.any_append, HN.out]
     simp [hk])
    clear hx
    by_cases h1 : z.frm = s
    ·by_cases h2 : z.send = b
     ·have h3 : (z.msg == k) = false := by
       rw [hitM, h1, h2] at hk
       simpa using hk
      rw [h1] at hc0
      rw [h2] at hc1
      clear hk h1 h2
      go_wp2_with fail
      go_roundw
      case rel => exact ⟨j + 1, by omega, by go_num, HS.out, HB9.out.alloc HB9.out.size _⟩
      case measure => simp [intOf]; omega
     ·have h3 : (z.send == b) = false := by simpa using h2
      rw [h1] at hc0
      clear hk h1 h2
      go_wp2_with fail
      go_roundw
      case rel => exact ⟨j + 1, by omega, by go_num, HS.out, HB9.out.alloc HB9.out.size _⟩
      case measure => simp [intOf]; omega
    ·have h3 : (z.frm == s) = false := by simpa using h1
     clear hk h1
     go_wp2_with fail
     go_roundw
     case rel => exact ⟨j + 1, by omega, by go_num, HS.out, HB9.out.alloc HB9.out.size _⟩
     case measure => simp [intOf]; omega
  ·obtain rfl : j = m := by omega
   have h1 := HN.out
   rw [List.take_of_length_le (by omega)] at h1
   have HE := Lib.hid (firstAt_none h1)
   clear h1
   go_wp2_with fail
   go_ret
   exact ⟨by unfold moveOf; rw [HE.out]; try rfl, HB.out.trans (HB9.out.mono HB.out.size)⟩
end Go.Proofs.Ytckmgbobkffabaa
