/- The first pair of states in which something is wrong; whether two machines are safe with each other: by the program. Whether two machines are safe with each other: by the program. -/
import Derived.Test.YtckmgbobkffabaaG22
import Derived.Test.YtckmgbobkffabaaG29
import Derived.Test.YtckmgbobkffabaaG1
namespace Go.Proofs.Ytckmgbobkffabaa
open Go.ChangeShapes Go.WideShapes Go.ChangeAt Go.RowKit
set_option linter.unusedVariables false
set_option linter.unusedSimpArgs false

theorem find_none_take {α : Type} {p : α → Bool} {l : List α} {j : Nat} {x : α} (hx : l[j]? = some x) (h : (l.take j).find? p = none) (hp : p x = false) : (l.take (j + 1)).find? p = none := by
 rw [List.take_add_one, hx, List.find?_append, h]
 simp [hp]
theorem find_some_take {α : Type} {p : α → Bool} {l : List α} {j : Nat} {x : α} (hx : l[j]? = some x) (h : (l.take j).find? p = none) (hp : p x = true) : l.find? p = some x := by
 rw [← List.take_append_drop (j + 1) l, List.find?_append, List.take_add_one, hx, List.find?_append, h]
 simp [hp]
theorem rowOf_len (o : Option (Int × Int)) : (rowOf o).length ≤ 2 := by
 cases o <;> simp [rowOf]
theorem own_nil (w : World) : Own .i64 3 (w.alloc (.cells #[] 3)) w.heap.size (some ⟨w.heap.size, 0, none⟩) 0 0 [] := Own.empty (Nat.le_refl _)
set_option maxHeartbeats 2000000 in
set_option maxRecDepth 100000 in
theorem firstTrouble_any {va vb : Value} {a b : Mac} {w : World} (ha : MacW w va a) (hb : MacW w vb b) (hz : ∀ z ∈ a.moves, Wmv z) (hz' : ∀ z ∈ b.moves, Wmv z) (hn : a.parts ≤ 10000000) (hn' : b.parts ≤ 10000000) :
  Calls Try.prog 16 #[va, vb] w (Made .i64 3 w.heap.size (rowOf (firstP a b)) w) := by
 obtain ⟨p, np, cp, q, n, c, rfl⟩ := ha.shape
 obtain ⟨p', np', cp', q', n', c', rfl⟩ := hb.shape
 obtain ⟨hB, hX, hY, hS⟩ := twice w #[.int .i64 a.st, .slice p np cp, .slice q n c] #[.int .i64 b.st, .slice p' np' cp', .slice q' n' c'] 27 27
 have HB := Lib.hid hB
 have HX := Lib.hid hX
 have HY := Lib.hid hY
 have HMA := Lib.hid (ha.same hB)
 have HMB := Lib.hid (hb.same hB)
 have HZ := Lib.hid (And.intro hz hz')
 clear hB hX hY hS ha hb hz hz'
 obtain ⟨x0, x1, x2, -⟩ := three_cells HX.out
 obtain ⟨y0, y1, y2, -⟩ := three_cells HY.out
 unfold Made
 go_enter Try.func16, Try.ntmps16
 go_wp2_with fail
 clear x0 x1 x2 y0 y1 y2
 generalize (w.alloc (.cells #[.int .i64 a.st, .slice p np cp, .slice q n c] 27)).alloc (.cells #[.int .i64 b.st, .slice p' np' cp', .slice q' n' c'] 27) = W0 at *
 refine (pairsOf_any HMA.out HMB.out HZ.out.1 HZ.out.2 hn hn').mono ?_
 rintro e w1 ⟨g, m, d, rfl, ho, hb1⟩
 have hml := ho.count
 have hm36 := pairsP_len a b
 have hroom := ho.room
 have HO := Lib.hid (ho.lower HB.out.size)
 have HB1 := Lib.hid (HB.out.trans (hb1.mono HB.out.size))
 have HD1 := Lib.hid hb1
 clear ho hb1
 have hxl : w.heap.size < W0.heap.size := (Array.getElem?_eq_some_iff.1 HX.out).1
 have hyl : w.heap.size + 1 < W0.heap.size := (Array.getElem?_eq_some_iff.1 HY.out).1
 go_wp2_with fail
 go_loopw [11] (fun i wr => ∃ j : Nat, j ≤ m ∧ i = .int .i64 j ∧ ((pairsP a b).take j).find? (fun p => troubleP a b p.1 p.2 != 0) = none ∧ Below w1.heap.size w1 wr) (fun i _ => m - (intOf i).toNat)
 case atStart => exact ⟨0, Nat.zero_le _, rfl, by simp, Below.refl _ _⟩
 case round =>
  obtain ⟨j, hj, rfl, hno, hb⟩ := hrel
  have HNO := Lib.hid hno
  have HR := Lib.hid hb
  have HRD : Hid (Below W0.heap.size W0 wr) := Lib.hid (HD1.out.trans (hb.mono HD1.out.size))
  have HRB : Hid (Below w.heap.size w wr) := Lib.hid (HB1.out.trans (hb.mono HB1.out.size))
  clear hno hb
  by_cases hlt : j < m
  ·obtain ⟨r, k, hk, hc0, hrow, o1, o2, o3⟩ := (HO.out.same HR.out).at_ hlt
   obtain ⟨d0, d1⟩ := two_cells hrow
   obtain ⟨x0, x1, x2, -⟩ := three_cells ((HRD.out.block _ hxl).trans HX.out)
   obtain ⟨y0, y1, y2, -⟩ := three_cells ((HRD.out.block _ hyl).trans HY.out)
   have HK := Lib.hid hk
   have HROW := Lib.hid hrow
   clear hk hrow
   go_wp2_with fail
   go_still_tail 8, (by kernel_rfl)
   have H2 : Hid (Below wr.heap.size wr wr.drew) := Lib.hid (Below.refl _ _).drew
   change wpList _ _ _ _ _ wr.drew
   generalize wr.drew = w2 at H2 ⊢
   have HRD2 := Lib.hid (HRD.out.trans (H2.out.mono HRD.out.size))
   have HRB2 := Lib.hid (HRB.out.trans (H2.out.mono HRB.out.size))
   have HR2 := Lib.hid (HR.out.trans (H2.out.mono HR.out.size))
   clear x0 x1 x2 y0 y1 y2 d0 d1 hc0
   have HTR := Lib.hid (troubleAt_any k.1 k.2 (HMA.out.same HRD2.out) (HMB.out.same HRD2.out) HZ.out.1 HZ.out.2 hn hn')
   cases ht : (troubleP a b k.1 k.2 != 0) with
   | true =>
    have HF : Hid (firstP a b = some k) := Lib.hid (find_some_take HK.out HNO.out ht)
    have HT := Lib.hid ht
    clear ht
    go_wp2_with fail
    refine HTR.out.mono ?_
    rintro e w3 ⟨rfl, hb3⟩
    have HB3 := Lib.hid (HRB2.out.trans (hb3.mono HRB2.out.size))
    have HROW3 := Lib.hid ((hb3.block r (by have := HO.out; have := H2.out.size; have := (Array.getElem?_eq_some_iff.1 HROW.out).1; omega)).trans ((H2.out.block r (Array.getElem?_eq_some_iff.1 HROW.out).1).trans HROW.out))
    clear hb3
    have ht := HT.out
    go_wp2_with fail
    go_ret
    refine ⟨_, _, _, rfl, ?_, HB3.out⟩
    rw [HF.out]
    exact two_own HROW3.out o1
   | false =>
    have HN := Lib.hid (find_none_take HK.out HNO.out ht)
    have HT := Lib.hid ht
    clear ht
    go_wp2_with fail
    refine HTR.out.mono ?_
    rintro e w3 ⟨rfl, hb3⟩
    have HB3 := Lib.hid (HR2.out.trans (hb3.mono HR2.out.size))
    clear hb3
    have ht := HT.out
    go_wp2_with fail
    go_roundw
    case rel => exact ⟨j + 1, by omega, by go_num, HN.out, HB3.out⟩
    case measure => simp [intOf]; omega
  ·obtain rfl : j = m := by omega
   have hno := HNO.out
   rw [List.take_of_length_le (by omega)] at hno
   have HF : Hid (firstP a b = none) := Lib.hid hno
   clear hno
   go_wp2_with fail
   go_ret
   have hs := HRB.out.size
   refine ⟨_, _, _, rfl, ?_, HRB.out.alloc hs _⟩
   rw [HF.out]
   exact (own_nil wr).lower hs
end Go.Proofs.Ytckmgbobkffabaa
namespace Go.Proofs.Ytckmgbobkffabaa
open Go.ChangeShapes Go.WideShapes Go.ChangeAt Go.RowKit
set_option linter.unusedVariables false
set_option linter.unusedSimpArgs false

theorem row_len (o : Option (Int × Int)) : (((rowOf o).length : Int) == 0) = o.isNone := by
 cases o <;> rfl
set_option maxHeartbeats 2000000 in
set_option maxRecDepth 100000 in
theorem isSafe_any {va vb : Value} {a b : Mac} {w : World} (ha : MacW w va a) (hb : MacW w vb b) (hz : ∀ z ∈ a.moves, Wmv z) (hz' : ∀ z ∈ b.moves, Wmv z) (hn : a.parts ≤ 10000000) (hn' : b.parts ≤ 10000000) :
  Calls Try.prog 15 #[va, vb] w (Told (.bool (safeP a b)) w) := by
 obtain ⟨p, np, cp, q, n, c, rfl⟩ := ha.shape
 obtain ⟨p', np', cp', q', n', c', rfl⟩ := hb.shape
 obtain ⟨hB, hX, hY, hS⟩ := twice w #[.int .i64 a.st, .slice p np cp, .slice q n c] #[.int .i64 b.st, .slice p' np' cp', .slice q' n' c'] 27 27
 have HB := Lib.hid hB
 have HX := Lib.hid hX
 have HY := Lib.hid hY
 have HMA := Lib.hid (ha.same hB)
 have HMB := Lib.hid (hb.same hB)
 clear hB hX hY hS ha hb
 have HIA := Lib.hid (fun W' hb' => isMachine_any (HMA.out.same (w' := W') hb'))
 have HIB := Lib.hid (fun W' hb' => isMachine_any (HMB.out.same (w' := W') hb'))
 have HFT := Lib.hid (fun W' hb' => firstTrouble_any (HMA.out.same (w' := W') hb') (HMB.out.same hb') hz hz' hn hn')
 have hxl : w.heap.size < ((w.alloc (.cells #[.int .i64 a.st, .slice p np cp, .slice q n c] 27)).alloc (.cells #[.int .i64 b.st, .slice p' np' cp', .slice q' n' c'] 27)).heap.size := (Array.getElem?_eq_some_iff.1 HX.out).1
 have hyl : w.heap.size + 1 < ((w.alloc (.cells #[.int .i64 a.st, .slice p np cp, .slice q n c] 27)).alloc (.cells #[.int .i64 b.st, .slice p' np' cp', .slice q' n' c'] 27)).heap.size := (Array.getElem?_eq_some_iff.1 HY.out).1
 cases qa : isMac a with
 | false =>
  have HR : Hid (safeP a b = false) := Lib.hid (by unfold safeP; rw [qa]; rfl)
  rw [qa] at HIA
  clear qa
  obtain ⟨x0, x1, x2, -⟩ := three_cells HX.out
  go_enter Try.func15, Try.ntmps15
  go_wp2_with fail
  clear x0 x1 x2
  generalize (w.alloc (.cells #[.int .i64 a.st, .slice p np cp, .slice q n c] 27)).alloc (.cells #[.int .i64 b.st, .slice p' np' cp', .slice q' n' c'] 27) = W0 at *
  refine (HIA.out W0 (Below.refl _ _)).mono ?_
  rintro e w1 ⟨rfl, hb1⟩
  have HB1 := Lib.hid (HB.out.trans (hb1.mono HB.out.size))
  clear hb1
  go_wp2_with fail
  go_ret
  exact ⟨by rw [HR.out]; try rfl, HB1.out⟩
 | true =>
  cases qb : isMac b with
  | false =>
   have HR : Hid (safeP a b = false) := Lib.hid (by unfold safeP; rw [qb, Bool.false_and, Bool.and_false])
   rw [qa] at HIA
   rw [qb] at HIB
   clear qa qb
   obtain ⟨x0, x1, x2, -⟩ := three_cells HX.out
   go_enter Try.func15, Try.ntmps15
   go_wp2_with fail
   clear x0 x1 x2
   generalize (w.alloc (.cells #[.int .i64 a.st, .slice p np cp, .slice q n c] 27)).alloc (.cells #[.int .i64 b.st, .slice p' np' cp', .slice q' n' c'] 27) = W0 at *
   refine (HIA.out W0 (Below.refl _ _)).mono ?_
   rintro e w1 ⟨rfl, hb1⟩
   have HB1 := Lib.hid (HB.out.trans (hb1.mono HB.out.size))
   obtain ⟨y0, y1, y2, -⟩ := three_cells ((hb1.block _ hyl).trans HY.out)
   have HD1 := Lib.hid hb1
   clear hb1
   go_wp2_with fail
   clear y0 y1 y2
   refine (HIB.out w1 HD1.out).mono ?_
   rintro e w2 ⟨rfl, hb2⟩
   have HB2 := Lib.hid (HB1.out.trans (hb2.mono HB1.out.size))
   clear hb2
   go_wp2_with fail
   go_ret
   exact ⟨by rw [HR.out]; try rfl, HB2.out⟩
  | true =>
   have HR : Hid (safeP a b = (firstP a b).isNone) := Lib.hid (by unfold safeP; rw [qa, qb, Bool.true_and, Bool.true_and])
   have hrl := row_len (firstP a b)
   rw [qa] at HIA
   rw [qb] at HIB
   clear qa qb hz hz'
   obtain ⟨x0, x1, x2, -⟩ := three_cells HX.out
   go_enter Try.func15, Try.ntmps15
   go_wp2_with fail
   clear x0 x1 x2
   generalize (w.alloc (.cells #[.int .i64 a.st, .slice p np cp, .slice q n c] 27)).alloc (.cells #[.int .i64 b.st, .slice p' np' cp', .slice q' n' c'] 27) = W0 at *
   refine (HIA.out W0 (Below.refl _ _)).mono ?_
   rintro e w1 ⟨rfl, hb1⟩
   have HB1 := Lib.hid (HB.out.trans (hb1.mono HB.out.size))
   obtain ⟨y0, y1, y2, -⟩ := three_cells ((hb1.block _ hyl).trans HY.out)
   have HD1 := Lib.hid hb1
   clear hb1
   go_wp2_with fail
   clear y0 y1 y2
   refine (HIB.out w1 HD1.out).mono ?_
   rintro e w2 ⟨rfl, hb2⟩
   have HB2 := Lib.hid (HB1.out.trans (hb2.mono HB1.out.size))
   have HD2 := Lib.hid (HD1.out.trans (hb2.mono HD1.out.size))
   clear hb2
   obtain ⟨x0, x1, x2, -⟩ := three_cells ((HD2.out.block _ hxl).trans HX.out)
   obtain ⟨y0, y1, y2, -⟩ := three_cells ((HD2.out.block _ hyl).trans HY.out)
   go_wp2_with fail
   clear x0 x1 x2 y0 y1 y2
   refine (HFT.out w2 HD2.out).mono ?_
   rintro e w3 ⟨g3, n3, c3, rfl, ho, hb3⟩
   have hln := ho.len
   rw [hln] at hrl
   have HB3 := Lib.hid (HB2.out.trans (hb3.mono HB2.out.size))
   clear ho hb3
   go_wp2_with fail
   go_ret
   exact ⟨by rw [HR.out]; try rfl, HB3.out⟩
end Go.Proofs.Ytckmgbobkffabaa
