/- Whether two machines are safe with each other: by the program. -/
import Derived.Test.YtckmgbobkffabaaFt
namespace Go.Proofs.Ytckmgbobkffabaa
open Go.ChangeShapes Go.WideShapes Go.ChangeAt Go.RowKit
set_option linter.unusedVariables false
set_option linter.unusedSimpArgs false

theorem row_len (o : Option (Int × Int)) : (((rowOf o).length : Int) == 0) = o.isNone := by
  cases o <;> rfl
set_option maxHeartbeats 2000000 in
set_option maxRecDepth 100000 in
theorem isSafe_any {va vb : Value} {a b : Mac} {w : World} (ha : MacW w va a) (hb : MacW w vb b) (hz : ∀ z ∈ a.moves, Wmv z) (hz' : ∀ z ∈ b.moves, Wmv z) (hn : a.parts ≤ 10000000) (hn' : b.parts ≤ 10000000) :
    Calls Try.prog 15 #[va, vb] w (Told (.bool (safeP a b)) w) := by
  obtain ⟨p, np, cp, q, n, c, rfl⟩ := ha.shape
  obtain ⟨p', np', cp', q', n', c', rfl⟩ := hb.shape
  obtain ⟨hB, hX, hY, hS⟩ := twice w #[.int .i64 a.st, .slice p np cp, .slice q n c] #[.int .i64 b.st, .slice p' np' cp', .slice q' n' c'] 27 27
  have HB := Lib.hid hB
  have HX := Lib.hid hX
  have HY := Lib.hid hY
  have HMA := Lib.hid (ha.same hB)
  have HMB := Lib.hid (hb.same hB)
  clear hB hX hY hS ha hb
  have HIA := Lib.hid (fun W' hb' => isMachine_any (HMA.out.same (w' := W') hb'))
  have HIB := Lib.hid (fun W' hb' => isMachine_any (HMB.out.same (w' := W') hb'))
  have HFT := Lib.hid (fun W' hb' => firstTrouble_any (HMA.out.same (w' := W') hb') (HMB.out.same hb') hz hz' hn hn')
  have hxl : w.heap.size < ((w.alloc (.cells #[.int .i64 a.st, .slice p np cp, .slice q n c] 27)).alloc (.cells #[.int .i64 b.st, .slice p' np' cp', .slice q' n' c'] 27)).heap.size := (Array.getElem?_eq_some_iff.1 HX.out).1
  have hyl : w.heap.size + 1 < ((w.alloc (.cells #[.int .i64 a.st, .slice p np cp, .slice q n c] 27)).alloc (.cells #[.int .i64 b.st, .slice p' np' cp', .slice q' n' c'] 27)).heap.size := (Array.getElem?_eq_some_iff.1 HY.out).1
  cases qa : isMac a with
  | false =>
    have HR : Hid (safeP a b = false) := Lib.hid (by unfold safeP; rw [qa]; rfl)
    rw [qa] at HIA
    clear qa
    obtain ⟨x0, x1, x2, -⟩ := three_cells HX.out
    go_enter Try.func15, Try.ntmps15
    go_wp2_with fail
    clear x0 x1 x2
    generalize (w.alloc (.cells #[.int .i64 a.st, .slice p np cp, .slice q n c] 27)).alloc (.cells #[.int .i64 b.st, .slice p' np' cp', .slice q' n' c'] 27) = W0 at *
    refine (HIA.out W0 (Below.refl _ _)).mono ?_
    rintro e w1 ⟨rfl, hb1⟩
    have HB1 := Lib.hid (HB.out.trans (hb1.mono HB.out.size))
    clear hb1
    go_wp2_with fail
    go_ret
    exact ⟨by rw [HR.out]; try rfl, HB1.out⟩
  | true =>
    cases qb : isMac b with
    | false =>
      have HR : Hid (safeP a b = false) := Lib.hid (by unfold safeP; rw [qb, Bool.false_and, Bool.and_false])
      rw [qa] at HIA
      rw [qb] at HIB
      clear qa qb
      obtain ⟨x0, x1, x2, -⟩ := three_cells HX.out
      go_enter Try.func15, Try.ntmps15
      go_wp2_with fail
      clear x0 x1 x2
      generalize (w.alloc (.cells #[.int .i64 a.st, .slice p np cp, .slice q n c] 27)).alloc (.cells #[.int .i64 b.st, .slice p' np' cp', .slice q' n' c'] 27) = W0 at *
      refine (HIA.out W0 (Below.refl _ _)).mono ?_
      rintro e w1 ⟨rfl, hb1⟩
      have HB1 := Lib.hid (HB.out.trans (hb1.mono HB.out.size))
      obtain ⟨y0, y1, y2, -⟩ := three_cells ((hb1.block _ hyl).trans HY.out)
      have HD1 := Lib.hid hb1
      clear hb1
      go_wp2_with fail
      clear y0 y1 y2
      refine (HIB.out w1 HD1.out).mono ?_
      rintro e w2 ⟨rfl, hb2⟩
      have HB2 := Lib.hid (HB1.out.trans (hb2.mono HB1.out.size))
      clear hb2
      go_wp2_with fail
      go_ret
      exact ⟨by rw [HR.out]; try rfl, HB2.out⟩
    | true =>
      have HR : Hid (safeP a b = (firstP a b).isNone) := Lib.hid (by unfold safeP; rw [qa, qb, Bool.true_and, Bool.true_and])
      have hrl := row_len (firstP a b)
      rw [qa] at HIA
      rw [qb] at HIB
      clear qa qb hz hz'
      obtain ⟨x0, x1, x2, -⟩ := three_cells HX.out
      go_enter Try.func15, Try.ntmps15
      go_wp2_with fail
      clear x0 x1 x2
      generalize (w.alloc (.cells #[.int .i64 a.st, .slice p np cp, .slice q n c] 27)).alloc (.cells #[.int .i64 b.st, .slice p' np' cp', .slice q' n' c'] 27) = W0 at *
      refine (HIA.out W0 (Below.refl _ _)).mono ?_
      rintro e w1 ⟨rfl, hb1⟩
      have HB1 := Lib.hid (HB.out.trans (hb1.mono HB.out.size))
      obtain ⟨y0, y1, y2, -⟩ := three_cells ((hb1.block _ hyl).trans HY.out)
      have HD1 := Lib.hid hb1
      clear hb1
      go_wp2_with fail
      clear y0 y1 y2
      refine (HIB.out w1 HD1.out).mono ?_
      rintro e w2 ⟨rfl, hb2⟩
      have HB2 := Lib.hid (HB1.out.trans (hb2.mono HB1.out.size))
      have HD2 := Lib.hid (HD1.out.trans (hb2.mono HD1.out.size))
      clear hb2
      obtain ⟨x0, x1, x2, -⟩ := three_cells ((HD2.out.block _ hxl).trans HX.out)
      obtain ⟨y0, y1, y2, -⟩ := three_cells ((HD2.out.block _ hyl).trans HY.out)
      go_wp2_with fail
      clear x0 x1 x2 y0 y1 y2
      refine (HFT.out w2 HD2.out).mono ?_
      rintro e w3 ⟨g3, n3, c3, rfl, ho, hb3⟩
      have hln := ho.len
      rw [hln] at hrl
      have HB3 := Lib.hid (HB2.out.trans (hb3.mono HB2.out.size))
      clear ho hb3
      go_wp2_with fail
      go_ret
      exact ⟨by rw [HR.out]; try rfl, HB3.out⟩
end Go.Proofs.Ytckmgbobkffabaa
