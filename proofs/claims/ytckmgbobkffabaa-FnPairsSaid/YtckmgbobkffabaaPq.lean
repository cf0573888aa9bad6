/- The pairs of states that are reached, or none where a machine is not valid: by the program. -/
import Derived.Test.YtckmgbobkffabaaPo
namespace Go.Proofs.Ytckmgbobkffabaa
open Go.ChangeShapes Go.WideShapes Go.ChangeAt Go.RowKit
set_option linter.unusedVariables false
set_option linter.unusedSimpArgs false

theorem empty_rows (w : World) : OwnR (w.alloc (.cells #[] 31)).heap.size (w.alloc (.cells #[] 31)) w.heap.size w.heap.size 0 0 [] := by
  have h := OwnRs.nil (w := w) (Nat.le_refl w.heap.size)
  rw [← World.size_alloc w (.cells #[] 31)] at h
  exact ⟨[], h⟩
set_option maxHeartbeats 2000000 in
set_option maxRecDepth 100000 in
theorem pairsOf_any {va vb : Value} {a b : Mac} {w : World} (ha : MacW w va a) (hb : MacW w vb b) (hz : ∀ z ∈ a.moves, Wmv z) (hz' : ∀ z ∈ b.moves, Wmv z) (hn : a.parts ≤ 10000000) (hn' : b.parts ≤ 10000000) :
    Calls Try.prog 17 #[va, vb] w (MadeR w.heap.size (pairsP a b) w) := by
  obtain ⟨p, np, cp, q, n, c, rfl⟩ := ha.shape
  obtain ⟨p', np', cp', q', n', c', rfl⟩ := hb.shape
  obtain ⟨hB, hX, hY, hS⟩ := twice w #[.int .i64 a.st, .slice p np cp, .slice q n c] #[.int .i64 b.st, .slice p' np' cp', .slice q' n' c'] 27 27
  have HB := Lib.hid hB
  have HX := Lib.hid hX
  have HY := Lib.hid hY
  have HMA := Lib.hid (ha.same hB)
  have HMB := Lib.hid (hb.same hB)
  clear hB hX hY hS ha hb
  have HIA := Lib.hid (fun W' hb' => isMachine_any (HMA.out.same (w' := W') hb'))
  have HIB := Lib.hid (fun W' hb' => isMachine_any (HMB.out.same (w' := W') hb'))
  unfold MadeR
  cases qa : isMac a with
  | false =>
    have HR : Hid (pairsP a b = []) := Lib.hid (by unfold pairsP; rw [qa]; rfl)
    rw [qa] at HIA
    clear qa
    obtain ⟨x0, x1, x2, -⟩ := three_cells HX.out
    go_enter Try.func17, Try.ntmps17
    go_wp2_with fail
    clear x0 x1 x2
    generalize (w.alloc (.cells #[.int .i64 a.st, .slice p np cp, .slice q n c] 27)).alloc (.cells #[.int .i64 b.st, .slice p' np' cp', .slice q' n' c'] 27) = W0 at *
    refine (HIA.out W0 (Below.refl _ _)).mono ?_
    rintro e w1 ⟨rfl, hb1⟩
    have HB1 := Lib.hid (HB.out.trans (hb1.mono HB.out.size))
    clear hb1
    go_wp2_with fail
    go_ret
    have hs1 := HB1.out.size
    refine ⟨_, _, _, rfl, ?_, HB1.out.alloc hs1 _⟩
    rw [HR.out]
    exact (empty_rows w1).lower hs1
  | true =>
    cases qb : isMac b with
    | false =>
      have HR : Hid (pairsP a b = []) := Lib.hid (by unfold pairsP; rw [qb, Bool.and_false]; rfl)
      rw [qa] at HIA
      rw [qb] at HIB
      clear qa qb
      obtain ⟨x0, x1, x2, -⟩ := three_cells HX.out
      go_enter Try.func17, Try.ntmps17
      go_wp2_with fail
      clear x0 x1 x2
      generalize (w.alloc (.cells #[.int .i64 a.st, .slice p np cp, .slice q n c] 27)).alloc (.cells #[.int .i64 b.st, .slice p' np' cp', .slice q' n' c'] 27) = W0 at *
      refine (HIA.out W0 (Below.refl _ _)).mono ?_
      rintro e w1 ⟨rfl, hb1⟩
      have HB1 := Lib.hid (HB.out.trans (hb1.mono HB.out.size))
      obtain ⟨y0, y1, y2, -⟩ := three_cells ((hb1.block _ (Array.getElem?_eq_some_iff.1 HY.out).1).trans HY.out)
      have HD1 := Lib.hid hb1
      clear hb1
      go_wp2_with fail
      clear y0 y1 y2
      refine (HIB.out w1 HD1.out).mono ?_
      rintro e w2 ⟨rfl, hb2⟩
      have HB2 := Lib.hid (HB1.out.trans (hb2.mono HB1.out.size))
      clear hb2
      go_wp2_with fail
      go_ret
      have hs2 := HB2.out.size
      refine ⟨_, _, _, rfl, ?_, HB2.out.alloc hs2 _⟩
      rw [HR.out]
      exact (empty_rows w2).lower hs2
    | true =>
      have HZ := Lib.hid (And.intro (And.intro hz hz') (And.intro qa qb))
      rw [qa] at HIA
      rw [qb] at HIB
      clear qa qb hz hz'
      obtain ⟨x0, x1, x2, -⟩ := three_cells HX.out
      go_enter Try.func17, Try.ntmps17
      go_wp2_with fail
      clear x0 x1 x2
      generalize (w.alloc (.cells #[.int .i64 a.st, .slice p np cp, .slice q n c] 27)).alloc (.cells #[.int .i64 b.st, .slice p' np' cp', .slice q' n' c'] 27) = W0 at *
      refine (HIA.out W0 (Below.refl _ _)).mono ?_
      rintro e w1 ⟨rfl, hb1⟩
      have HB1 := Lib.hid (HB.out.trans (hb1.mono HB.out.size))
      obtain ⟨y0, y1, y2, -⟩ := three_cells ((hb1.block _ (Array.getElem?_eq_some_iff.1 HY.out).1).trans HY.out)
      have HD1 := Lib.hid hb1
      clear hb1
      go_wp2_with fail
      clear y0 y1 y2
      refine (HIB.out w1 HD1.out).mono ?_
      rintro e w2 ⟨rfl, hb2⟩
      have HB2 := Lib.hid (HB1.out.trans (hb2.mono HB1.out.size))
      have HD2 := Lib.hid (HD1.out.trans (hb2.mono HD1.out.size))
      clear hb2
      go_wp2_with fail
      refine (reached_any (HMA.out.same HD2.out) (HMB.out.same HD2.out) HZ.out.1.1 HZ.out.1.2 HZ.out.2.1 HZ.out.2.2 hn hn' ((HD2.out.block _ (Array.getElem?_eq_some_iff.1 HX.out).1).trans HX.out) ((HD2.out.block _ (Array.getElem?_eq_some_iff.1 HY.out).1).trans HY.out)).mono ?_
      rintro e w3 ⟨g, m, d, rfl, ho, hb3⟩
      have HO := Lib.hid (ho.lower HB2.out.size)
      have HB3 := Lib.hid (HB2.out.trans (hb3.mono HB2.out.size))
      clear ho hb3
      go_wp2_with fail
      go_ret
      exact ⟨_, _, _, rfl, HO.out, HB3.out⟩
end Go.Proofs.Ytckmgbobkffabaa
