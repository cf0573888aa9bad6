/- A list of fields is drawn. -/
import Derived.Test.YtjmabidahofbbaaDrF0
import Derived.Test.YtjmabidahofbbaaFieldT
namespace Go.Proofs.Ytjmabidahofbbaa
open Go.ChangeShapes Go.WideShapes Go.ChangeAt Go.RowKit
set_option linter.unusedVariables false

theorem set_below {B : Nat} (w : World) (k o : Nat) (v : Value) (h : B ≤ k) : Below B w (w.setCell ⟨k, o, none⟩ v) := (Below.refl B w).setCell h v
theorem ownf_lit {t : TypeId} (w : World) (x : Fd) {B : Nat} (hB : B ≤ w.heap.size) : OwnF t (w.alloc (.cells #[.int .i64 x.kind, .int .i64 x.max, .int .i64 x.cond, .int .i64 x.is] t)) B (some ⟨w.heap.size, 0, none⟩) 1 1 [x] :=
  ⟨rfl, World.ownsRow_lit w #[.int .i64 x.kind, .int .i64 x.max, .int .i64 x.cond, .int .i64 x.is] 1 hB (by unfold maxLen; omega) rfl⟩
theorem fd_cells (x : Fd) : ∀ u ∈ x.enc, u.oneCell' = true := by
  intro u hu
  simp only [Fd.enc, List.mem_cons, List.not_mem_nil, or_false] at hu
  rcases hu with rfl | rfl | rfl | rfl <;> rfl
/-- What a draw of a list of fields leaves. -/
def DrewF (b : Nat) (a : Option Addr) (n c : Nat) (most : Nat) (w : World) (e : Ending) (w' : World) : Prop :=
  ∃ (a' : Option Addr) (m c' : Nat) (l : List Fd), e = .returned (.slice a' m c') ∧ OwnF 70 w' w.heap.size a' m c' l ∧ m ≤ most ∧ FM l ∧ Drawn b a n c w w'
/-- The first one's Max is small, and each is an integer of 64 bits. -/
def First (l : List Fd) : Prop := (∃ x t, l = x :: t ∧ 1 ≤ x.max ∧ x.max ≤ 9) ∧ FM l
theorem First.app {l m : List Fd} (h : First l) (hm : FM m) : First (l ++ m) := by
  obtain ⟨⟨x, t, rfl, h1⟩, h2⟩ := h
  refine ⟨⟨x, t ++ m, rfl, h1⟩, fun y hy => ?_⟩
  rcases List.mem_append.1 hy with q | q
  · exact h2 y q
  · exact hm y q
theorem fm_one {x : Fd} (h0 : 0 ≤ x.max) (h1 : x.max ≤ 1000) : FM [x] := fun y hy => by
  rw [List.mem_singleton.1 hy]
  exact ⟨by omega, by omega⟩

set_option maxHeartbeats 4000000 in
set_option maxRecDepth 100000 in
theorem drawF_any (b : Nat) (a : Option Addr) (n c : Nat) (w : World) (hc : Curs w b a n c) :
    Calls Try.prog 48 #[.pointer (some ⟨b, 0, none⟩)] w fun e w' => ∃ (g m c' : Nat) (l : List Fd), e = .returned (.slice (some ⟨g, 0, none⟩) m c') ∧ OwnF 70 w' w.heap.size (some ⟨g, 0, none⟩) m c' l ∧ 1 ≤ m ∧ m ≤ 5 ∧ FM l ∧ Drawn b a n c w w' := by
  have HC := Lib.hid hc
  have hb := hc.lt
  clear hc
  obtain ⟨i0, hi, hz0, hz1, hz2⟩ := info_parts infoFieldS
  have HI := Lib.hid (And.intro hi (And.intro hz0 (And.intro hz1 hz2)))
  clear hi hz0 hz1 hz2
  go_enter Try.func48, Try.ntmps48
  go_wp2_with fail
  refine (below_any b a n c 9 (by omega) (by omega) w HC.out).mono ?_
  rintro e w1 ⟨x, hx0, hx1, rfl, hd1⟩
  have hs1 := hd1.2.size
  have HO1 : Hid (OwnF 70 (w1.alloc (.cells #[.int .i64 1, .int .i64 (1 + x), .int .i64 (-1), .int .i64 0] 70)) w.heap.size (some ⟨w1.heap.size, 0, none⟩) 1 1 [⟨1, 1 + x, -1, 0⟩]) := Lib.hid (ownf_lit w1 ⟨1, 1 + x, -1, 0⟩ hs1)
  have HF1 : Hid (First [⟨1, 1 + x, -1, 0⟩]) := Lib.hid ⟨⟨_, _, rfl, by dsimp only; omega, by dsimp only; omega⟩, fm_one (by dsimp only; omega) (by dsimp only; omega)⟩
  have HD1 : Hid (Drawn b a n c w (w1.alloc (.cells #[.int .i64 1, .int .i64 (1 + x), .int .i64 (-1), .int .i64 0] 70))) := Lib.hid (hd1.same (alloc_same _ _))
  clear hd1
  go_wp2_with fail
  refine (below_any b a n c 5 (by omega) (by omega) _ HD1.out.1).mono ?_
  rintro e w2 ⟨y, hy0, hy1, rfl, hd2⟩
  have HO2 := Lib.hid (HO1.out.only hd2.2 HO1.out.span (Or.inl hb))
  have HD2 := Lib.hid (HD1.out.trans hd2)
  clear hd2 HO1 HD1
  go_wp2_with fail
  go_loopw [3, 4] (fun s i wr => ∃ (j g m c' : Nat) (l : List Fd), m + j ≤ 5 ∧ 1 ≤ m ∧ i = .int .i64 j ∧ s = .slice (some ⟨g, 0, none⟩) m c' ∧ OwnF 70 wr w.heap.size (some ⟨g, 0, none⟩) m c' l ∧ First l ∧ Drawn b a n c w wr) (fun _ i _ => (intOf i).toNat)
  case atStart => exact ⟨y.toNat, w1.heap.size, 1, 1, _, by omega, Nat.le_refl _, by rw [Int.toNat_of_nonneg hy0], rfl, HO2.out, HF1.out, HD2.out⟩
  case round =>
    obtain ⟨j, g, m, c', l, hmj, hm1, rfl, rfl, ho, hfi, hd⟩ := hrel
    have HO := Lib.hid ho
    have HF := Lib.hid hfi
    have HD := Lib.hid hd
    have hgw := ho.span _ rfl
    dsimp only at hgw
    clear ho hd
    obtain ⟨⟨z, tl, hl, hz1, hz2⟩, _⟩ := hfi
    have HL := Lib.hid hl
    clear hl
    by_cases hj : 1 ≤ j
    · have e1 : decide ((0 : Int) < (j : Int)) = true := decide_eq_true (by omega)
      go_wp2_with fail
      refine (below_any b a n c 3 (by omega) (by omega) wr HD.out.1).mono ?_
      rintro e v1 ⟨x1, p0, p1, rfl, hd1⟩
      go_wp2_with fail
      refine (below_any b a n c 5 (by omega) (by omega) v1 hd1.1).mono ?_
      rintro e v2 ⟨x2, q0, q1, rfl, hd2⟩
      have HD2' := Lib.hid (hd1.trans hd2)
      have hsz := HD2'.out.2.size
      have hsw := HD.out.2.size
      clear hd1 hd2
      go_wp2_with fail
      refine (once_any b a n c 3 (by omega) (by omega) _ (HD2'.out.1.same (alloc_same _ _))).mono ?_
      rintro e v4 ⟨tb, rfl, hd4⟩
      have hL : v4.heap[v2.heap.size]? = some (.cells #[.int .i64 (1 + x1), .int .i64 (1 + x2), .int .i64 (-1), .int .i64 0] 70 (0, 0)) := by
        rw [hd4.2.block _ (by simp) (by omega)]
        exact heap_alloc_new _ _
      have HX4 : Hid (Only b wr v4) := Lib.hid ((HD2'.out.2.alloc _).trans hd4.2)
      have HC4 : Hid (Curs v4 b a n c) := Lib.hid hd4.1
      have hs4 : v2.heap.size < v4.heap.size := by have := hd4.2.size; simp at this; omega
      clear hd4
      cases tb with
      | false =>
        have c0 := (block_cell hL 0).trans rfl
        have c1 := (block_cell hL 1).trans rfl
        have c2 := (block_cell hL 2).trans rfl
        have c3 := (block_cell hL 3).trans rfl
        have HO4 := Lib.hid (HO.out.only HX4.out HO.out.span (Or.inl hb))
        have HN := Lib.hid (items_new Fd.enc_len v4 ⟨1 + x1, 1 + x2, -1, 0⟩ 70)
        clear hL
        go_wp2_with (at_builtin; refine wpl_appI _ Fd.enc_len (by omega) fd_cells rfl (.tmp 35) (.tmp 37) 24 rfl 70 i0 (.agg #[.int .i64 0, .int .i64 0, .int .i64 0, .int .i64 0]) 32 Try.underlying24 HI.out.1 HI.out.2.1 HI.out.2.2.1 HI.out.2.2.2 rfl rfl (HO4.out.alloc _) rfl HN.out (by omega) ?c4 ?c5 ?_)
        case c4 => omega
        case c5 => simp; omega
        intro a5 c5 w5 ho5 hb5
        obtain ⟨g5, rfl, hg5, hg6⟩ := ho5.head (by omega)
        have HO5 := Lib.hid ho5
        have HD5 : Hid (Drawn b a n c w w5) := Lib.hid ((HD.out.trans ⟨HC4.out, HX4.out⟩).under HC.out ((alloc_same v4 _).mono (by omega) |>.trans hb5) (Nat.le_refl _))
        clear ho5 hb5 c0 c1 c2 c3
        go_wp2
        go_roundw
        case rel => exact ⟨j - 1, g5, m + 1, c5, _, by omega, by omega, by go_num, by simp, HO5.out, HF.out.app (fm_one (by dsimp only; omega) (by dsimp only; omega)), HD5.out⟩
        case measure => simp [intOf]; omega
      | true =>
        have c0 := (block_cell hL 0).trans rfl
        have c1 := (block_cell hL 1).trans rfl
        have c2 := (block_cell hL 2).trans rfl
        have c3 := (block_cell hL 3).trans rfl
        have f2 := block_frozen hL 2
        have HB5 : Hid (Below v2.heap.size v4 (v4.setCell ⟨v2.heap.size, 2, none⟩ (.int .i64 0))) := Lib.hid (set_below _ _ _ _ (Nat.le_refl _))
        have HX5 := Lib.hid (HX4.out.under HB5.out hsz)
        have HC5 := Lib.hid (HC4.out.under HD2'.out.1 HB5.out (Nat.le_refl _))
        have hL5 := heap_setCell_same v4 v2.heap.size 2 _ _ (.int .i64 0) hL
        have HO4 := HO.out.only HX4.out HO.out.span (Or.inl hb)
        have HO5 := Lib.hid (HO.out.only HX5.out HO.out.span (Or.inl hb))
        have hz4 : v4.cell? ⟨g, 1, none⟩ = some (.int .i64 z.max) := by
          obtain ⟨b', o', e, hcc⟩ := (HO4.items Fd.enc_len).cell 0 z (by rw [HL.out]; rfl)
          cases e
          exact hcc 1 _ rfl
        have hz5 : (v4.setCell ⟨v2.heap.size, 2, none⟩ (.int .i64 0)).cell? ⟨g, 1, none⟩ = some (.int .i64 z.max) := by
          obtain ⟨b', o', e, hcc⟩ := (HO5.out.items Fd.enc_len).cell 0 z (by rw [HL.out]; rfl)
          cases e
          exact hcc 1 _ rfl
        have H5 := Lib.hid hL5
        clear hL HO4 hL5
        go_wp2_with fail
        refine (below_any b a n c (z.max + 1) (by omega) (by omega) _ HC5.out).mono ?_
        rintro e v6 ⟨x3, r0, r1, rfl, hd6⟩
        have hL6 : v6.heap[v2.heap.size]? = some (.cells #[.int .i64 (1 + x1), .int .i64 (1 + x2), .int .i64 0, .int .i64 0] 70 (0, 0)) := by
          rw [hd6.2.block _ (by simp; omega) (by omega)]
          exact H5.out
        have hs6 : v4.heap.size ≤ v6.heap.size := by have := hd6.2.size; simp at this; omega
        have HX6 := Lib.hid (HX5.out.trans hd6.2)
        have HC6 := Lib.hid hd6.1
        clear hd6 c0 c1 c2 c3 f2 hz4 hz5
        have c3 := (block_cell hL6 3).trans rfl
        have f3 := block_frozen hL6 3
        have HB7 : Hid (Below v2.heap.size v6 (v6.setCell ⟨v2.heap.size, 3, none⟩ (.int .i64 x3))) := Lib.hid (set_below _ _ _ _ (Nat.le_refl _))
        have HX7 := Lib.hid (HX6.out.under HB7.out hsz)
        have HC7 := Lib.hid (HC6.out.under HD2'.out.1 HB7.out (Nat.le_refl _))
        have hL7 := heap_setCell_same v6 v2.heap.size 3 _ _ (.int .i64 x3) hL6
        have HO7 := Lib.hid (HO.out.only HX7.out HO.out.span (Or.inl hb))
        have d0 := (block_cell hL7 0).trans rfl
        have d1 := (block_cell hL7 1).trans rfl
        have d2 := (block_cell hL7 2).trans rfl
        have d3 := (block_cell hL7 3).trans rfl
        have e0 := (block_cell hL6 0).trans rfl
        have e1 := (block_cell hL6 1).trans rfl
        have e2 := (block_cell hL6 2).trans rfl
        have hn := items_new Fd.enc_len (v6.setCell ⟨v2.heap.size, 3, none⟩ (.int .i64 x3)) ⟨1 + x1, 1 + x2, 0, x3⟩ 70
        have hs7 : (v6.setCell ⟨v2.heap.size, 3, none⟩ (.int .i64 x3)).heap.size = v6.heap.size := by simp
        rw [hs7] at hn
        have HN := Lib.hid hn
        clear hn
        clear hL6 hL7
        go_wp2_with (at_builtin; refine wpl_appI _ Fd.enc_len (by omega) fd_cells rfl (.tmp 35) (.tmp 37) 24 rfl 70 i0 (.agg #[.int .i64 0, .int .i64 0, .int .i64 0, .int .i64 0]) 32 Try.underlying24 HI.out.1 HI.out.2.1 HI.out.2.2.1 HI.out.2.2.2 rfl rfl (HO7.out.alloc _) rfl HN.out (by omega) ?c4 ?c5 ?_)
        case c4 => omega
        case c5 => simp; omega
        intro a8 c8 w8 ho8 hb8
        obtain ⟨g8, rfl, hg8, hg9⟩ := ho8.head (by omega)
        have HO8 := Lib.hid ho8
        have HD8 : Hid (Drawn b a n c w w8) := Lib.hid ((HD.out.trans ⟨HC7.out, HX7.out⟩).under HC.out ((alloc_same _ _).mono (by rw [hs7]; omega) |>.trans hb8) (Nat.le_refl _))
        clear ho8 hb8 d0 d1 d2 d3 c3 e0 e1 e2
        go_wp2
        go_roundw
        case rel => exact ⟨j - 1, g8, m + 1, c8, _, by omega, by omega, by go_num, by simp, HO8.out, HF.out.app (fm_one (by dsimp only; omega) (by dsimp only; omega)), HD8.out⟩
        case measure => simp [intOf]; omega
    · obtain rfl : j = 0 := by omega
      go_wp2
      go_ret
      exact ⟨g, m, c', l, rfl, HO.out, hm1, by omega, HF.out.2, HD.out⟩
end Go.Proofs.Ytjmabidahofbbaa
