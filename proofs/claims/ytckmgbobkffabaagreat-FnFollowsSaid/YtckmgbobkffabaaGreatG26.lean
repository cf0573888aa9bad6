/- The pairs of states that are reached, or none where a machine is not valid: by the program. What is wrong in a pair of states: by the program. -/
import Derived.Test.YtckmgbobkffabaaGreatG25
import Derived.Test.YtckmgbobkffabaaGreatG24
import Derived.BigRegion
import Derived.Test.YtckmgbobkffabaaGreatG1
namespace Go.Proofs.YtckmgbobkffabaaGreat
open Go.ChangeShapes Go.WideShapes Go.ChangeAt Go.RowKit
set_option linter.unusedVariables false
set_option linter.unusedSimpArgs false

theorem empty_rows (w : World) : OwnR (w.alloc (.cells #[] 36)).heap.size (w.alloc (.cells #[] 36)) w.heap.size w.heap.size 0 0 [] := by
 have h := OwnRs.nil (w := w) (Nat.le_refl w.heap.size)
 rw [← World.size_alloc w (.cells #[] 36)] at h
 exact ⟨[], h⟩
set_option maxHeartbeats 2000000 in
set_option maxRecDepth 100000 in
theorem pairsOf_any {va vb : Value} {a b : Mac} {w : World} (ha : MacW w va a) (hb : MacW w vb b) (hz : ∀ z ∈ a.moves, Wmv z) (hz' : ∀ z ∈ b.moves, Wmv z) (hn : a.parts ≤ 10000000) (hn' : b.parts ≤ 10000000) :
  Calls Tryz.prog 47 #[va, vb] w (MadeR w.heap.size (pairsP a b) w) := by
 obtain ⟨p, np, cp, q, n, c, rfl⟩ := ha.shape
 obtain ⟨p', np', cp', q', n', c', rfl⟩ := hb.shape
 obtain ⟨hB, hX, hY, hS⟩ := twice w #[.int .i64 a.st, .slice p np cp, .slice q n c] #[.int .i64 b.st, .slice p' np' cp', .slice q' n' c'] 27 27
 have HB := Lib.hid hB
 have HX := Lib.hid hX
 have HY := Lib.hid hY
 have HMA := Lib.hid (ha.same hB)
 have HMB := Lib.hid (hb.same hB)
 clear hB hX hY hS ha hb
 have HIA := Lib.hid (fun W' hb' => isMachine_any (HMA.out.same (w' := W') hb'))
 have HIB := Lib.hid (fun W' hb' => isMachine_any (HMB.out.same (w' := W') hb'))
 unfold MadeR
 cases qa : isMac a with
 | false =>
  have HR : Hid (pairsP a b = []) := Lib.hid (by unfold pairsP; rw [qa]; rfl)
  rw [qa] at HIA
  clear qa
  obtain ⟨x0, x1, x2, -⟩ := three_cells HX.out
  go_enter Tryz.func47, Tryz.ntmps47
  go_wp2_with fail
  clear x0 x1 x2
  generalize (w.alloc (.cells #[.int .i64 a.st, .slice p np cp, .slice q n c] 27)).alloc (.cells #[.int .i64 b.st, .slice p' np' cp', .slice q' n' c'] 27) = W0 at *
  refine (HIA.out W0 (Below.refl _ _)).mono ?_
  rintro e w1 ⟨rfl, hb1⟩
  have HB1 := Lib.hid (HB.out.trans (hb1.mono HB.out.size))
  clear hb1
  go_wp2_with fail
  go_ret
  have hs1 := HB1.out.size
  refine ⟨_, _, _, rfl, ?_, HB1.out.alloc hs1 _⟩
  rw [HR.out]
  exact (empty_rows w1).lower hs1
 | true =>
  cases qb : isMac b with
  | false =>
   have HR : Hid (pairsP a b = []) := Lib.hid (by unfold pairsP; rw [qb, Bool.and_false]; rfl)
   rw [qa] at HIA
   rw [qb] at HIB
   clear qa qb
   obtain ⟨x0, x1, x2, -⟩ := three_cells HX.out
   go_enter Tryz.func47, Tryz.ntmps47
   go_wp2_with fail
   clear x0 x1 x2
   generalize (w.alloc (.cells #[.int .i64 a.st, .slice p np cp, .slice q n c] 27)).alloc (.cells #[.int .i64 b.st, .slice p' np' cp', .slice q' n' c'] 27) = W0 at *
   refine (HIA.out W0 (Below.refl _ _)).mono ?_
   rintro e w1 ⟨rfl, hb1⟩
   have HB1 := Lib.hid (HB.out.trans (hb1.mono HB.out.size))
   obtain ⟨y0, y1, y2, -⟩ := three_cells ((hb1.block _ (Array.getElem?_eq_some_iff.1 HY.out).1).trans HY.out)
   have HD1 := Lib.hid hb1
   clear hb1
   go_wp2_with fail
   clear y0 y1 y2
   refine (HIB.out w1 HD1.out).mono ?_
   rintro e w2 ⟨rfl, hb2⟩
   have HB2 := Lib.hid (HB1.out.trans (hb2.mono HB1.out.size))
   clear hb2
   go_wp2_with fail
   go_ret
   have hs2 := HB2.out.size
   refine ⟨_, _, _, rfl, ?_, HB2.out.alloc hs2 _⟩
   rw [HR.out]
   exact (empty_rows w2).lower hs2
  | true =>
   have HZ := Lib.hid (And.intro (And.intro hz hz') (And.intro qa qb))
   rw [qa] at HIA
   rw [qb] at HIB
   clear qa qb hz hz'
   obtain ⟨x0, x1, x2, -⟩ := three_cells HX.out
   go_enter Tryz.func47, Tryz.ntmps47
   go_wp2_with fail
   clear x0 x1 x2
   generalize (w.alloc (.cells #[.int .i64 a.st, .slice p np cp, .slice q n c] 27)).alloc (.cells #[.int .i64 b.st, .slice p' np' cp', .slice q' n' c'] 27) = W0 at *
   refine (HIA.out W0 (Below.refl _ _)).mono ?_
   rintro e w1 ⟨rfl, hb1⟩
   have HB1 := Lib.hid (HB.out.trans (hb1.mono HB.out.size))
   obtain ⟨y0, y1, y2, -⟩ := three_cells ((hb1.block _ (Array.getElem?_eq_some_iff.1 HY.out).1).trans HY.out)
   have HD1 := Lib.hid hb1
   clear hb1
   go_wp2_with fail
   clear y0 y1 y2
   refine (HIB.out w1 HD1.out).mono ?_
   rintro e w2 ⟨rfl, hb2⟩
   have HB2 := Lib.hid (HB1.out.trans (hb2.mono HB1.out.size))
   have HD2 := Lib.hid (HD1.out.trans (hb2.mono HD1.out.size))
   clear hb2
   go_wp2_with fail
   refine (reached_any (HMA.out.same HD2.out) (HMB.out.same HD2.out) HZ.out.1.1 HZ.out.1.2 HZ.out.2.1 HZ.out.2.2 hn hn' ((HD2.out.block _ (Array.getElem?_eq_some_iff.1 HX.out).1).trans HX.out) ((HD2.out.block _ (Array.getElem?_eq_some_iff.1 HY.out).1).trans HY.out)).mono ?_
   rintro e w3 ⟨g, m, d, rfl, ho, hb3⟩
   have HO := Lib.hid (ho.lower HB2.out.size)
   have HB3 := Lib.hid (HB2.out.trans (hb3.mono HB2.out.size))
   clear ho hb3
   go_wp2_with fail
   go_ret
   exact ⟨_, _, _, rfl, HO.out, HB3.out⟩
end Go.Proofs.YtckmgbobkffabaaGreat
namespace Go.Proofs.YtckmgbobkffabaaGreat
open Go.ChangeShapes Go.WideShapes Go.ChangeAt Go.RowKit
set_option linter.unusedVariables false
set_option linter.unusedSimpArgs false

set_option maxHeartbeats 8000000 in
set_option maxRecDepth 100000 in
theorem troubleAt_any {v v' : Value} {a b : Mac} (x y : Int) {w : World} (h : MacW w v a) (h' : MacW w v' b) (hz : ∀ z ∈ a.moves, Wmv z) (hz' : ∀ z ∈ b.moves, Wmv z) (hn : a.parts ≤ 10000000) (hn' : b.parts ≤ 10000000) :
  Calls Tryz.prog 48 #[v, v', .int .i64 x, .int .i64 y] w (Told (.int .i64 (troubleP a b x y)) w) := by
 obtain ⟨p, np, cp, q, n, c, rfl⟩ := h.shape
 obtain ⟨p', np', cp', q', n', c', rfl⟩ := h'.shape
 obtain ⟨hB, hX, hY, hS⟩ := twice w #[.int .i64 a.st, .slice p np cp, .slice q n c] #[.int .i64 b.st, .slice p' np' cp', .slice q' n' c'] 27 27
 have HB := Lib.hid hB
 have HX0 := Lib.hid hX
 have HY0 := Lib.hid hY
 have HX := Lib.hid (three_cells hX)
 have HY := Lib.hid (three_cells hY)
 have HMA := Lib.hid h
 have HMB := Lib.hid h'
 have HZA := Lib.hid hz
 have HZB := Lib.hid hz'
 have HU1 : Hid (∀ W', Below w.heap.size w W' → Calls Tryz.prog 70 #[.agg #[.int .i64 a.st, .slice p np cp, .slice q n c, .int .i64 x], .agg #[.int .i64 b.st, .slice p' np' cp', .slice q' n' c', .int .i64 y]] W' (Told (.bool (unreadP a b x y)) W')) := Lib.hid fun W' hb => by
  have q := sendsUnread_any x y (h.same hb) (h'.same hb) hz hz' (by omega) (by omega)
  rw [party_eq, party_eq] at q
  exact q
 have HU2 : Hid (∀ W', Below w.heap.size w W' → Calls Tryz.prog 70 #[.agg #[.int .i64 b.st, .slice p' np' cp', .slice q' n' c', .int .i64 y], .agg #[.int .i64 a.st, .slice p np cp, .slice q n c, .int .i64 x]] W' (Told (.bool (unreadP b a y x)) W')) := Lib.hid fun W' hb => by
  have q := sendsUnread_any y x (h'.same hb) (h.same hb) hz' hz (by omega) (by omega)
  rw [party_eq, party_eq] at q
  exact q
 have HNX : Hid (∀ W', Below w.heap.size w W' → Calls Tryz.prog 69 #[.agg #[.int .i64 a.st, .slice p np cp, .slice q n c], .agg #[.int .i64 b.st, .slice p' np' cp', .slice q' n' c'], .int .i64 x, .int .i64 y] W' (MadeR W'.heap.size (nextP a b x y) W')) := Lib.hid fun W' hb => nextPairs_any x y (h.same hb) (h'.same hb) hz hz' hn hn'
 have HS1 : Hid (∀ W', Below w.heap.size w W' → Calls Tryz.prog 59 #[.agg #[.int .i64 a.st, .slice p np cp, .slice q n c, .int .i64 x]] W' (Told (.bool (stopP a x)) W')) := Lib.hid fun W' hb => by
  have q := mayStop_any x (h.same hb)
  rw [party_eq] at q
  exact q
 have HS2 : Hid (∀ W', Below w.heap.size w W' → Calls Tryz.prog 59 #[.agg #[.int .i64 b.st, .slice p' np' cp', .slice q' n' c', .int .i64 y]] W' (Told (.bool (stopP b y)) W')) := Lib.hid fun W' hb => by
  have q := mayStop_any y (h'.same hb)
  rw [party_eq] at q
  exact q
 clear hB hX hY hS h h' hz hz'
 go_enter Tryz.func48, Tryz.ntmps48
 obtain ⟨x0, x1, x2, -⟩ := HX.out
 obtain ⟨y0, y1, y2, -⟩ := HY.out
 go_wp2_with fail
 clear x0 x1 x2 y0 y1 y2
 generalize hW0 : ((w.alloc (.cells #[.int .i64 a.st, .slice p np cp, .slice q n c] 27)).alloc (.cells #[.int .i64 b.st, .slice p' np' cp', .slice q' n' c'] 27)) = W0 at *
 clear hW0
 refine wp_region_held_drew (S := fun w9 => Below W0.heap.size W0 w9) (by kernel_rfl) (Below.refl _ W0).drew (fun hHeld => ?_)
 refine wpAnyH_take (i := 0) (v := ?v1) (by simp only [get9]; rfl) (by kernel_rfl) (by kernel_rfl) (by kernel_rfl) (by exact fun _ _ _ h => h) (Or.inl ⟨by rfl, fun w9 hS9 => ?hy1⟩) hHeld ?rest1
 case hy1 =>
  dsimp only at hS9
  have q0 := cell_stay HX.out.1 hS9
  have q1 := cell_stay HX.out.2.1 hS9
  have q2 := cell_stay HX.out.2.2.1 hS9
  have q3 := cell_stay HY.out.1 hS9
  have q4 := cell_stay HY.out.2.1 hS9
  have q5 := cell_stay HY.out.2.2.1 hS9
  go_simp
  try with_reducible rfl
 try simp only [Act.put, set9]
 refine wpAnyH_take (i := 1) (v := ?v2) (by simp only [get9]; rfl) (by kernel_rfl) (by kernel_rfl) (by kernel_rfl) (by exact fun _ _ _ h => h) (Or.inl ⟨by rfl, fun w9 hS9 => ?hy2⟩) hHeld ?rest2
 case hy2 =>
  dsimp only at hS9
  have q0 := cell_stay HX.out.1 hS9
  have q1 := cell_stay HX.out.2.1 hS9
  have q2 := cell_stay HX.out.2.2.1 hS9
  have q3 := cell_stay HY.out.1 hS9
  have q4 := cell_stay HY.out.2.1 hS9
  have q5 := cell_stay HY.out.2.2.1 hS9
  go_simp
  try with_reducible rfl
 try simp only [Act.put, set9]
 refine wpAnyH_take (i := 2) (v := ?v3) (by simp only [get9]; rfl) (by kernel_rfl) (by kernel_rfl) (by kernel_rfl) (by exact fun _ _ _ h => h) (Or.inl ⟨by rfl, fun w9 hS9 => ?hy3⟩) hHeld ?rest3
 case hy3 =>
  dsimp only at hS9
  have q0 := cell_stay HX.out.1 hS9
  have q1 := cell_stay HX.out.2.1 hS9
  have q2 := cell_stay HX.out.2.2.1 hS9
  have q3 := cell_stay HY.out.1 hS9
  have q4 := cell_stay HY.out.2.1 hS9
  have q5 := cell_stay HY.out.2.2.1 hS9
  go_simp
  try with_reducible rfl
 try simp only [Act.put, set9]
 refine wpAnyH_take (i := 3) (v := ?v4) (by simp only [get9]; rfl) (by kernel_rfl) (by kernel_rfl) (by kernel_rfl) (by exact fun _ _ _ h => h) (Or.inl ⟨by rfl, fun w9 hS9 => ?hy4⟩) hHeld ?rest4
 case hy4 =>
  dsimp only at hS9
  have q0 := cell_stay HX.out.1 hS9
  have q1 := cell_stay HX.out.2.1 hS9
  have q2 := cell_stay HX.out.2.2.1 hS9
  have q3 := cell_stay HY.out.1 hS9
  have q4 := cell_stay HY.out.2.1 hS9
  have q5 := cell_stay HY.out.2.2.1 hS9
  go_simp
  try with_reducible rfl
 try simp only [Act.put, set9]
 refine wpAnyH_take (i := 4) (v := ?v5) (by simp only [get9]; rfl) (by kernel_rfl) (by kernel_rfl) (by kernel_rfl) (by exact fun _ _ _ h => h) (Or.inl ⟨by rfl, fun w9 hS9 => ?hy5⟩) hHeld ?rest5
 case hy5 =>
  dsimp only at hS9
  have q0 := cell_stay HX.out.1 hS9
  have q1 := cell_stay HX.out.2.1 hS9
  have q2 := cell_stay HX.out.2.2.1 hS9
  have q3 := cell_stay HY.out.1 hS9
  have q4 := cell_stay HY.out.2.1 hS9
  have q5 := cell_stay HY.out.2.2.1 hS9
  go_simp
  try with_reducible rfl
 try simp only [Act.put, set9]
 refine wpAnyH_take (i := 5) (v := ?v6) (by simp only [get9]; rfl) (by kernel_rfl) (by kernel_rfl) (by kernel_rfl) (by exact fun _ _ _ h => h) (Or.inl ⟨by rfl, fun w9 hS9 => ?hy6⟩) hHeld ?rest6
 case hy6 =>
  dsimp only at hS9
  have q0 := cell_stay HX.out.1 hS9
  have q1 := cell_stay HX.out.2.1 hS9
  have q2 := cell_stay HX.out.2.2.1 hS9
  have q3 := cell_stay HY.out.1 hS9
  have q4 := cell_stay HY.out.2.1 hS9
  have q5 := cell_stay HY.out.2.2.1 hS9
  go_simp
  try with_reducible rfl
 try simp only [Act.put, set9]
 refine wpAnyH_ready (rs := [6, 7]) (by kernel_rfl) (by simp) (AllReadyH.cons (by simp only [get9]; rfl) (fun K hK => ?_) (AllReadyH.cons (by simp only [get9]; rfl) (fun K hK => ?_) AllReadyH.nil))
 ·skip
  go_simp
  refine hK.out _ _ ((Below.refl _ W0).drew.alloc (Nat.le_refl _) _) (fun hHeld => ?_)
  clear hK K
  try simp only [Act.put, set9]
  refine wpAnyH_ready (rs := [7]) (by kernel_rfl) (by simp) (AllReadyH.cons (by simp only [get9]; rfl) (fun K hK => ?_) AllReadyH.nil)
  go_simp
  refine hK.out _ _ (((Below.refl _ W0).drew.alloc (Nat.le_refl _) _).alloc (by simp) _) (fun hHeld => ?_)
  clear hK K
  try simp only [Act.put, set9]
  refine wpAnyH_ready (rs := [8]) (by kernel_rfl) (by simp) (AllReadyH.cons (by simp only [get9]; rfl) (fun K hK => ?_) AllReadyH.nil)
  go_simp
  refine hK.out _ _ (((Below.refl _ W0).alloc (Nat.le_refl _) _).alloc (by simp) _).drew (fun hHeld => ?_)
  clear hK K
  try simp only [Act.put, set9]
  refine wpAnyH_ready (rs := [9]) (by kernel_rfl) (by simp) (AllReadyH.cons (by simp only [get9]; rfl) (fun K hK => ?_) AllReadyH.nil)
  go_simp
  refine hK.out _ _ (((Below.refl _ W0).alloc (Nat.le_refl _) _).alloc (by simp) _).drew (fun hHeld => ?_)
  clear hK K
  try simp only [Act.put, set9]
  refine wpAnyH_done (by kernel_rfl) ?_ _
  obtain ⟨hB9, hX9, hY9, hS9⟩ := twice W0 #[.int .i64 a.st, .slice p np cp, .slice q n c, .int .i64 x] #[.int .i64 b.st, .slice p' np' cp', .slice q' n' c', .int .i64 y] 76 76
  have HGA : Hid (((W0.alloc (.cells #[.int .i64 a.st, .slice p np cp, .slice q n c, .int .i64 x] 76)).alloc (.cells #[.int .i64 b.st, .slice p' np' cp', .slice q' n' c', .int .i64 y] 76)).drew.heap[W0.heap.size]? = some (.cells #[.int .i64 a.st, .slice p np cp, .slice q n c, .int .i64 x] 76 (0, 0))) := Lib.hid hX9
  have HGB : Hid (((W0.alloc (.cells #[.int .i64 a.st, .slice p np cp, .slice q n c, .int .i64 x] 76)).alloc (.cells #[.int .i64 b.st, .slice p' np' cp', .slice q' n' c', .int .i64 y] 76)).drew.heap[W0.heap.size + 1]? = some (.cells #[.int .i64 b.st, .slice p' np' cp', .slice q' n' c', .int .i64 y] 76 (0, 0))) := Lib.hid hY9
  have HBF : Hid (Below W0.heap.size W0 ((W0.alloc (.cells #[.int .i64 a.st, .slice p np cp, .slice q n c, .int .i64 x] 76)).alloc (.cells #[.int .i64 b.st, .slice p' np' cp', .slice q' n' c', .int .i64 y] 76)).drew) := Lib.hid hB9.drew
  clear hB9 hX9 hY9 hS9
  generalize hW4 : ((W0.alloc (.cells #[.int .i64 a.st, .slice p np cp, .slice q n c, .int .i64 x] 76)).alloc (.cells #[.int .i64 b.st, .slice p' np' cp', .slice q' n' c', .int .i64 y] 76)).drew = W4 at *
  clear hW4
  obtain ⟨GB, hG2⟩ : ∃ r, r = W0.heap.size + 1 := ⟨_, rfl⟩
  obtain ⟨GA, hG1⟩ : ∃ r, r = W0.heap.size := ⟨_, rfl⟩
  rw [← hG2, ← hG1]
  replace HGA : Hid (W4.heap[GA]? = some (.cells #[.int .i64 a.st, .slice p np cp, .slice q n c, .int .i64 x] 76 (0, 0))) := Lib.hid (by rw [hG1]; exact HGA.out)
  replace HGB : Hid (W4.heap[GB]? = some (.cells #[.int .i64 b.st, .slice p' np' cp', .slice q' n' c', .int .i64 y] 76 (0, 0))) := Lib.hid (by rw [hG2]; exact HGB.out)
  clear hG1 hG2
  have HBW4 : Hid (Below w.heap.size w W4) := Lib.hid (HB.out.trans (HBF.out.mono HB.out.size))
  have HF4 : Hid (Below W4.heap.size W4 W4) := Lib.hid (Below.refl _ _)
  have HF04 : Hid (Below W0.heap.size W0 W4) := Lib.hid HBF.out
  have ha0 : GA < W4.heap.size := (Array.getElem?_eq_some_iff.1 HGA.out).1
  have hb0 : GB < W4.heap.size := (Array.getElem?_eq_some_iff.1 HGB.out).1
  have hw0 : w.heap.size + 1 < W0.heap.size := (Array.getElem?_eq_some_iff.1 HY0.out).1
  have hge : w.heap.size ≤ W4.heap.size := HBW4.out.size
  obtain ⟨⟨a0, a1, a2, a3⟩, _⟩ := party_cells ((HF4.out.block GA ha0).trans HGA.out)
  obtain ⟨⟨b0, b1, b2, b3⟩, _⟩ := party_cells ((HF4.out.block GB hb0).trans HGB.out)
  obtain ⟨x0, x1, x2, -⟩ := three_cells ((HF04.out.block w.heap.size (by omega)).trans HX0.out)
  obtain ⟨y0, y1, y2, -⟩ := three_cells ((HF04.out.block (w.heap.size + 1) (by omega)).trans HY0.out)
  go_wp2_with fail
  clear a0 a1 a2 a3 b0 b1 b2 b3 x0 x1 x2 y0 y1 y2
  refine (HU1.out W4 HBW4.out).mono ?_
  rintro e w5 ⟨rfl, hb⟩
  have HBW5 : Hid (Below w.heap.size w w5) := Lib.hid (HBW4.out.trans (hb.mono HBW4.out.size))
  have HF5 : Hid (Below W4.heap.size W4 w5) := Lib.hid (HF4.out.trans (hb.mono HF4.out.size))
  have HF05 : Hid (Below W0.heap.size W0 w5) := Lib.hid (HF04.out.trans (hb.mono HF04.out.size))
  clear hb
  cases u1 : unreadP a b x y with
  | true =>
   obtain ⟨⟨a0, a1, a2, a3⟩, _⟩ := party_cells ((HF5.out.block GA ha0).trans HGA.out)
   obtain ⟨⟨b0, b1, b2, b3⟩, _⟩ := party_cells ((HF5.out.block GB hb0).trans HGB.out)
   obtain ⟨x0, x1, x2, -⟩ := three_cells ((HF05.out.block w.heap.size (by omega)).trans HX0.out)
   obtain ⟨y0, y1, y2, -⟩ := three_cells ((HF05.out.block (w.heap.size + 1) (by omega)).trans HY0.out)
   have HT : Hid (troubleP a b x y = 1) := Lib.hid (by unfold troubleP; rw [u1, Bool.true_or, if_pos rfl])
   clear HX HY
   go_wp2_with fail
   go_ret
   exact ⟨by rw [HT.out]; try rfl, HBW5.out⟩
  | false =>
   obtain ⟨⟨a0, a1, a2, a3⟩, _⟩ := party_cells ((HF5.out.block GA ha0).trans HGA.out)
   obtain ⟨⟨b0, b1, b2, b3⟩, _⟩ := party_cells ((HF5.out.block GB hb0).trans HGB.out)
   obtain ⟨x0, x1, x2, -⟩ := three_cells ((HF05.out.block w.heap.size (by omega)).trans HX0.out)
   obtain ⟨y0, y1, y2, -⟩ := three_cells ((HF05.out.block (w.heap.size + 1) (by omega)).trans HY0.out)
   go_wp2_with fail
   clear a0 a1 a2 a3 b0 b1 b2 b3 x0 x1 x2 y0 y1 y2
   refine (HU2.out w5 HBW5.out).mono ?_
   rintro e w6 ⟨rfl, hb⟩
   have HBW6 : Hid (Below w.heap.size w w6) := Lib.hid (HBW5.out.trans (hb.mono HBW5.out.size))
   have HF6 : Hid (Below W4.heap.size W4 w6) := Lib.hid (HF5.out.trans (hb.mono HF5.out.size))
   have HF06 : Hid (Below W0.heap.size W0 w6) := Lib.hid (HF05.out.trans (hb.mono HF05.out.size))
   clear hb
   cases u2 : unreadP b a y x with
   | true =>
    obtain ⟨⟨a0, a1, a2, a3⟩, _⟩ := party_cells ((HF6.out.block GA ha0).trans HGA.out)
    obtain ⟨⟨b0, b1, b2, b3⟩, _⟩ := party_cells ((HF6.out.block GB hb0).trans HGB.out)
    obtain ⟨x0, x1, x2, -⟩ := three_cells ((HF06.out.block w.heap.size (by omega)).trans HX0.out)
    obtain ⟨y0, y1, y2, -⟩ := three_cells ((HF06.out.block (w.heap.size + 1) (by omega)).trans HY0.out)
    have HT : Hid (troubleP a b x y = 1) := Lib.hid (by unfold troubleP; rw [u1, u2, Bool.false_or, if_pos rfl])
    clear HX HY
    go_wp2_with fail
    go_ret
    exact ⟨by rw [HT.out]; try rfl, HBW6.out⟩
   | false =>
    obtain ⟨⟨a0, a1, a2, a3⟩, _⟩ := party_cells ((HF6.out.block GA ha0).trans HGA.out)
    obtain ⟨⟨b0, b1, b2, b3⟩, _⟩ := party_cells ((HF6.out.block GB hb0).trans HGB.out)
    obtain ⟨x0, x1, x2, -⟩ := three_cells ((HF06.out.block w.heap.size (by omega)).trans HX0.out)
    obtain ⟨y0, y1, y2, -⟩ := three_cells ((HF06.out.block (w.heap.size + 1) (by omega)).trans HY0.out)
    go_wp2_with fail
    clear a0 a1 a2 a3 b0 b1 b2 b3 x0 x1 x2 y0 y1 y2
    refine (HNX.out w6 HBW6.out).mono ?_
    rintro e w7 ⟨g, k, d, rfl, ho, hb⟩
    have HBW7 : Hid (Below w.heap.size w w7) := Lib.hid (HBW6.out.trans (hb.mono HBW6.out.size))
    have HF7 : Hid (Below W4.heap.size W4 w7) := Lib.hid (HF6.out.trans (hb.mono HF6.out.size))
    have HF07 : Hid (Below W0.heap.size W0 w7) := Lib.hid (HF06.out.trans (hb.mono HF06.out.size))
    have hk : (nextP a b x y).length = k := ho.count
    clear ho
    clear hb
    cases nz : (nextP a b x y).isEmpty with
    | false =>
     have hk0 : ((k : Int) == 0) = false := by
      rw [beq_eq_false_iff_ne]
      intro e
      have : (nextP a b x y) = [] := List.eq_nil_of_length_eq_zero (by omega)
      rw [this] at nz
      cases nz
     obtain ⟨⟨a0, a1, a2, a3⟩, _⟩ := party_cells ((HF7.out.block GA ha0).trans HGA.out)
     obtain ⟨⟨b0, b1, b2, b3⟩, _⟩ := party_cells ((HF7.out.block GB hb0).trans HGB.out)
     obtain ⟨x0, x1, x2, -⟩ := three_cells ((HF07.out.block w.heap.size (by omega)).trans HX0.out)
     obtain ⟨y0, y1, y2, -⟩ := three_cells ((HF07.out.block (w.heap.size + 1) (by omega)).trans HY0.out)
     have HT : Hid (troubleP a b x y = 0) := Lib.hid (by unfold troubleP; rw [u1, u2, Bool.false_or, if_neg (by decide), nz, Bool.false_and, if_neg (by decide)])
     clear HX HY
     go_wp2_with fail
     go_ret
     exact ⟨by rw [HT.out]; try rfl, HBW7.out⟩
    | true =>
     obtain rfl : k = 0 := by
      rw [← hk, List.isEmpty_iff.1 nz]
      rfl
     obtain ⟨⟨a0, a1, a2, a3⟩, _⟩ := party_cells ((HF7.out.block GA ha0).trans HGA.out)
     obtain ⟨⟨b0, b1, b2, b3⟩, _⟩ := party_cells ((HF7.out.block GB hb0).trans HGB.out)
     obtain ⟨x0, x1, x2, -⟩ := three_cells ((HF07.out.block w.heap.size (by omega)).trans HX0.out)
     obtain ⟨y0, y1, y2, -⟩ := three_cells ((HF07.out.block (w.heap.size + 1) (by omega)).trans HY0.out)
     go_wp2_with fail
     clear a0 a1 a2 a3 b0 b1 b2 b3 x0 x1 x2 y0 y1 y2
     refine (HS1.out w7 HBW7.out).mono ?_
     rintro e w8 ⟨rfl, hb⟩
     have HBW8 : Hid (Below w.heap.size w w8) := Lib.hid (HBW7.out.trans (hb.mono HBW7.out.size))
     have HF8 : Hid (Below W4.heap.size W4 w8) := Lib.hid (HF7.out.trans (hb.mono HF7.out.size))
     have HF08 : Hid (Below W0.heap.size W0 w8) := Lib.hid (HF07.out.trans (hb.mono HF07.out.size))
     clear hb
     cases s1 : stopP a x with
     | false =>
      obtain ⟨⟨a0, a1, a2, a3⟩, _⟩ := party_cells ((HF8.out.block GA ha0).trans HGA.out)
      obtain ⟨⟨b0, b1, b2, b3⟩, _⟩ := party_cells ((HF8.out.block GB hb0).trans HGB.out)
      obtain ⟨x0, x1, x2, -⟩ := three_cells ((HF08.out.block w.heap.size (by omega)).trans HX0.out)
      obtain ⟨y0, y1, y2, -⟩ := three_cells ((HF08.out.block (w.heap.size + 1) (by omega)).trans HY0.out)
      have HT : Hid (troubleP a b x y = 2) := Lib.hid (by unfold troubleP; rw [u1, u2, Bool.false_or, if_neg (by decide), nz, s1, Bool.false_and, Bool.not_false, Bool.true_and, if_pos rfl])
      clear HX HY
      go_wp2_with fail
      go_ret
      exact ⟨by rw [HT.out]; try rfl, HBW8.out⟩
     | true =>
      obtain ⟨⟨a0, a1, a2, a3⟩, _⟩ := party_cells ((HF8.out.block GA ha0).trans HGA.out)
      obtain ⟨⟨b0, b1, b2, b3⟩, _⟩ := party_cells ((HF8.out.block GB hb0).trans HGB.out)
      obtain ⟨x0, x1, x2, -⟩ := three_cells ((HF08.out.block w.heap.size (by omega)).trans HX0.out)
      obtain ⟨y0, y1, y2, -⟩ := three_cells ((HF08.out.block (w.heap.size + 1) (by omega)).trans HY0.out)
      go_wp2_with fail
      clear a0 a1 a2 a3 b0 b1 b2 b3 x0 x1 x2 y0 y1 y2
      refine (HS2.out w8 HBW8.out).mono ?_
      rintro e w9 ⟨rfl, hb⟩
      have HBW9 : Hid (Below w.heap.size w w9) := Lib.hid (HBW8.out.trans (hb.mono HBW8.out.size))
      have HF9 : Hid (Below W4.heap.size W4 w9) := Lib.hid (HF8.out.trans (hb.mono HF8.out.size))
      have HF09 : Hid (Below W0.heap.size W0 w9) := Lib.hid (HF08.out.trans (hb.mono HF08.out.size))
      clear hb
      cases s2 : stopP b y with
      | false =>
       obtain ⟨⟨a0, a1, a2, a3⟩, _⟩ := party_cells ((HF9.out.block GA ha0).trans HGA.out)
       obtain ⟨⟨b0, b1, b2, b3⟩, _⟩ := party_cells ((HF9.out.block GB hb0).trans HGB.out)
       obtain ⟨x0, x1, x2, -⟩ := three_cells ((HF09.out.block w.heap.size (by omega)).trans HX0.out)
       obtain ⟨y0, y1, y2, -⟩ := three_cells ((HF09.out.block (w.heap.size + 1) (by omega)).trans HY0.out)
       have HT : Hid (troubleP a b x y = 2) := Lib.hid (by unfold troubleP; rw [u1, u2, Bool.false_or, if_neg (by decide), nz, s1, s2]; rfl)
       clear HX HY
       go_wp2_with fail
       go_ret
       exact ⟨by rw [HT.out]; try rfl, HBW9.out⟩
      | true =>
       obtain ⟨⟨a0, a1, a2, a3⟩, _⟩ := party_cells ((HF9.out.block GA ha0).trans HGA.out)
       obtain ⟨⟨b0, b1, b2, b3⟩, _⟩ := party_cells ((HF9.out.block GB hb0).trans HGB.out)
       obtain ⟨x0, x1, x2, -⟩ := three_cells ((HF09.out.block w.heap.size (by omega)).trans HX0.out)
       obtain ⟨y0, y1, y2, -⟩ := three_cells ((HF09.out.block (w.heap.size + 1) (by omega)).trans HY0.out)
       have HT : Hid (troubleP a b x y = 0) := Lib.hid (by unfold troubleP; rw [u1, u2, Bool.false_or, if_neg (by decide), nz, s1, s2]; rfl)
       clear HX HY
       go_wp2_with fail
       go_ret
       exact ⟨by rw [HT.out]; try rfl, HBW9.out⟩
 ·skip
  go_simp
  refine hK.out _ _ ((Below.refl _ W0).drew.alloc (Nat.le_refl _) _) (fun hHeld => ?_)
  clear hK K
  try simp only [Act.put, set9]
  refine wpAnyH_ready (rs := [6]) (by kernel_rfl) (by simp) (AllReadyH.cons (by simp only [get9]; rfl) (fun K hK => ?_) AllReadyH.nil)
  go_simp
  refine hK.out _ _ (((Below.refl _ W0).drew.alloc (Nat.le_refl _) _).alloc (by simp) _) (fun hHeld => ?_)
  clear hK K
  try simp only [Act.put, set9]
  refine wpAnyH_ready (rs := [8]) (by kernel_rfl) (by simp) (AllReadyH.cons (by simp only [get9]; rfl) (fun K hK => ?_) AllReadyH.nil)
  go_simp
  refine hK.out _ _ (((Below.refl _ W0).alloc (Nat.le_refl _) _).alloc (by simp) _).drew (fun hHeld => ?_)
  clear hK K
  try simp only [Act.put, set9]
  refine wpAnyH_ready (rs := [9]) (by kernel_rfl) (by simp) (AllReadyH.cons (by simp only [get9]; rfl) (fun K hK => ?_) AllReadyH.nil)
  go_simp
  refine hK.out _ _ (((Below.refl _ W0).alloc (Nat.le_refl _) _).alloc (by simp) _).drew (fun hHeld => ?_)
  clear hK K
  try simp only [Act.put, set9]
  refine wpAnyH_done (by kernel_rfl) ?_ _
  obtain ⟨hB9, hX9, hY9, hS9⟩ := twice W0 #[.int .i64 b.st, .slice p' np' cp', .slice q' n' c', .int .i64 y] #[.int .i64 a.st, .slice p np cp, .slice q n c, .int .i64 x] 76 76
  have HGB : Hid (((W0.alloc (.cells #[.int .i64 b.st, .slice p' np' cp', .slice q' n' c', .int .i64 y] 76)).alloc (.cells #[.int .i64 a.st, .slice p np cp, .slice q n c, .int .i64 x] 76)).drew.heap[W0.heap.size]? = some (.cells #[.int .i64 b.st, .slice p' np' cp', .slice q' n' c', .int .i64 y] 76 (0, 0))) := Lib.hid hX9
  have HGA : Hid (((W0.alloc (.cells #[.int .i64 b.st, .slice p' np' cp', .slice q' n' c', .int .i64 y] 76)).alloc (.cells #[.int .i64 a.st, .slice p np cp, .slice q n c, .int .i64 x] 76)).drew.heap[W0.heap.size + 1]? = some (.cells #[.int .i64 a.st, .slice p np cp, .slice q n c, .int .i64 x] 76 (0, 0))) := Lib.hid hY9
  have HBF : Hid (Below W0.heap.size W0 ((W0.alloc (.cells #[.int .i64 b.st, .slice p' np' cp', .slice q' n' c', .int .i64 y] 76)).alloc (.cells #[.int .i64 a.st, .slice p np cp, .slice q n c, .int .i64 x] 76)).drew) := Lib.hid hB9.drew
  clear hB9 hX9 hY9 hS9
  generalize hW4 : ((W0.alloc (.cells #[.int .i64 b.st, .slice p' np' cp', .slice q' n' c', .int .i64 y] 76)).alloc (.cells #[.int .i64 a.st, .slice p np cp, .slice q n c, .int .i64 x] 76)).drew = W4 at *
  clear hW4
  obtain ⟨GA, hG2⟩ : ∃ r, r = W0.heap.size + 1 := ⟨_, rfl⟩
  obtain ⟨GB, hG1⟩ : ∃ r, r = W0.heap.size := ⟨_, rfl⟩
  rw [← hG2, ← hG1]
  replace HGB : Hid (W4.heap[GB]? = some (.cells #[.int .i64 b.st, .slice p' np' cp', .slice q' n' c', .int .i64 y] 76 (0, 0))) := Lib.hid (by rw [hG1]; exact HGB.out)
  replace HGA : Hid (W4.heap[GA]? = some (.cells #[.int .i64 a.st, .slice p np cp, .slice q n c, .int .i64 x] 76 (0, 0))) := Lib.hid (by rw [hG2]; exact HGA.out)
  clear hG1 hG2
  have HBW4 : Hid (Below w.heap.size w W4) := Lib.hid (HB.out.trans (HBF.out.mono HB.out.size))
  have HF4 : Hid (Below W4.heap.size W4 W4) := Lib.hid (Below.refl _ _)
  have HF04 : Hid (Below W0.heap.size W0 W4) := Lib.hid HBF.out
  have ha0 : GA < W4.heap.size := (Array.getElem?_eq_some_iff.1 HGA.out).1
  have hb0 : GB < W4.heap.size := (Array.getElem?_eq_some_iff.1 HGB.out).1
  have hw0 : w.heap.size + 1 < W0.heap.size := (Array.getElem?_eq_some_iff.1 HY0.out).1
  have hge : w.heap.size ≤ W4.heap.size := HBW4.out.size
  obtain ⟨⟨a0, a1, a2, a3⟩, _⟩ := party_cells ((HF4.out.block GA ha0).trans HGA.out)
  obtain ⟨⟨b0, b1, b2, b3⟩, _⟩ := party_cells ((HF4.out.block GB hb0).trans HGB.out)
  obtain ⟨x0, x1, x2, -⟩ := three_cells ((HF04.out.block w.heap.size (by omega)).trans HX0.out)
  obtain ⟨y0, y1, y2, -⟩ := three_cells ((HF04.out.block (w.heap.size + 1) (by omega)).trans HY0.out)
  go_wp2_with fail
  clear a0 a1 a2 a3 b0 b1 b2 b3 x0 x1 x2 y0 y1 y2
  refine (HU1.out W4 HBW4.out).mono ?_
  rintro e w5 ⟨rfl, hb⟩
  have HBW5 : Hid (Below w.heap.size w w5) := Lib.hid (HBW4.out.trans (hb.mono HBW4.out.size))
  have HF5 : Hid (Below W4.heap.size W4 w5) := Lib.hid (HF4.out.trans (hb.mono HF4.out.size))
  have HF05 : Hid (Below W0.heap.size W0 w5) := Lib.hid (HF04.out.trans (hb.mono HF04.out.size))
  clear hb
  cases u1 : unreadP a b x y with
  | true =>
   obtain ⟨⟨a0, a1, a2, a3⟩, _⟩ := party_cells ((HF5.out.block GA ha0).trans HGA.out)
   obtain ⟨⟨b0, b1, b2, b3⟩, _⟩ := party_cells ((HF5.out.block GB hb0).trans HGB.out)
   obtain ⟨x0, x1, x2, -⟩ := three_cells ((HF05.out.block w.heap.size (by omega)).trans HX0.out)
   obtain ⟨y0, y1, y2, -⟩ := three_cells ((HF05.out.block (w.heap.size + 1) (by omega)).trans HY0.out)
   have HT : Hid (troubleP a b x y = 1) := Lib.hid (by unfold troubleP; rw [u1, Bool.true_or, if_pos rfl])
   clear HX HY
   go_wp2_with fail
   go_ret
   exact ⟨by rw [HT.out]; try rfl, HBW5.out⟩
  | false =>
   obtain ⟨⟨a0, a1, a2, a3⟩, _⟩ := party_cells ((HF5.out.block GA ha0).trans HGA.out)
   obtain ⟨⟨b0, b1, b2, b3⟩, _⟩ := party_cells ((HF5.out.block GB hb0).trans HGB.out)
   obtain ⟨x0, x1, x2, -⟩ := three_cells ((HF05.out.block w.heap.size (by omega)).trans HX0.out)
   obtain ⟨y0, y1, y2, -⟩ := three_cells ((HF05.out.block (w.heap.size + 1) (by omega)).trans HY0.out)
   go_wp2_with fail
   clear a0 a1 a2 a3 b0 b1 b2 b3 x0 x1 x2 y0 y1 y2
   refine (HU2.out w5 HBW5.out).mono ?_
   rintro e w6 ⟨rfl, hb⟩
   have HBW6 : Hid (Below w.heap.size w w6) := Lib.hid (HBW5.out.trans (hb.mono HBW5.out.size))
   have HF6 : Hid (Below W4.heap.size W4 w6) := Lib.hid (HF5.out.trans (hb.mono HF5.out.size))
   have HF06 : Hid (Below W0.heap.size W0 w6) := Lib.hid (HF05.out.trans (hb.mono HF05.out.size))
   clear hb
   cases u2 : unreadP b a y x with
   | true =>
    obtain ⟨⟨a0, a1, a2, a3⟩, _⟩ := party_cells ((HF6.out.block GA ha0).trans HGA.out)
    obtain ⟨⟨b0, b1, b2, b3⟩, _⟩ := party_cells ((HF6.out.block GB hb0).trans HGB.out)
    obtain ⟨x0, x1, x2, -⟩ := three_cells ((HF06.out.block w.heap.size (by omega)).trans HX0.out)
    obtain ⟨y0, y1, y2, -⟩ := three_cells ((HF06.out.block (w.heap.size + 1) (by omega)).trans HY0.out)
    have HT : Hid (troubleP a b x y = 1) := Lib.hid (by unfold troubleP; rw [u1, u2, Bool.false_or, if_pos rfl])
    clear HX HY
    go_wp2_with fail
    go_ret
    exact ⟨by rw [HT.out]; try rfl, HBW6.out⟩
   | false =>
    obtain ⟨⟨a0, a1, a2, a3⟩, _⟩ := party_cells ((HF6.out.block GA ha0).trans HGA.out)
    obtain ⟨⟨b0, b1, b2, b3⟩, _⟩ := party_cells ((HF6.out.block GB hb0).trans HGB.out)
    obtain ⟨x0, x1, x2, -⟩ := three_cells ((HF06.out.block w.heap.size (by omega)).trans HX0.out)
    obtain ⟨y0, y1, y2, -⟩ := three_cells ((HF06.out.block (w.heap.size + 1) (by omega)).trans HY0.out)
    go_wp2_with fail
    clear a0 a1 a2 a3 b0 b1 b2 b3 x0 x1 x2 y0 y1 y2
    refine (HNX.out w6 HBW6.out).mono ?_
    rintro e w7 ⟨g, k, d, rfl, ho, hb⟩
    have HBW7 : Hid (Below w.heap.size w w7) := Lib.hid (HBW6.out.trans (hb.mono HBW6.out.size))
    have HF7 : Hid (Below W4.heap.size W4 w7) := Lib.hid (HF6.out.trans (hb.mono HF6.out.size))
    have HF07 : Hid (Below W0.heap.size W0 w7) := Lib.hid (HF06.out.trans (hb.mono HF06.out.size))
    have hk : (nextP a b x y).length = k := ho.count
    clear ho
    clear hb
    cases nz : (nextP a b x y).isEmpty with
    | false =>
     have hk0 : ((k : Int) == 0) = false := by
      rw [beq_eq_false_iff_ne]
      intro e
      have : (nextP a b x y) = [] := List.eq_nil_of_length_eq_zero (by omega)
      rw [this] at nz
      cases nz
     obtain ⟨⟨a0, a1, a2, a3⟩, _⟩ := party_cells ((HF7.out.block GA ha0).trans HGA.out)
     obtain ⟨⟨b0, b1, b2, b3⟩, _⟩ := party_cells ((HF7.out.block GB hb0).trans HGB.out)
     obtain ⟨x0, x1, x2, -⟩ := three_cells ((HF07.out.block w.heap.size (by omega)).trans HX0.out)
     obtain ⟨y0, y1, y2, -⟩ := three_cells ((HF07.out.block (w.heap.size + 1) (by omega)).trans HY0.out)
     have HT : Hid (troubleP a b x y = 0) := Lib.hid (by unfold troubleP; rw [u1, u2, Bool.false_or, if_neg (by decide), nz, Bool.false_and, if_neg (by decide)])
     clear HX HY
     go_wp2_with fail
     go_ret
     exact ⟨by rw [HT.out]; try rfl, HBW7.out⟩
    | true =>
     obtain rfl : k = 0 := by
      rw [← hk, List.isEmpty_iff.1 nz]
      rfl
     obtain ⟨⟨a0, a1, a2, a3⟩, _⟩ := party_cells ((HF7.out.block GA ha0).trans HGA.out)
     obtain ⟨⟨b0, b1, b2, b3⟩, _⟩ := party_cells ((HF7.out.block GB hb0).trans HGB.out)
     obtain ⟨x0, x1, x2, -⟩ := three_cells ((HF07.out.block w.heap.size (by omega)).trans HX0.out)
     obtain ⟨y0, y1, y2, -⟩ := three_cells ((HF07.out.block (w.heap.size + 1) (by omega)).trans HY0.out)
     go_wp2_with fail
     clear a0 a1 a2 a3 b0 b1 b2 b3 x0 x1 x2 y0 y1 y2
     refine (HS1.out w7 HBW7.out).mono ?_
     rintro e w8 ⟨rfl, hb⟩
     have HBW8 : Hid (Below w.heap.size w w8) := Lib.hid (HBW7.out.trans (hb.mono HBW7.out.size))
     have HF8 : Hid (Below W4.heap.size W4 w8) := Lib.hid (HF7.out.trans (hb.mono HF7.out.size))
     have HF08 : Hid (Below W0.heap.size W0 w8) := Lib.hid (HF07.out.trans (hb.mono HF07.out.size))
     clear hb
     cases s1 : stopP a x with
     | false =>
      obtain ⟨⟨a0, a1, a2, a3⟩, _⟩ := party_cells ((HF8.out.block GA ha0).trans HGA.out)
      obtain ⟨⟨b0, b1, b2, b3⟩, _⟩ := party_cells ((HF8.out.block GB hb0).trans HGB.out)
      obtain ⟨x0, x1, x2, -⟩ := three_cells ((HF08.out.block w.heap.size (by omega)).trans HX0.out)
      obtain ⟨y0, y1, y2, -⟩ := three_cells ((HF08.out.block (w.heap.size + 1) (by omega)).trans HY0.out)
      have HT : Hid (troubleP a b x y = 2) := Lib.hid (by unfold troubleP; rw [u1, u2, Bool.false_or, if_neg (by decide), nz, s1, Bool.false_and, Bool.not_false, Bool.true_and, if_pos rfl])
      clear HX HY
      go_wp2_with fail
      go_ret
      exact ⟨by rw [HT.out]; try rfl, HBW8.out⟩
     | true =>
      obtain ⟨⟨a0, a1, a2, a3⟩, _⟩ := party_cells ((HF8.out.block GA ha0).trans HGA.out)
      obtain ⟨⟨b0, b1, b2, b3⟩, _⟩ := party_cells ((HF8.out.block GB hb0).trans HGB.out)
      obtain ⟨x0, x1, x2, -⟩ := three_cells ((HF08.out.block w.heap.size (by omega)).trans HX0.out)
      obtain ⟨y0, y1, y2, -⟩ := three_cells ((HF08.out.block (w.heap.size + 1) (by omega)).trans HY0.out)
      go_wp2_with fail
      clear a0 a1 a2 a3 b0 b1 b2 b3 x0 x1 x2 y0 y1 y2
      refine (HS2.out w8 HBW8.out).mono ?_
      rintro e w9 ⟨rfl, hb⟩
      have HBW9 : Hid (Below w.heap.size w w9) := Lib.hid (HBW8.out.trans (hb.mono HBW8.out.size))
      have HF9 : Hid (Below W4.heap.size W4 w9) := Lib.hid (HF8.out.trans (hb.mono HF8.out.size))
      have HF09 : Hid (Below W0.heap.size W0 w9) := Lib.hid (HF08.out.trans (hb.mono HF08.out.size))
      clear hb
      cases s2 : stopP b y with
      | false =>
       obtain ⟨⟨a0, a1, a2, a3⟩, _⟩ := party_cells ((HF9.out.block GA ha0).trans HGA.out)
       obtain ⟨⟨b0, b1, b2, b3⟩, _⟩ := party_cells ((HF9.out.block GB hb0).trans HGB.out)
       obtain ⟨x0, x1, x2, -⟩ := three_cells ((HF09.out.block w.heap.size (by omega)).trans HX0.out)
       obtain ⟨y0, y1, y2, -⟩ := three_cells ((HF09.out.block (w.heap.size + 1) (by omega)).trans HY0.out)
       have HT : Hid (troubleP a b x y = 2) := Lib.hid (by unfold troubleP; rw [u1, u2, Bool.false_or, if_neg (by decide), nz, s1, s2]; rfl)
       clear HX HY
       go_wp2_with fail
       go_ret
       exact ⟨by rw [HT.out]; try rfl, HBW9.out⟩
      | true =>
       obtain ⟨⟨a0, a1, a2, a3⟩, _⟩ := party_cells ((HF9.out.block GA ha0).trans HGA.out)
       obtain ⟨⟨b0, b1, b2, b3⟩, _⟩ := party_cells ((HF9.out.block GB hb0).trans HGB.out)
       obtain ⟨x0, x1, x2, -⟩ := three_cells ((HF09.out.block w.heap.size (by omega)).trans HX0.out)
       obtain ⟨y0, y1, y2, -⟩ := three_cells ((HF09.out.block (w.heap.size + 1) (by omega)).trans HY0.out)
       have HT : Hid (troubleP a b x y = 0) := Lib.hid (by unfold troubleP; rw [u1, u2, Bool.false_or, if_neg (by decide), nz, s1, s2]; rfl)
       clear HX HY
       go_wp2_with fail
       go_ret
       exact ⟨by rw [HT.out]; try rfl, HBW9.out⟩

end Go.Proofs.YtckmgbobkffabaaGreat
