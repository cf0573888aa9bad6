/- Machines are compared: by the program. -/
import Derived.Test.YtaaogdhkehkamaaMac
import Derived.Test.YtaaogdhkehkamaaIntI
import Derived.Deep.QuietTactic
import Derived.BigQuiet
import Derived.RegionTactic
import Derived.StillTailTactics
import Derived.Handy
namespace Go.Proofs.Ytaaogdhkehkamaa
open Go.ChangeShapes Go.WideShapes Go.ChangeAt Go.RowKit
set_option linter.unusedVariables false

theorem neMv {x y : Mv} (h : x ≠ y) : (x.frm == y.frm) = false ∨ (x.frm = y.frm ∧ (x.send == y.send) = false) ∨ (x.frm = y.frm ∧ x.send = y.send ∧ (x.msg == y.msg) = false) ∨ (x.frm = y.frm ∧ x.send = y.send ∧ x.msg = y.msg ∧ (x.to == y.to) = false) := by
  obtain ⟨a1, a2, a3, a4⟩ := x
  obtain ⟨b1, b2, b3, b4⟩ := y
  simp only [ne_eq, Mv.mk.injEq, not_and] at h
  simp only [beq_eq_false_iff_ne, ne_eq]
  by_cases h1 : a1 = b1
  · by_cases h2 : a2 = b2
    · by_cases h3 : a3 = b3
      · exact Or.inr (Or.inr (Or.inr ⟨h1, h2, h3, h h1 h2 h3⟩))
      · exact Or.inr (Or.inr (Or.inl ⟨h1, h2, h3⟩))
    · exact Or.inr (Or.inl ⟨h1, h2⟩)
  · exact Or.inl h1
set_option maxRecDepth 100000 in
theorem slicesEqualM_yes {a b : Option Addr} {n m c d : Nat} {l : List Mv} {w : World} (h : Mvs w a n l) (h' : Mvs w b m l) :
    Calls Try.prog 42 #[.slice a n c, .slice b m d] w (Told (.bool true) w) := by
  obtain rfl : n = m := by rw [← h.len, ← h'.len]
  have hn := h.fits
  have H := Lib.hid h
  have H' := Lib.hid h'
  clear h h'
  go_enter Try.func42, Try.ntmps42
  go_wp2
  go_loopw [13] (fun i wr => ∃ j : Nat, j ≤ n ∧ i = .int .i64 j ∧ Below w.heap.size w wr) (fun i _ => n - (intOf i).toNat)
  case atStart => exact ⟨0, Nat.zero_le _, rfl, Below.refl _ _⟩
  case round =>
    obtain ⟨j, hj, rfl, hb⟩ := hrel
    have HB := Lib.hid hb
    clear hb
    by_cases hlt : j < n
    · obtain ⟨b1, o1, x, rfl, hx, hc0, hc1, hc2, hc3⟩ := mvs_at (H.out.same HB.out) hlt
      obtain ⟨b2, o2, y, rfl, hy, hd0, hd1, hd2, hd3⟩ := mvs_at (H'.out.same HB.out) hlt
      rw [hx] at hy
      cases hy
      clear hx
      go_wp2
      go_quiet (fail)
      go_wp2
      go_roundw
      case rel => exact ⟨j + 1, by omega, by go_num, HB.out.trans ((drewN_same _ _).mono HB.out.size)⟩
      case measure => simp [intOf]; omega
    · go_wp2
      go_ret
      exact ⟨rfl, HB.out⟩
set_option maxRecDepth 100000 in
theorem slicesEqualM_no {a b : Option Addr} {n m c d : Nat} {l l' : List Mv} {w : World} (h : Mvs w a n l) (h' : Mvs w b m l') (hne : l ≠ l') :
    Calls Try.prog 42 #[.slice a n c, .slice b m d] w (Told (.bool false) w) := by
  have hn := h.fits
  have hm := h'.fits
  have H := Lib.hid h
  have H' := Lib.hid h'
  have HE := Lib.hid hne
  clear h h' hne
  by_cases hnm : n = m
  · subst hnm
    go_enter Try.func42, Try.ntmps42
    go_wp2
    go_loopw [13] (fun i wr => ∃ j : Nat, j ≤ n ∧ i = .int .i64 j ∧ l.take j = l'.take j ∧ Below w.heap.size w wr) (fun i _ => n - (intOf i).toNat)
    case atStart => exact ⟨0, Nat.zero_le _, rfl, rfl, Below.refl _ _⟩
    case round =>
      obtain ⟨j, hj, rfl, ht, hb⟩ := hrel
      have HB := Lib.hid hb
      have HT := Lib.hid ht
      clear hb ht
      by_cases hlt : j < n
      · obtain ⟨b1, o1, x, rfl, hx, hc0, hc1, hc2, hc3⟩ := mvs_at (H.out.same HB.out) hlt
        obtain ⟨b2, o2, y, rfl, hy, hd0, hd1, hd2, hd3⟩ := mvs_at (H'.out.same HB.out) hlt
        have HX := Lib.hid hx
        have HY := Lib.hid hy
        clear hx hy
        by_cases hxy : x = y
        · subst hxy
          go_wp2
          go_quiet (fail)
          go_wp2
          go_roundw
          case rel => exact ⟨j + 1, by omega, by go_num, by rw [List.take_add_one, List.take_add_one, HX.out, HY.out, HT.out], HB.out.trans ((drewN_same _ _).mono HB.out.size)⟩
          case measure => simp [intOf]; omega
        · rcases neMv hxy with q | ⟨q1, q⟩ | ⟨q1, q2, q⟩ | ⟨q1, q2, q3, q⟩
          · clear hxy
            go_wp2
            go_quiet (fail)
            go_wp2
            go_ret
            exact ⟨rfl, HB.out.trans ((drewN_same _ _).mono HB.out.size)⟩
          · rw [q1] at hc0
            clear hxy q1
            go_wp2
            go_quiet (fail)
            go_wp2
            go_ret
            exact ⟨rfl, HB.out.trans ((drewN_same _ _).mono HB.out.size)⟩
          · rw [q1] at hc0
            rw [q2] at hc1
            clear hxy q1 q2
            go_wp2
            go_quiet (fail)
            go_wp2
            go_ret
            exact ⟨rfl, HB.out.trans ((drewN_same _ _).mono HB.out.size)⟩
          · rw [q1] at hc0
            rw [q2] at hc1
            rw [q3] at hc2
            clear hxy q1 q2 q3
            go_wp2
            go_quiet (fail)
            go_wp2
            go_ret
            exact ⟨rfl, HB.out.trans ((drewN_same _ _).mono HB.out.size)⟩
      · exfalso
        have h1 := HT.out
        rw [List.take_of_length_le (by rw [H.out.len]; omega), List.take_of_length_le (by rw [H'.out.len]; omega)] at h1
        exact HE.out h1
  · have hq : ((n : Int) != (m : Int)) = true := by simp; omega
    clear hnm
    go_enter Try.func42, Try.ntmps42
    go_wp2
    go_ret
    exact ⟨rfl, Below.refl _ _⟩
set_option maxRecDepth 100000 in
theorem slicesEqualB_yes {a b : Option Addr} {n m c d : Nat} {l : List Bool} {w : World} (h : Bls w a n l) (h' : Bls w b m l) :
    Calls Try.prog 41 #[.slice a n c, .slice b m d] w (Told (.bool true) w) := by
  obtain rfl : n = m := by rw [← h.len, ← h'.len]
  have hn := h.fits
  have H := Lib.hid h
  have H' := Lib.hid h'
  clear h h'
  go_enter Try.func41, Try.ntmps41
  go_wp2
  go_loopw [13] (fun i wr => ∃ j : Nat, j ≤ n ∧ i = .int .i64 j ∧ Below w.heap.size w wr) (fun i _ => n - (intOf i).toNat)
  case atStart => exact ⟨0, Nat.zero_le _, rfl, Below.refl _ _⟩
  case round =>
    obtain ⟨j, hj, rfl, hb⟩ := hrel
    have HB := Lib.hid hb
    clear hb
    by_cases hlt : j < n
    · obtain ⟨b1, o1, x, rfl, hx, hc0⟩ := bls_at (H.out.same HB.out) hlt
      obtain ⟨b2, o2, y, rfl, hy, hd0⟩ := bls_at (H'.out.same HB.out) hlt
      rw [hx] at hy
      cases hy
      clear hx
      go_wp2
      go_quiet (fail)
      go_wp2
      go_roundw
      case rel => exact ⟨j + 1, by omega, by go_num, HB.out.trans ((drewN_same _ _).mono HB.out.size)⟩
      case measure => simp [intOf]; omega
    · go_wp2
      go_ret
      exact ⟨rfl, HB.out⟩
set_option maxRecDepth 100000 in
theorem slicesEqualB_no {a b : Option Addr} {n m c d : Nat} {l l' : List Bool} {w : World} (h : Bls w a n l) (h' : Bls w b m l') (hne : l ≠ l') :
    Calls Try.prog 41 #[.slice a n c, .slice b m d] w (Told (.bool false) w) := by
  have hn := h.fits
  have hm := h'.fits
  have H := Lib.hid h
  have H' := Lib.hid h'
  have HE := Lib.hid hne
  clear h h' hne
  by_cases hnm : n = m
  · subst hnm
    go_enter Try.func41, Try.ntmps41
    go_wp2
    go_loopw [13] (fun i wr => ∃ j : Nat, j ≤ n ∧ i = .int .i64 j ∧ l.take j = l'.take j ∧ Below w.heap.size w wr) (fun i _ => n - (intOf i).toNat)
    case atStart => exact ⟨0, Nat.zero_le _, rfl, rfl, Below.refl _ _⟩
    case round =>
      obtain ⟨j, hj, rfl, ht, hb⟩ := hrel
      have HB := Lib.hid hb
      have HT := Lib.hid ht
      clear hb ht
      by_cases hlt : j < n
      · obtain ⟨b1, o1, x, rfl, hx, hc0⟩ := bls_at (H.out.same HB.out) hlt
        obtain ⟨b2, o2, y, rfl, hy, hd0⟩ := bls_at (H'.out.same HB.out) hlt
        have HX := Lib.hid hx
        have HY := Lib.hid hy
        clear hx hy
        by_cases hxy : x = y
        · subst hxy
          go_wp2
          go_quiet (fail)
          go_wp2
          go_roundw
          case rel => exact ⟨j + 1, by omega, by go_num, by rw [List.take_add_one, List.take_add_one, HX.out, HY.out, HT.out], HB.out.trans ((drewN_same _ _).mono HB.out.size)⟩
          case measure => simp [intOf]; omega
        · have q : (x == y) = false := by simpa using hxy
          clear hxy
          go_wp2
          go_quiet (fail)
          go_wp2
          go_ret
          exact ⟨rfl, HB.out.trans ((drewN_same _ _).mono HB.out.size)⟩
      · exfalso
        have h1 := HT.out
        rw [List.take_of_length_le (by rw [H.out.len]; omega), List.take_of_length_le (by rw [H'.out.len]; omega)] at h1
        exact HE.out h1
  · have hq : ((n : Int) != (m : Int)) = true := by simp; omega
    clear hnm
    go_enter Try.func41, Try.ntmps41
    go_wp2
    go_ret
    exact ⟨rfl, Below.refl _ _⟩

/-- The two boxes of machines that are compared. -/
theorem two_boxes (w : World) (c1 c2 : Array Value) (t : TypeId) : Below w.heap.size w ((w.alloc (.cells c1 t)).alloc (.cells c2 t)) ∧ ((w.alloc (.cells c1 t)).alloc (.cells c2 t)).heap[w.heap.size]? = some (.cells c1 t (0, 0)) ∧
    ((w.alloc (.cells c1 t)).alloc (.cells c2 t)).heap[w.heap.size + 1]? = some (.cells c2 t (0, 0)) ∧ ((w.alloc (.cells c1 t)).alloc (.cells c2 t)).heap.size = w.heap.size + 2 := by
  refine ⟨((Below.refl _ w).alloc (Nat.le_refl _) _).alloc (by simp) _, ?_, ?_, by simp⟩
  · rw [Below.heap_alloc _ _ _ (by simp)]
    exact heap_alloc_new w (.cells c1 t (0, 0))
  · have := heap_alloc_new (w.alloc (.cells c1 t)) (.cells c2 t (0, 0))
    simpa using this

set_option maxRecDepth 100000 in
theorem equalMachines_any {w : World} {v v' : Value} {x y : Mac} (h : MacW w v x) (h' : MacW w v' y) : Calls Try.prog 13 #[v, v'] w (Told (.bool (decide (x = y))) w) := by
  obtain ⟨a, n, c, b, m, d, rfl, h1, h2, h3⟩ := h
  obtain ⟨a', n', c', b', m', d', rfl, h1', h2', h3'⟩ := h'
  have H1 := Lib.hid h1
  have H2 := Lib.hid h2
  have H1' := Lib.hid h1'
  have H2' := Lib.hid h2'
  clear h1 h2 h3 h1' h2' h3'
  have HX : Hid ((x = y) ↔ (x.st = y.st ∧ x.ends = y.ends ∧ x.moves = y.moves)) := Lib.hid (by cases x; cases y; simp)
  obtain ⟨HW, hA, hM, hsz⟩ := two_boxes w #[.int .i64 x.st, .slice a n c, .slice b m d] #[.int .i64 y.st, .slice a' n' c', .slice b' m' d'] 27
  have HW0 := Lib.hid HW
  clear HW
  by_cases q0 : x.st = y.st
  · have e0 : (x.st == y.st) = true := by simpa using q0
    have HQ := Lib.hid q0
    clear q0
    by_cases q1 : x.ends = y.ends
    · by_cases q2 : x.moves = y.moves
      · have HR : Hid (decide (x = y) = true) := Lib.hid (by simp [HX.out, HQ.out, q1, q2])
        rw [HR.out]
        have HE1 := Lib.hid q1
        have HE2 := Lib.hid q2
        clear q1 q2
        go_enter Try.func13, Try.ntmps13
        go_wp2_with fail
        generalize ((w.alloc (.cells #[.int .i64 x.st, .slice a n c, .slice b m d] 27)).alloc (.cells #[.int .i64 y.st, .slice a' n' c', .slice b' m' d'] 27)) = W0 at *
        refine (slicesEqualB_yes (H1.out.same HW0.out) (HE1.out.symm ▸ H1'.out.same HW0.out)).mono ?_
        rintro e w1 ⟨rfl, hb⟩
        have hA1 := (hb.block w.heap.size (by omega)).trans hA
        have hM1 := (hb.block (w.heap.size + 1) (by omega)).trans hM
        have a2 := (block_cell hA1 2).trans rfl
        have m2 := (block_cell hM1 2).trans rfl
        have HB1 := Lib.hid (HW0.out.trans (hb.mono HW0.out.size))
        clear hb hA hM hA1 hM1
        go_wp2_with fail
        refine (slicesEqualM_yes (H2.out.same HB1.out) (HE2.out.symm ▸ H2'.out.same HB1.out)).mono ?_
        rintro e w2 ⟨rfl, hb⟩
        have HB2 := Lib.hid (HB1.out.trans (hb.mono HB1.out.size))
        clear hb
        go_wp2_with fail
        go_ret
        exact ⟨rfl, HB2.out⟩
      · have HR : Hid (decide (x = y) = false) := Lib.hid (by simp [HX.out, HQ.out, q1, q2])
        rw [HR.out]
        have HE1 := Lib.hid q1
        have HE2 := Lib.hid q2
        clear q1 q2
        go_enter Try.func13, Try.ntmps13
        go_wp2_with fail
        generalize ((w.alloc (.cells #[.int .i64 x.st, .slice a n c, .slice b m d] 27)).alloc (.cells #[.int .i64 y.st, .slice a' n' c', .slice b' m' d'] 27)) = W0 at *
        refine (slicesEqualB_yes (H1.out.same HW0.out) (HE1.out.symm ▸ H1'.out.same HW0.out)).mono ?_
        rintro e w1 ⟨rfl, hb⟩
        have hA1 := (hb.block w.heap.size (by omega)).trans hA
        have hM1 := (hb.block (w.heap.size + 1) (by omega)).trans hM
        have a2 := (block_cell hA1 2).trans rfl
        have m2 := (block_cell hM1 2).trans rfl
        have HB1 := Lib.hid (HW0.out.trans (hb.mono HW0.out.size))
        clear hb hA hM hA1 hM1
        go_wp2_with fail
        refine (slicesEqualM_no (H2.out.same HB1.out) (H2'.out.same HB1.out) HE2.out).mono ?_
        rintro e w2 ⟨rfl, hb⟩
        have HB2 := Lib.hid (HB1.out.trans (hb.mono HB1.out.size))
        clear hb
        go_wp2_with fail
        go_ret
        exact ⟨rfl, HB2.out⟩
    · have HR : Hid (decide (x = y) = false) := Lib.hid (by simp [HX.out, HQ.out, q1])
      rw [HR.out]
      have HE1 := Lib.hid q1
      clear q1
      go_enter Try.func13, Try.ntmps13
      go_wp2_with fail
      generalize ((w.alloc (.cells #[.int .i64 x.st, .slice a n c, .slice b m d] 27)).alloc (.cells #[.int .i64 y.st, .slice a' n' c', .slice b' m' d'] 27)) = W0 at *
      refine (slicesEqualB_no (H1.out.same HW0.out) (H1'.out.same HW0.out) HE1.out).mono ?_
      rintro e w1 ⟨rfl, hb⟩
      have HB1 := Lib.hid (HW0.out.trans (hb.mono HW0.out.size))
      clear hb hA hM
      go_wp2_with fail
      go_ret
      exact ⟨rfl, HB1.out⟩
  · have e0 : (x.st == y.st) = false := by simpa using q0
    have HR : Hid (decide (x = y) = false) := Lib.hid (by simp [HX.out, q0])
    rw [HR.out]
    clear q0
    go_enter Try.func13, Try.ntmps13
    go_wp2_with fail
    go_ret
    exact ⟨rfl, HW0.out⟩
end Go.Proofs.Ytaaogdhkehkamaa
