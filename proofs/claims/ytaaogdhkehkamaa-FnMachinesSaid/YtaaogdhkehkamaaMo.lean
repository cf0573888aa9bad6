/- The key of a move; the index of the first move with a key: by the program. -/
import Derived.Test.YtaaogdhkehkamaaKm
import Derived.Test.YtaaogdhkehkamaaAp
import Derived.Deep.RegionHeld3
import Derived.Deep.QuietTactic
import Derived.BigQuiet
import Derived.RegionTactic
import Derived.Handy
namespace Go.Proofs.Ytaaogdhkehkamaa
open Go.ChangeShapes Go.WideShapes Go.ChangeAt Go.RowKit
set_option linter.unusedVariables false
set_option linter.unusedSimpArgs false

set_option maxRecDepth 100000 in
theorem key_any (x : Mv) (w : World) : Calls Try.prog 52 #[x.val] w (Told (.agg #[.int .i64 x.frm, .bool x.send, .int .i64 x.msg]) w) := by
  unfold Mv.val
  go_enter Try.func52, Try.ntmps52
  go_wp2
  go_returns
  exact ⟨rfl, ((Below.refl _ w).alloc (Nat.le_refl _) _).alloc (by simp) _⟩

theorem four_at {w : World} {g : Nat} {t : TypeId} {a b c d : Value} (h : w.heap[g]? = some (.cells #[a, b, c, d] t (0, 0))) :
    w.cell? ⟨g, 0, none⟩ = some a ∧ w.cell? ⟨g, 1, none⟩ = some b ∧ w.cell? ⟨g, 2, none⟩ = some c ∧ w.cell? ⟨g, 3, none⟩ = some d :=
  ⟨(block_cell h 0).trans rfl, (block_cell h 1).trans rfl, (block_cell h 2).trans rfl, (block_cell h 3).trans rfl⟩
set_option maxHeartbeats 1000000 in
set_option maxRecDepth 100000 in
theorem moveOf1_any (x : Mv) (g : Nat) (s : Int) (b : Bool) (k : Int) (w : World) (hg : w.cell? ⟨g, 0, none⟩ = some (.int .i64 s) ∧ w.cell? ⟨g, 1, none⟩ = some (.bool b) ∧ w.cell? ⟨g, 2, none⟩ = some (.int .i64 k)) :
    Calls Try.prog 51 #[x.val, .pointer (some ⟨g, 0, none⟩)] w (Told (.bool (hitM s b k x)) w) := by
  have hA := heap_alloc_new w (.cells #[.int .i64 x.frm, .bool x.send, .int .i64 x.msg, .int .i64 x.to] 59 (0, 0))
  have HBW : Hid (Below w.heap.size w (w.alloc (.cells #[.int .i64 x.frm, .bool x.send, .int .i64 x.msg, .int .i64 x.to] 59))) := Lib.hid (alloc_same w _)
  have C := Lib.hid (four_at hA)
  have D := Lib.hid (And.intro (cell_stay hg.1 HBW.out) (And.intro (cell_stay hg.2.1 HBW.out) (cell_stay hg.2.2 HBW.out)))
  clear hA hg
  unfold Mv.val
  go_enter Try.func51, Try.ntmps51
  go_wp2_with fail
  generalize (w.alloc (.cells #[.int .i64 x.frm, .bool x.send, .int .i64 x.msg, .int .i64 x.to] 59)) = W0 at *
  have HBd : Hid (Below W0.heap.size W0 W0.drew) := Lib.hid (Below.refl _ _).drew
  refine wp_region_held_drew (S := fun w9 => w9.cell? ⟨w.heap.size, 0, none⟩ = some (.int .i64 x.frm) ∧ w9.cell? ⟨w.heap.size, 1, none⟩ = some (.bool x.send) ∧ w9.cell? ⟨w.heap.size, 2, none⟩ = some (.int .i64 x.msg) ∧ w9.cell? ⟨w.heap.size, 3, none⟩ = some (.int .i64 x.to) ∧ w9.cell? ⟨g, 0, none⟩ = some (.int .i64 s) ∧ w9.cell? ⟨g, 1, none⟩ = some (.bool b) ∧ w9.cell? ⟨g, 2, none⟩ = some (.int .i64 k)) (by kernel_rfl) ⟨cell_stay C.out.1 HBd.out, cell_stay C.out.2.1 HBd.out, cell_stay C.out.2.2.1 HBd.out, cell_stay C.out.2.2.2 HBd.out, cell_stay D.out.1 HBd.out, cell_stay D.out.2.1 HBd.out, cell_stay D.out.2.2 HBd.out⟩ (fun hHeld => ?_)
  refine wpAnyH_take (i := 0) (v := ?v1) (by simp only [List.getElem?_toArray, List.getElem?_cons_succ, List.getElem?_cons_zero]; rfl) (by kernel_rfl) (by kernel_rfl) (by kernel_rfl) (by exact fun _ _ _ h => h) (Or.inl ⟨by rfl, fun w9 hS9 => ?hy1⟩) hHeld ?rest1
  case hy1 =>
    dsimp only at hS9
    obtain ⟨q0, q1, q2, q3, q4, q5, q6⟩ := hS9
    go_simp
    try with_reducible rfl
  try simp only [Act.put, List.setIfInBounds_toArray, List.set_cons_zero, List.set_cons_succ]
  refine wpAnyH_take (i := 2) (v := ?v2) (by simp only [List.getElem?_toArray, List.getElem?_cons_succ, List.getElem?_cons_zero]; rfl) (by kernel_rfl) (by kernel_rfl) (by kernel_rfl) (by exact fun _ _ _ h => h) (Or.inl ⟨by rfl, fun w9 hS9 => ?hy2⟩) hHeld ?rest2
  case hy2 =>
    dsimp only at hS9
    obtain ⟨q0, q1, q2, q3, q4, q5, q6⟩ := hS9
    go_simp
    try with_reducible rfl
  try simp only [Act.put, List.setIfInBounds_toArray, List.set_cons_zero, List.set_cons_succ]
  refine wpAnyH_ready (rs := [1]) (by kernel_rfl) (by simp) (AllReadyH.cons (by simp only [List.getElem?_toArray, List.getElem?_cons_succ, List.getElem?_cons_zero]; rfl) (fun K hK => ?_) AllReadyH.nil)
  go_simp
  refine (key_any x _).mono ?_
  rintro e w1 ⟨rfl, hb1⟩
  have HB1 : Hid (Below W0.heap.size W0 w1) := Lib.hid (HBd.out.trans (hb1.mono HBd.out.size))
  clear hb1
  go_wp2_with fail
  refine hK.out _ _ ⟨cell_stay C.out.1 HB1.out, cell_stay C.out.2.1 HB1.out, cell_stay C.out.2.2.1 HB1.out, cell_stay C.out.2.2.2 HB1.out, cell_stay D.out.1 HB1.out, cell_stay D.out.2.1 HB1.out, cell_stay D.out.2.2 HB1.out⟩ (fun hHeld => ?_)
  clear hK K
  try simp only [Act.put, List.setIfInBounds_toArray, List.set_cons_zero, List.set_cons_succ]
  refine wpAnyH_take (i := 3) (v := .bool (hitM s b k x)) (by simp only [List.getElem?_toArray, List.getElem?_cons_succ, List.getElem?_cons_zero]; rfl) (by kernel_rfl) (by kernel_rfl) (by kernel_rfl) (by exact fun _ _ _ h => h) (Or.inl ⟨by rfl, fun w9 hS9 => ?hy3⟩) hHeld ?rest3
  case hy3 =>
    dsimp only at hS9
    obtain ⟨q0, q1, q2, q3, q4, q5, q6⟩ := hS9
    go_simp
    by_cases h1 : x.frm = s <;> by_cases h2 : x.send = b <;> by_cases h3 : x.msg = k <;> simp [h1, h2, h3, hitM]
  try simp only [Act.put, List.setIfInBounds_toArray, List.set_cons_zero, List.set_cons_succ]
  refine wpAnyH_take (i := 4) (v := ?v4) (by simp only [List.getElem?_toArray, List.getElem?_cons_succ, List.getElem?_cons_zero]; rfl) (by kernel_rfl) (by kernel_rfl) (by kernel_rfl) (by exact fun _ _ _ h => h) (Or.inl ⟨by rfl, fun w9 hS9 => ?hy4⟩) hHeld ?rest4
  case hy4 =>
    dsimp only at hS9
    obtain ⟨q0, q1, q2, q3, q4, q5, q6⟩ := hS9
    go_simp
    try with_reducible rfl
  try simp only [Act.put, List.setIfInBounds_toArray, List.set_cons_zero, List.set_cons_succ]
  refine wpAnyH_done (by kernel_rfl) ?_ _
  go_wp2
  go_ret
  exact ⟨rfl, HBW.out.trans (HB1.out.mono HBW.out.size)⟩
set_option maxHeartbeats 1000000 in
set_option maxRecDepth 100000 in
/-- The library's IndexFunc, for a closure that is told by a contract of its own. -/
theorem indexOf_any {ptr : Value} {p : Mv → Bool} {a : Option Addr} {n c : Nat} {l : List Mv} {w : World} (h : Mvs w a n l)
    (HF : ∀ (x : Mv) (w' : World), Below w.heap.size w w' → Calls Try.prog 51 #[x.val, ptr] w' (Told (.bool (p x)) w')) :
    Calls Try.prog 50 #[.slice a n c, .func (.func 51) #[] #[ptr]] w (Told (.int .i64 (firstAt p l)) w) := by
  have H := Lib.hid h
  have hl := h.len
  have hfit := h.fits
  have HC := Lib.hid HF
  clear h HF
  go_enter Try.func50, Try.ntmps50
  go_wp2_with fail
  go_loopw [8] (fun i wr => ∃ j : Nat, j ≤ n ∧ i = .int .i64 j ∧ (l.take j).any p = false ∧ Below w.heap.size w wr) (fun i _ => n - (intOf i).toNat)
  case atStart => exact ⟨0, Nat.zero_le _, rfl, by simp, Below.refl _ _⟩
  case round =>
    obtain ⟨j, hj, rfl, hno, hb⟩ := hrel
    have HN := Lib.hid hno
    have HB := Lib.hid hb
    clear hno hb
    by_cases hlt : j < n
    · obtain ⟨b1, o1, x, rfl, hx, hc0, hc1, hc2, hc3⟩ := mvs_at (H.out.same HB.out) hlt
      have HR := HC.out x wr HB.out
      unfold Mv.val at HR
      cases hk : p x with
      | true =>
        have HE := Lib.hid (firstAt_hit hx HN.out hk)
        rw [hk] at HR
        have HQ := Lib.hid HR
        clear hx hk HR
        go_wp2_with fail
        refine HQ.out.mono ?_
        rintro e w2 ⟨rfl, hb2⟩
        have HB2 := Lib.hid (HB.out.trans (hb2.mono HB.out.size))
        clear hb2
        go_wp2_with fail
        go_ret
        exact ⟨by rw [HE.out]; try rfl, HB2.out⟩
      | false =>
        have HS : Hid ((l.take (j + 1)).any p = false) := Lib.hid (by
          rw [List.take_add_one, hx, List.any_append, HN.out]
          simp [hk])
        rw [hk] at HR
        have HQ := Lib.hid HR
        clear hx hk HR
        go_wp2_with fail
        refine HQ.out.mono ?_
        rintro e w2 ⟨rfl, hb2⟩
        have HB2 := Lib.hid (HB.out.trans (hb2.mono HB.out.size))
        clear hb2
        go_wp2_with fail
        go_roundw
        case rel => exact ⟨j + 1, by omega, by go_num, HS.out, HB2.out⟩
        case measure => simp [intOf]; omega
    · obtain rfl : j = n := by omega
      have h1 := HN.out
      rw [List.take_of_length_le (by omega)] at h1
      have HE := Lib.hid (firstAt_none h1)
      clear h1
      go_wp2_with fail
      go_ret
      exact ⟨by rw [HE.out]; try rfl, HB.out⟩

set_option maxHeartbeats 1000000 in
set_option maxRecDepth 100000 in
/-- The library's IndexFunc, for a closure that is told by a contract of its own. -/
theorem indexTurn_any {ptr : Value} {p : Mv → Bool} {a : Option Addr} {n c : Nat} {l : List Mv} {w : World} (h : Mvs w a n l)
    (HF : ∀ (x : Mv) (w' : World), Below w.heap.size w w' → Calls Try.prog 70 #[x.val, ptr] w' (Told (.bool (p x)) w')) :
    Calls Try.prog 50 #[.slice a n c, .func (.func 70) #[] #[ptr]] w (Told (.int .i64 (firstAt p l)) w) := by
  have H := Lib.hid h
  have hl := h.len
  have hfit := h.fits
  have HC := Lib.hid HF
  clear h HF
  go_enter Try.func50, Try.ntmps50
  go_wp2_with fail
  go_loopw [8] (fun i wr => ∃ j : Nat, j ≤ n ∧ i = .int .i64 j ∧ (l.take j).any p = false ∧ Below w.heap.size w wr) (fun i _ => n - (intOf i).toNat)
  case atStart => exact ⟨0, Nat.zero_le _, rfl, by simp, Below.refl _ _⟩
  case round =>
    obtain ⟨j, hj, rfl, hno, hb⟩ := hrel
    have HN := Lib.hid hno
    have HB := Lib.hid hb
    clear hno hb
    by_cases hlt : j < n
    · obtain ⟨b1, o1, x, rfl, hx, hc0, hc1, hc2, hc3⟩ := mvs_at (H.out.same HB.out) hlt
      have HR := HC.out x wr HB.out
      unfold Mv.val at HR
      cases hk : p x with
      | true =>
        have HE := Lib.hid (firstAt_hit hx HN.out hk)
        rw [hk] at HR
        have HQ := Lib.hid HR
        clear hx hk HR
        go_wp2_with fail
        refine HQ.out.mono ?_
        rintro e w2 ⟨rfl, hb2⟩
        have HB2 := Lib.hid (HB.out.trans (hb2.mono HB.out.size))
        clear hb2
        go_wp2_with fail
        go_ret
        exact ⟨by rw [HE.out]; try rfl, HB2.out⟩
      | false =>
        have HS : Hid ((l.take (j + 1)).any p = false) := Lib.hid (by
          rw [List.take_add_one, hx, List.any_append, HN.out]
          simp [hk])
        rw [hk] at HR
        have HQ := Lib.hid HR
        clear hx hk HR
        go_wp2_with fail
        refine HQ.out.mono ?_
        rintro e w2 ⟨rfl, hb2⟩
        have HB2 := Lib.hid (HB.out.trans (hb2.mono HB.out.size))
        clear hb2
        go_wp2_with fail
        go_roundw
        case rel => exact ⟨j + 1, by omega, by go_num, HS.out, HB2.out⟩
        case measure => simp [intOf]; omega
    · obtain rfl : j = n := by omega
      have h1 := HN.out
      rw [List.take_of_length_le (by omega)] at h1
      have HE := Lib.hid (firstAt_none h1)
      clear h1
      go_wp2_with fail
      go_ret
      exact ⟨by rw [HE.out]; try rfl, HB.out⟩

set_option maxHeartbeats 1000000 in
set_option maxRecDepth 100000 in
theorem moveOf_any {w : World} {v : Value} {x : Mac} (s : Int) (b : Bool) (k : Int) (h : MacW w v x) : Calls Try.prog 18 #[v, .int .i64 s, .bool b, .int .i64 k] w (Told (.int .i64 (moveOf x s b k)) w) := by
  obtain ⟨a, n, c, q, m, d, rfl, h1, h2, h3⟩ := h
  obtain ⟨hB, hX, hM, hsz⟩ := twice w #[.int .i64 x.st, .slice a n c, .slice q m d] #[.int .i64 s, .bool b, .int .i64 k] 27 74
  have HB := Lib.hid hB
  have H2 := Lib.hid (h2.same hB)
  have C := Lib.hid (three_cells hM)
  clear h1 h2 h3 hB
  go_enter Try.func18, Try.ntmps18
  go_wp2_with fail
  generalize ((w.alloc (.cells #[.int .i64 x.st, .slice a n c, .slice q m d] 27)).alloc (.cells #[.int .i64 s, .bool b, .int .i64 k] 74)) = W0 at *
  refine (indexOf_any H2.out (fun y w' hb => moveOf1_any y (w.heap.size + 1) s b k w' ⟨cell_stay C.out.1 hb, cell_stay C.out.2.1 hb, cell_stay C.out.2.2.1 hb⟩)).mono ?_
  rintro e w2 ⟨rfl, hb2⟩
  have HB2 := Lib.hid (HB.out.trans (hb2.mono HB.out.size))
  clear hb2
  go_wp2_with fail
  go_ret
  exact ⟨rfl, HB2.out⟩

end Go.Proofs.Ytaaogdhkehkamaa
