/- Whether a machine is valid: by the program. -/
import Derived.Test.YtckmgbobkffabaaBy
namespace Go.Proofs.Ytckmgbobkffabaa
open Go.ChangeShapes Go.WideShapes Go.ChangeAt Go.RowKit
set_option linter.unusedVariables false
set_option linter.unusedSimpArgs false

/-- A number lies in a range. -/
def inB (n l h : Int) : Bool := decide (l ≤ n) && decide (n ≤ h)
/-- A move lies within a machine of st states. -/
def okM (st : Int) (x : Mv) : Bool := inB x.frm 0 (st - 1) && (inB x.to 0 (st - 1) && inB x.msg 0 5)
/-- Whether a move leaves the state of m in the other direction. -/
def turnM (m x : Mv) : Bool := x.frm == m.frm && x.send != m.send
def hasOther (l : List Mv) (m : Mv) : Bool := l.any (turnM m)
def Distinct (l : List Mv) : Prop := l.Pairwise (fun x y => sameKey x y = false)
instance (l : List Mv) : Decidable (Distinct l) := by unfold Distinct; infer_instance
def goodM (x : Mac) (m : Mv) : Bool := okM x.st m && !hasOther x.moves m
/-- Whether a machine is valid. -/
def isMac (x : Mac) : Bool := inB x.st 1 6 && (decide ((x.ends.length : Int) = x.st) && (decide (x.moves.length ≤ 12) && (x.moves.all (goodM x) && decide (Distinct x.moves))))
theorem okM_wf {st : Int} {x : Mv} (hs : st ≤ 6) (h : okM st x = true) : (Lit.int .i64 x.frm).wf = true ∧ (Lit.int .i64 x.msg).wf = true := by
  simp only [okM, inB, Bool.and_eq_true, decide_eq_true_eq] at h
  exact ⟨WalkArith.wf_i64 (by omega), WalkArith.wf_i64 (by omega)⟩

theorem inRange_told (n l h : Int) (w : World) :
    Calls Try.prog 51 #[.int .i64 n, .int .i64 l, .int .i64 h] w (Told (.bool (decide (l ≤ n) && decide (n ≤ h))) w) := by
  by_cases h1 : l ≤ n <;> by_cases h2 : n ≤ h <;> (go_enter Try.func51, Try.ntmps51; go_wp2; go_ret; exact ⟨by simp [h1, h2], Below.refl _ _⟩)

set_option maxRecDepth 100000 in
theorem isMoveWithin_any (x : Mv) (st : Int) (h1 : 1 ≤ st) (h6 : st ≤ 6) (w : World) : Calls Try.prog 52 #[x.val, .int .i64 st] w (Told (.bool (okM st x)) w) := by
  unfold Mv.val
  have HB := Lib.hid (alloc_same w (.cells #[.int .i64 x.frm, .bool x.send, .int .i64 x.msg, .int .i64 x.to] 63))
  have C := Lib.hid (four_at (heap_alloc_new w (.cells #[.int .i64 x.frm, .bool x.send, .int .i64 x.msg, .int .i64 x.to] 63 (0, 0))))
  cases q1 : inB x.frm 0 (st - 1) with
  | false =>
    have HR : Hid (okM st x = false) := Lib.hid (by simp [okM, q1])
    have HI := Lib.hid (inRange_told x.frm 0 (st - 1))
    unfold inB at q1
    rw [q1] at HI
    clear q1
    go_enter Try.func52, Try.ntmps52
    go_wp2_with fail
    generalize (w.alloc (.cells #[.int .i64 x.frm, .bool x.send, .int .i64 x.msg, .int .i64 x.to] 63)) = W0 at *
    refine (HI.out _).mono ?_
    rintro e w1 ⟨rfl, hb⟩
    have HB1 := Lib.hid (HB.out.trans (hb.mono HB.out.size))
    clear hb
    go_wp2_with fail
    go_ret
    exact ⟨by rw [HR.out]; try rfl, HB1.out⟩
  | true =>
    cases q2 : inB x.to 0 (st - 1) with
    | false =>
      have HR : Hid (okM st x = false) := Lib.hid (by simp [okM, q2])
      have HI := Lib.hid (inRange_told x.frm 0 (st - 1))
      have HJ := Lib.hid (inRange_told x.to 0 (st - 1))
      unfold inB at q1 q2
      rw [q1] at HI
      rw [q2] at HJ
      clear q1 q2
      go_enter Try.func52, Try.ntmps52
      go_wp2_with fail
      generalize (w.alloc (.cells #[.int .i64 x.frm, .bool x.send, .int .i64 x.msg, .int .i64 x.to] 63)) = W0 at *
      refine (HI.out _).mono ?_
      rintro e w1 ⟨rfl, hb⟩
      have HD1 := Lib.hid hb
      have HB1 := Lib.hid (HB.out.trans (hb.mono HB.out.size))
      have c3 := cell_stay C.out.2.2.2 hb
      clear hb
      go_wp2_with fail
      clear c3
      refine (HJ.out _).mono ?_
      rintro e w2 ⟨rfl, hb⟩
      have HD2 : Hid (Below W0.heap.size W0 w2) := Lib.hid (HD1.out.trans (hb.mono HD1.out.size))
      have HB2 := Lib.hid (HB1.out.trans (hb.mono HB1.out.size))
      clear hb
      go_wp2_with fail
      go_ret
      exact ⟨by rw [HR.out]; try rfl, HB2.out⟩
    | true =>
      have HR : Hid (okM st x = inB x.msg 0 5) := Lib.hid (by simp [okM, q1, q2])
      have HI := Lib.hid (inRange_told x.frm 0 (st - 1))
      have HJ := Lib.hid (inRange_told x.to 0 (st - 1))
      have HK := Lib.hid (inRange_told x.msg 0 5)
      unfold inB at q1 q2
      rw [q1] at HI
      rw [q2] at HJ
      clear q1 q2
      go_enter Try.func52, Try.ntmps52
      go_wp2_with fail
      generalize (w.alloc (.cells #[.int .i64 x.frm, .bool x.send, .int .i64 x.msg, .int .i64 x.to] 63)) = W0 at *
      refine (HI.out _).mono ?_
      rintro e w1 ⟨rfl, hb⟩
      have HD1 := Lib.hid hb
      have HB1 := Lib.hid (HB.out.trans (hb.mono HB.out.size))
      have c3 := cell_stay C.out.2.2.2 hb
      clear hb
      go_wp2_with fail
      clear c3
      refine (HJ.out _).mono ?_
      rintro e w2 ⟨rfl, hb⟩
      have HD2 : Hid (Below W0.heap.size W0 w2) := Lib.hid (HD1.out.trans (hb.mono HD1.out.size))
      have HB2 := Lib.hid (HB1.out.trans (hb.mono HB1.out.size))
      clear hb
      have C2 := Lib.hid (And.intro (cell_stay C.out.1 HD2.out) (And.intro (cell_stay C.out.2.1 HD2.out) (And.intro (cell_stay C.out.2.2.1 HD2.out) (cell_stay C.out.2.2.2 HD2.out))))
      have c2 := C2.out.2.2.1
      go_wp2_with fail
      refine (HK.out _).mono ?_
      rintro e w3 ⟨rfl, hb⟩
      have HB3 := Lib.hid (HB2.out.trans (hb.mono HB2.out.size))
      clear hb c2
      go_wp2_with fail
      go_ret
      exact ⟨by rw [HR.out]; rfl, HB3.out⟩

set_option maxRecDepth 100000 in
theorem turn1_any (x m : Mv) (g : Nat) (w : World) (hg : w.cell? ⟨g, 0, none⟩ = some (.int .i64 m.frm) ∧ w.cell? ⟨g, 1, none⟩ = some (.bool m.send)) :
    Calls Try.prog 88 #[x.val, .pointer (some ⟨g, 0, none⟩)] w (Told (.bool (turnM m x)) w) := by
  have HB := Lib.hid (alloc_same w (.cells #[.int .i64 x.frm, .bool x.send, .int .i64 x.msg, .int .i64 x.to] 63))
  have d0 := cell_stay hg.1 HB.out
  have d1 := cell_stay hg.2 HB.out
  clear hg
  unfold Mv.val
  by_cases h1 : x.frm = m.frm
  · have e1 : (x.frm == m.frm) = true := by simpa using h1
    have HR : Hid (turnM m x = (x.send != m.send)) := Lib.hid (by simp [turnM, h1])
    clear h1
    cases q : (x.send == m.send) with
    | true =>
      rw [show (x.send != m.send) = false by simp [bne, q]] at HR
      go_enter Try.func88, Try.ntmps88
      go_wp2_with fail
      go_ret
      exact ⟨by rw [HR.out]; try rfl, HB.out⟩
    | false =>
      rw [show (x.send != m.send) = true by simp [bne, q]] at HR
      go_enter Try.func88, Try.ntmps88
      go_wp2_with fail
      go_ret
      exact ⟨by rw [HR.out]; try rfl, HB.out⟩
  · have e1 : (x.frm == m.frm) = false := by simpa using h1
    have HR : Hid (turnM m x = false) := Lib.hid (by simp [turnM, e1])
    clear h1
    go_enter Try.func88, Try.ntmps88
    go_wp2_with fail
    go_ret
    exact ⟨by rw [HR.out]; try rfl, HB.out⟩

theorem firstAt_any {α : Type} (p : α → Bool) (l : List α) : decide (0 ≤ firstAt p l) = l.any p := by
  rcases firstAt_cases p l with ⟨e, h⟩ | ⟨j, x, e, hx, hp, _⟩
  · rw [e, h]; rfl
  · rw [e, decide_eq_true (by omega)]
    exact (List.any_eq_true.2 ⟨x, List.mem_of_getElem? hx, hp⟩).symm
set_option maxRecDepth 100000 in
theorem hasOtherTurn_any (m : Mv) {a : Option Addr} {n c : Nat} {l : List Mv} {w : World} (h : Mvs w a n l) : Calls Try.prog 53 #[.slice a n c, m.val] w (Told (.bool (hasOther l m)) w) := by
  have HB := Lib.hid (alloc_same w (.cells #[.int .i64 m.frm, .bool m.send, .int .i64 m.msg, .int .i64 m.to] 63))
  have C := Lib.hid (four_at (heap_alloc_new w (.cells #[.int .i64 m.frm, .bool m.send, .int .i64 m.msg, .int .i64 m.to] 63 (0, 0))))
  have H := Lib.hid (h.same HB.out)
  clear h
  unfold Mv.val
  have HC : ∀ W0 : World, Mvs W0 a n l → W0.cell? ⟨w.heap.size, 0, none⟩ = some (.int .i64 m.frm) → W0.cell? ⟨w.heap.size, 1, none⟩ = some (.bool m.send) →
      Calls Try.prog 87 #[.slice a n c, .func (.func 88) #[] #[.pointer (some ⟨w.heap.size, 0, none⟩)]] W0 (Told (.bool (hasOther l m)) W0) := by
    intro W0 h2 k0 k1
    have HI := Lib.hid (indexTurn_any (ptr := .pointer (some ⟨w.heap.size, 0, none⟩)) (p := turnM m) (c := c) h2 (fun y w' hb => turn1_any y m w.heap.size w' ⟨cell_stay k0 hb, cell_stay k1 hb⟩))
    clear h2 k0 k1 H C HB
    go_enter Try.func87, Try.ntmps87
    go_wp2_with fail
    refine HI.out.mono ?_
    rintro e w1 ⟨rfl, hb⟩
    have HB1 := Lib.hid hb
    clear hb
    go_wp2_with fail
    go_ret
    refine ⟨?_, HB1.out⟩
    have e9 : hasOther l m = decide (0 ≤ firstAt (turnM m) l) := (firstAt_any _ _).symm
    rw [e9]
    try rfl
  have HC2 := Lib.hid HC
  clear HC
  go_enter Try.func53, Try.ntmps53
  go_wp2_with fail
  generalize (w.alloc (.cells #[.int .i64 m.frm, .bool m.send, .int .i64 m.msg, .int .i64 m.to] 63)) = W0 at *
  refine (HC2.out W0 H.out C.out.1 C.out.2.1).mono ?_
  rintro e w1 ⟨rfl, hb⟩
  have HB1 := Lib.hid (HB.out.trans (hb.mono HB.out.size))
  clear hb
  go_wp2_with fail
  go_ret
  exact ⟨rfl, HB1.out⟩
end Go.Proofs.Ytckmgbobkffabaa
