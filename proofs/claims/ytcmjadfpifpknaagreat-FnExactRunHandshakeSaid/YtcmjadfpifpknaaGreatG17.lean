/- Lists of integers are compared: by the model. Lists of values are compared: by the model. Lists of extensions are compared: by the model. Whether a hello or an answer is valid, and whether two hellos are equal: by the program and by the model. -/
import Derived.Test.YtcmjadfpifpknaaGreatG1
import Derived.Deep.QuietTactic
import Derived.BigQuiet
import Derived.RegionTactic
import Derived.Test.YtcmjadfpifpknaaGreatG15
import Derived.Deep.RegionHeld3
import Derived.Test.YtcmjadfpifpknaaGreatG14
import Derived.Test.YtcmjadfpifpknaaGreatG9
import Derived.Test.YtcmjadfpifpknaaGreatG16
namespace Go.Proofs.YtcmjadfpifpknaaGreat
open Go.ChangeShapes Go.WideShapes Go.ChangeAt Go.RowKit
set_option linter.unusedVariables false

end Go.Proofs.YtcmjadfpifpknaaGreat
namespace Go.Proofs.YtcmjadfpifpknaaGreat
open Go.ChangeShapes Go.WideShapes Go.ChangeAt Go.RowKit
set_option linter.unusedVariables false
set_option linter.unusedSimpArgs false

end Go.Proofs.YtcmjadfpifpknaaGreat
namespace Go.Proofs.YtcmjadfpifpknaaGreat
open Go.ChangeShapes Go.WideShapes Go.ChangeAt Go.RowKit
set_option linter.unusedVariables false
set_option linter.unusedSimpArgs false

end Go.Proofs.YtcmjadfpifpknaaGreat
namespace Go.Proofs.YtcmjadfpifpknaaGreat
open Go.ChangeShapes Go.WideShapes Go.ChangeAt Go.RowKit
set_option linter.unusedVariables false
set_option linter.unusedSimpArgs false

theorem told_back {f : Nat} {args : Array Value} {v : Value} {w : World} (h : Calls Tryz.prog f args w fun e w' => e = .returned v ∧ w' = w) : Calls Tryz.prog f args w (Told v w) :=
  h.mono fun _ _ ⟨h1, h2⟩ => ⟨h1, h2 ▸ Below.refl _ _⟩
/-- Whether two values are equal. -/
noncomputable def eqD {α : Type} (x y : α) : Bool := @decide (x = y) (Classical.propDecidable _)
theorem eqD_yes {α : Type} {x y : α} (h : x = y) : eqD x y = true := by unfold eqD; exact @decide_eq_true _ (Classical.propDecidable _) h
theorem eqD_no {α : Type} {x y : α} (h : ¬ x = y) : eqD x y = false := by unfold eqD; exact @decide_eq_false _ (Classical.propDecidable _) h
noncomputable def eqH (x y : Hel) : Bool := eqD x.vers y.vers && eqD x.exts y.exts

set_option maxHeartbeats 1000000 in
set_option maxRecDepth 100000 in
theorem isHello_any {w : World} {v : Value} {x : Hel} (h : HelW w v x) : Calls Tryz.prog 13 #[v] w (Told (.bool (isH x)) w) := by
  obtain ⟨a, n, c, b, m, d, rfl, h1, h2, h3⟩ := h
  have HB := Lib.hid (alloc_same w (.cells #[.slice a n c, .slice b m d] 27))
  have hC := heap_alloc_new w (.cells #[.slice a n c, .slice b m d] 27 (0, 0))
  change (w.alloc (.cells #[.slice a n c, .slice b m d] 27)).heap[w.heap.size]? = _ at hC
  have hlt : w.heap.size < (w.alloc (.cells #[.slice a n c, .slice b m d] 27)).heap.size := by simp
  have KV := Lib.hid (told_is (areVersions_any (c := c) (h1.same HB.out)))
  have KX := Lib.hid (fun (w0 : World) (hb : Below w.heap.size w w0) => areExts_any (c := d) (h2.same hb))
  unfold isH
  clear h1 h2 h3
  cases hv : areV x.vers with
  | false =>
    rw [hv] at KV
    clear hC hv
    go_enter Tryz.func13, Tryz.ntmps13
    go_wp2_with fail
    refine KV.out.mono ?_
    rintro e w1 ⟨rfl, hb⟩
    have HB1 := Lib.hid (HB.out.trans (hb.mono HB.out.size))
    clear hb
    go_wp2_with fail
    go_ret
    exact ⟨rfl, HB1.out⟩
  | true =>
    rw [hv] at KV
    clear hv
    go_enter Tryz.func13, Tryz.ntmps13
    go_wp2_with fail
    generalize w.alloc (.cells #[.slice a n c, .slice b m d] 27) = W0 at *
    refine KV.out.mono ?_
    rintro e w1 ⟨rfl, hb⟩
    have HB1 := Lib.hid (HB.out.trans (hb.mono HB.out.size))
    obtain ⟨c0, c1, _, _⟩ := two_cells ((hb.block w.heap.size hlt).trans hC)
    clear hb hC
    go_wp2_with fail
    refine (KX.out w1 HB1.out).mono ?_
    rintro e w2 ⟨rfl, hb⟩
    have HB2 := Lib.hid (HB1.out.trans (hb.mono HB1.out.size))
    clear hb
    go_wp2_with fail
    go_ret
    exact ⟨rfl, HB2.out⟩

set_option maxHeartbeats 1000000 in
set_option maxRecDepth 100000 in
theorem isAnswer_any {w : World} {v : Value} {x : Ans} (h : AnsW w v x) : Calls Tryz.prog 19 #[v] w (Told (.bool (isA x)) w) := by
  obtain ⟨b, m, d, rfl, h2, h3⟩ := h
  have HB := Lib.hid (alloc_same w (.cells #[.int .i64 x.ver, .slice b m d] 44))
  have hC := heap_alloc_new w (.cells #[.int .i64 x.ver, .slice b m d] 44 (0, 0))
  change (w.alloc (.cells #[.int .i64 x.ver, .slice b m d] 44)).heap[w.heap.size]? = _ at hC
  have hlt : w.heap.size < (w.alloc (.cells #[.int .i64 x.ver, .slice b m d] 44)).heap.size := by simp
  have KV := Lib.hid (told_back (isVersion_any x.ver (w.alloc (.cells #[.int .i64 x.ver, .slice b m d] 44))))
  have KX := Lib.hid (fun (w0 : World) (hb : Below w.heap.size w w0) => areExts_any (c := d) (h2.same hb))
  unfold isA
  clear h2 h3
  cases hv : inBd x.ver 1 9 with
  | false =>
    rw [hv] at KV
    clear hC hv
    go_enter Tryz.func19, Tryz.ntmps19
    go_wp2_with fail
    refine KV.out.mono ?_
    rintro e w1 ⟨rfl, hb⟩
    have HB1 := Lib.hid (HB.out.trans (hb.mono HB.out.size))
    clear hb
    go_wp2_with fail
    go_ret
    exact ⟨rfl, HB1.out⟩
  | true =>
    rw [hv] at KV
    clear hv
    go_enter Tryz.func19, Tryz.ntmps19
    go_wp2_with fail
    generalize w.alloc (.cells #[.int .i64 x.ver, .slice b m d] 44) = W0 at *
    refine KV.out.mono ?_
    rintro e w1 ⟨rfl, hb⟩
    have HB1 := Lib.hid (HB.out.trans (hb.mono HB.out.size))
    obtain ⟨c0, c1, _, _⟩ := two_cells ((hb.block w.heap.size hlt).trans hC)
    clear hb hC
    go_wp2_with fail
    refine (KX.out w1 HB1.out).mono ?_
    rintro e w2 ⟨rfl, hb⟩
    have HB2 := Lib.hid (HB1.out.trans (hb.mono HB1.out.size))
    clear hb
    go_wp2_with fail
    go_ret
    exact ⟨rfl, HB2.out⟩

set_option maxHeartbeats 1000000 in
set_option maxRecDepth 100000 in
theorem specIsHello_any {w : World} {v : Value} {x : Hel} (h : HelW w v x) : Calls Tryz.prog 67 #[v] w (Told (.bool (isH x)) w) := by
  obtain ⟨a, n, c, b, m, d, rfl, h1, h2, h3⟩ := h
  have HB := Lib.hid (alloc_same w (.cells #[.slice a n c, .slice b m d] 27))
  have hC := heap_alloc_new w (.cells #[.slice a n c, .slice b m d] 27 (0, 0))
  change (w.alloc (.cells #[.slice a n c, .slice b m d] 27)).heap[w.heap.size]? = _ at hC
  have hlt : w.heap.size < (w.alloc (.cells #[.slice a n c, .slice b m d] 27)).heap.size := by simp
  have KV := Lib.hid (specAreVersions_any (c := c) (h1.same HB.out))
  have KX := Lib.hid (fun (w0 : World) (hb : Below w.heap.size w w0) => told_is (specAreExts_any (c := d) (h2.same hb)))
  unfold isH
  clear h1 h2 h3
  cases hv : areV x.vers with
  | false =>
    rw [hv] at KV
    clear hC hv
    go_enter Tryz.func67, Tryz.ntmps67
    go_wp2_with fail
    refine KV.out.mono ?_
    rintro e w1 ⟨rfl, hb⟩
    have HB1 := Lib.hid (HB.out.trans (hb.mono HB.out.size))
    clear hb
    go_wp2_with fail
    go_ret
    exact ⟨rfl, HB1.out⟩
  | true =>
    rw [hv] at KV
    clear hv
    go_enter Tryz.func67, Tryz.ntmps67
    go_wp2_with fail
    generalize w.alloc (.cells #[.slice a n c, .slice b m d] 27) = W0 at *
    refine KV.out.mono ?_
    rintro e w1 ⟨rfl, hb⟩
    have HB1 := Lib.hid (HB.out.trans (hb.mono HB.out.size))
    obtain ⟨c0, c1, _, _⟩ := two_cells ((hb.block w.heap.size hlt).trans hC)
    clear hb hC
    go_wp2_with fail
    refine (KX.out w1 HB1.out).mono ?_
    rintro e w2 ⟨rfl, hb⟩
    have HB2 := Lib.hid (HB1.out.trans (hb.mono HB1.out.size))
    clear hb
    go_wp2_with fail
    go_ret
    exact ⟨rfl, HB2.out⟩

set_option maxHeartbeats 1000000 in
set_option maxRecDepth 100000 in
theorem specIsAnswer_any {w : World} {v : Value} {x : Ans} (h : AnsW w v x) : Calls Tryz.prog 122 #[v] w (Told (.bool (isA x)) w) := by
  obtain ⟨b, m, d, rfl, h2, h3⟩ := h
  have HB := Lib.hid (alloc_same w (.cells #[.int .i64 x.ver, .slice b m d] 44))
  have hC := heap_alloc_new w (.cells #[.int .i64 x.ver, .slice b m d] 44 (0, 0))
  change (w.alloc (.cells #[.int .i64 x.ver, .slice b m d] 44)).heap[w.heap.size]? = _ at hC
  have hlt : w.heap.size < (w.alloc (.cells #[.int .i64 x.ver, .slice b m d] 44)).heap.size := by simp
  have KV := Lib.hid (told_back (l1R_b x.ver 1 9 (w.alloc (.cells #[.int .i64 x.ver, .slice b m d] 44))))
  have KX := Lib.hid (fun (w0 : World) (hb : Below w.heap.size w w0) => told_is (specAreExts_any (c := d) (h2.same hb)))
  unfold isA
  clear h2 h3
  cases hv : inBd x.ver 1 9 with
  | false =>
    rw [hv] at KV
    clear hC hv
    go_enter Tryz.func122, Tryz.ntmps122
    go_wp2_with fail
    refine KV.out.mono ?_
    rintro e w1 ⟨rfl, hb⟩
    have HB1 := Lib.hid (HB.out.trans (hb.mono HB.out.size))
    clear hb
    go_wp2_with fail
    go_ret
    exact ⟨rfl, HB1.out⟩
  | true =>
    rw [hv] at KV
    clear hv
    go_enter Tryz.func122, Tryz.ntmps122
    go_wp2_with fail
    generalize w.alloc (.cells #[.int .i64 x.ver, .slice b m d] 44) = W0 at *
    refine KV.out.mono ?_
    rintro e w1 ⟨rfl, hb⟩
    have HB1 := Lib.hid (HB.out.trans (hb.mono HB.out.size))
    obtain ⟨c0, c1, _, _⟩ := two_cells ((hb.block w.heap.size hlt).trans hC)
    clear hb hC
    go_wp2_with fail
    refine (KX.out w1 HB1.out).mono ?_
    rintro e w2 ⟨rfl, hb⟩
    have HB2 := Lib.hid (HB1.out.trans (hb.mono HB1.out.size))
    clear hb
    go_wp2_with fail
    go_ret
    exact ⟨rfl, HB2.out⟩

end Go.Proofs.YtcmjadfpifpknaaGreat
