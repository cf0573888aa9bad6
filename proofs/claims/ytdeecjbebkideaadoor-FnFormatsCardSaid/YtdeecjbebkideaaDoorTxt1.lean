/- A field's text, by the program. -/
import Derived.Test.YtdeecjbebkideaaDoorTxt0
import Derived.Test.YtdeecjbebkideaaDoorName
import Derived.Test.YtdeecjbebkideaaDoorLaid
namespace Go.Proofs.YtdeecjbebkideaaDoor
open Go.ChangeShapes Go.WideShapes Go.ChangeAt Go.RowKit Go.Lib
set_option linter.unusedVariables false
set_option linter.unusedSimpArgs false

set_option maxHeartbeats 4000000 in
set_option maxRecDepth 100000 in
theorem fieldText_any (x : Fd) (w : World) (hs : Small x) (ht : Pow10 w) : Calls Tryd.prog 39 #[x.val] w (Told (.string ⟨(fdText x).toArray⟩) w) := by
  obtain ⟨xk, xm, xt, xi⟩ := x
  obtain ⟨⟨h1, h2⟩, h3⟩ := hs
  dsimp only at h1 h2 h3
  have a1 := nameOf_len xk
  have a2 := itoa_len20 (n := xm) (by omega) (by omega)
  obtain ⟨s1, e1⟩ : ∃ s : ByteArray, s = ⟨(nameOf xk).toArray⟩ := ⟨_, rfl⟩
  obtain ⟨s2, e2⟩ : ∃ s : ByteArray, s = ⟨(itoa xm).toArray⟩ := ⟨_, rfl⟩
  obtain ⟨s3, e3⟩ : ∃ s : ByteArray, s = ⟨(nameOf xk ++ itoa xm).toArray⟩ := ⟨_, rfl⟩
  have K1 : Hid (∀ w, Calls Tryd.prog 62 #[.int .i64 xk] w (Told (.string s1) w)) := Lib.hid (by rw [e1]; exact fun w => fieldName_any xk w)
  have K2 : Hid (∀ w, Pow10 w → Calls Tryd.prog 63 #[.int .i64 xm] w (Told (.string s2) w)) := Lib.hid (by rw [e2]; exact fun w hw => fmt_any xm (by omega) (by omega) w hw)
  have j1 : ∀ w, (Op.stringOp .add s1 s2).run Tryd.prog w = .ok (.string s3) w := by rw [e1, e2, e3]; exact fun w => str_add _ _ (by omega) w
  have HT := Lib.hid ht
  unfold Fd.val
  by_cases hc : xt = -1
  · have hr : (⟨(fdText ⟨xk, xm, xt, xi⟩).toArray⟩ : ByteArray) = s3 := by rw [e3]; unfold fdText; dsimp only; rw [if_pos hc]
    have b1 : (xt == -1) = true := by simpa using hc
    rw [hr]
    clear e1 e2 e3 hr h3 a1 a2 ht hc
    go_enter Tryd.func39, Tryd.ntmps39
    go_wp2_with fail
    have HW0 : Hid (Below w.heap.size w (w.alloc (.cells #[.int .i64 xk, .int .i64 xm, .int .i64 xt, .int .i64 xi] 30))) := Lib.hid ((Below.refl _ w).alloc (Nat.le_refl _) _)
    have C0 : Hid ((w.alloc (.cells #[.int .i64 xk, .int .i64 xm, .int .i64 xt, .int .i64 xi] 30)).cell? ⟨w.heap.size, 0, none⟩ = some (.int .i64 xk)) := Lib.hid (by simp)
    have C1 : Hid ((w.alloc (.cells #[.int .i64 xk, .int .i64 xm, .int .i64 xt, .int .i64 xi] 30)).cell? ⟨w.heap.size, 1, none⟩ = some (.int .i64 xm)) := Lib.hid (by simp)
    have C2 : Hid ((w.alloc (.cells #[.int .i64 xk, .int .i64 xm, .int .i64 xt, .int .i64 xi] 30)).cell? ⟨w.heap.size, 2, none⟩ = some (.int .i64 xt)) := Lib.hid (by simp)
    have C3 : Hid ((w.alloc (.cells #[.int .i64 xk, .int .i64 xm, .int .i64 xt, .int .i64 xi] 30)).cell? ⟨w.heap.size, 3, none⟩ = some (.int .i64 xi)) := Lib.hid (by simp)
    generalize w.alloc (.cells #[.int .i64 xk, .int .i64 xm, .int .i64 xt, .int .i64 xi] 30) = W0 at *
    have HT0 := Lib.hid (pow_stays HT.out HW0.out (Nat.le_refl _))
    have HBd : Hid (Below W0.heap.size W0 W0.drew) := Lib.hid (Below.refl _ _).drew
    refine wp_region_held_drew (S := (fun w' => w'.cell? ⟨w.heap.size, 0, none⟩ = some (.int .i64 xk) ∧ w'.cell? ⟨w.heap.size, 1, none⟩ = some (.int .i64 xm))) (by kernel_rfl) ⟨cell_kept C0.out HBd.out, cell_kept C1.out HBd.out⟩ (fun hHeld => ?_)
    refine wpAnyH_take (i := 0) (v := ?v1) (by simp only [List.getElem?_toArray, List.getElem?_cons_succ, List.getElem?_cons_zero]; rfl) (by kernel_rfl) (by kernel_rfl) (by kernel_rfl) (by exact fun _ _ _ h => h) (Or.inl ⟨by rfl, fun w9 hS9 => ?hy1⟩) hHeld ?rest1
    case hy1 =>
      dsimp only at hS9
      obtain ⟨hs0, hs1⟩ := hS9
      go_simp
      try with_reducible rfl
    try simp only [Act.put, List.setIfInBounds_toArray, List.set_cons_zero, List.set_cons_succ]
    refine wpAnyH_take (i := 1) (v := ?v2) (by simp only [List.getElem?_toArray, List.getElem?_cons_succ, List.getElem?_cons_zero]; rfl) (by kernel_rfl) (by kernel_rfl) (by kernel_rfl) (by exact fun _ _ _ h => h) (Or.inl ⟨by rfl, fun w9 hS9 => ?hy2⟩) hHeld ?rest2
    case hy2 =>
      dsimp only at hS9
      obtain ⟨hs0, hs1⟩ := hS9
      go_simp
      try with_reducible rfl
    try simp only [Act.put, List.setIfInBounds_toArray, List.set_cons_zero, List.set_cons_succ]
    refine wpAnyH_take (i := 3) (v := ?v3) (by simp only [List.getElem?_toArray, List.getElem?_cons_succ, List.getElem?_cons_zero]; rfl) (by kernel_rfl) (by kernel_rfl) (by kernel_rfl) (by exact fun _ _ _ h => h) (Or.inl ⟨by rfl, fun w9 hS9 => ?hy3⟩) hHeld ?rest3
    case hy3 =>
      dsimp only at hS9
      obtain ⟨hs0, hs1⟩ := hS9
      go_simp
      try with_reducible rfl
    try simp only [Act.put, List.setIfInBounds_toArray, List.set_cons_zero, List.set_cons_succ]
    refine wpAnyH_take (i := 4) (v := ?v4) (by simp only [List.getElem?_toArray, List.getElem?_cons_succ, List.getElem?_cons_zero]; rfl) (by kernel_rfl) (by kernel_rfl) (by kernel_rfl) (by exact fun _ _ _ h => h) (Or.inl ⟨by rfl, fun w9 hS9 => ?hy4⟩) hHeld ?rest4
    case hy4 =>
      dsimp only at hS9
      obtain ⟨hs0, hs1⟩ := hS9
      go_simp
      try with_reducible rfl
    try simp only [Act.put, List.setIfInBounds_toArray, List.set_cons_zero, List.set_cons_succ]
    refine wpAnyH_ready (rs := [2]) (by kernel_rfl) (by simp) (AllReadyH.cons (by simp only [List.getElem?_toArray, List.getElem?_cons_succ, List.getElem?_cons_zero]; rfl) (fun K hK => ?_) AllReadyH.nil)
    go_simp
    refine (K1.out _).mono ?_
    rintro e w1 ⟨rfl, hb1⟩
    have HB1 : Hid (Below W0.heap.size W0 w1) := Lib.hid (HBd.out.trans (hb1.mono HBd.out.size))
    clear hb1
    go_wp2_with fail
    refine hK.out _ _ ⟨cell_kept C0.out HB1.out, cell_kept C1.out HB1.out⟩ (fun hHeld => ?_)
    clear hK K
    try simp only [Act.put, List.setIfInBounds_toArray, List.set_cons_zero, List.set_cons_succ]
    refine wpAnyH_ready (rs := [5]) (by kernel_rfl) (by simp) (AllReadyH.cons (by simp only [List.getElem?_toArray, List.getElem?_cons_succ, List.getElem?_cons_zero]; rfl) (fun K hK => ?_) AllReadyH.nil)
    go_simp
    refine (K2.out _ (pow_stays HT0.out HB1.out (Nat.le_refl _))).mono ?_
    rintro e w2 ⟨rfl, hb2⟩
    have HB2 : Hid (Below W0.heap.size W0 w2) := Lib.hid (HB1.out.trans (hb2.mono HB1.out.size))
    clear hb2
    go_wp2_with fail
    refine hK.out _ _ ⟨cell_kept C0.out HB2.out, cell_kept C1.out HB2.out⟩ (fun hHeld => ?_)
    clear hK K
    try simp only [Act.put, List.setIfInBounds_toArray, List.set_cons_zero, List.set_cons_succ]
    refine wpAnyH_take (i := 6) (v := ?v5) (by simp only [List.getElem?_toArray, List.getElem?_cons_succ, List.getElem?_cons_zero]; rfl) (by kernel_rfl) (by kernel_rfl) (by kernel_rfl) (by exact fun _ _ _ h => h) (Or.inl ⟨by rfl, fun w9 hS9 => ?hy5⟩) hHeld ?rest5
    case hy5 =>
      dsimp only at hS9
      obtain ⟨hs0, hs1⟩ := hS9
      go_simp
      try with_reducible rfl
    try simp only [Act.put, List.setIfInBounds_toArray, List.set_cons_zero, List.set_cons_succ]
    refine wpAnyH_take (i := 7) (v := ?v6) (by simp only [List.getElem?_toArray, List.getElem?_cons_succ, List.getElem?_cons_zero]; rfl) (by kernel_rfl) (by kernel_rfl) (by kernel_rfl) (by exact fun _ _ _ h => h) (Or.inl ⟨by rfl, fun w9 hS9 => ?hy6⟩) hHeld ?rest6
    case hy6 =>
      dsimp only at hS9
      obtain ⟨hs0, hs1⟩ := hS9
      go_simp
      try with_reducible rfl
    try simp only [Act.put, List.setIfInBounds_toArray, List.set_cons_zero, List.set_cons_succ]
    refine wpAnyH_done (by kernel_rfl) ?_ _
    have f2 := cell_kept C2.out HB2.out
    have f3 := cell_kept C3.out HB2.out
    go_wp2
    go_ret
    exact ⟨rfl, HW0.out.trans (HB2.out.mono HW0.out.size)⟩
  · have b1 : (xt == -1) = false := by simpa using hc
    have a3 := itoa_len20 (n := xt) (by omega) (by omega)
    have a4 := itoa_len20 (n := xi) (by omega) (by omega)
    obtain ⟨s4, e4⟩ : ∃ s : ByteArray, s = ⟨((nameOf xk ++ itoa xm) ++ [63]).toArray⟩ := ⟨_, rfl⟩
    obtain ⟨s5, e5⟩ : ∃ s : ByteArray, s = ⟨(itoa xt).toArray⟩ := ⟨_, rfl⟩
    obtain ⟨s6, e6⟩ : ∃ s : ByteArray, s = ⟨(((nameOf xk ++ itoa xm) ++ [63]) ++ itoa xt).toArray⟩ := ⟨_, rfl⟩
    obtain ⟨s7, e7⟩ : ∃ s : ByteArray, s = ⟨((((nameOf xk ++ itoa xm) ++ [63]) ++ itoa xt) ++ [61]).toArray⟩ := ⟨_, rfl⟩
    obtain ⟨s8, e8⟩ : ∃ s : ByteArray, s = ⟨(itoa xi).toArray⟩ := ⟨_, rfl⟩
    obtain ⟨s9, e9⟩ : ∃ s : ByteArray, s = ⟨(((((nameOf xk ++ itoa xm) ++ [63]) ++ itoa xt) ++ [61]) ++ itoa xi).toArray⟩ := ⟨_, rfl⟩
    have K3 : Hid (∀ w, Pow10 w → Calls Tryd.prog 63 #[.int .i64 xt] w (Told (.string s5) w)) := Lib.hid (by rw [e5]; exact fun w hw => fmt_any xt (by omega) (by omega) w hw)
    have K4 : Hid (∀ w, Pow10 w → Calls Tryd.prog 63 #[.int .i64 xi] w (Told (.string s8) w)) := Lib.hid (by rw [e8]; exact fun w hw => fmt_any xi (by omega) (by omega) w hw)
    have j2 : ∀ w, (Op.stringOp .add s3 ⟨#[63]⟩).run Tryd.prog w = .ok (.string s4) w := by rw [e3, e4]; exact fun w => str_add _ [63] (by simp only [List.length_append, List.length_cons, List.length_nil]; omega) w
    have j3 : ∀ w, (Op.stringOp .add s4 s5).run Tryd.prog w = .ok (.string s6) w := by rw [e4, e5, e6]; exact fun w => str_add _ _ (by simp only [List.length_append, List.length_cons, List.length_nil]; omega) w
    have j4 : ∀ w, (Op.stringOp .add s6 ⟨#[61]⟩).run Tryd.prog w = .ok (.string s7) w := by rw [e6, e7]; exact fun w => str_add _ [61] (by simp only [List.length_append, List.length_cons, List.length_nil]; omega) w
    have j5 : ∀ w, (Op.stringOp .add s7 s8).run Tryd.prog w = .ok (.string s9) w := by rw [e7, e8, e9]; exact fun w => str_add _ _ (by simp only [List.length_append, List.length_cons, List.length_nil]; omega) w
    have hr : (⟨(fdText ⟨xk, xm, xt, xi⟩).toArray⟩ : ByteArray) = s9 := by rw [e9]; unfold fdText; dsimp only; rw [if_neg hc]
    rw [hr]
    clear e1 e2 e3 e4 e5 e6 e7 e8 e9 hr h3 a1 a2 a3 a4 ht hc
    go_enter Tryd.func39, Tryd.ntmps39
    go_wp2_with fail
    have HW0 : Hid (Below w.heap.size w (w.alloc (.cells #[.int .i64 xk, .int .i64 xm, .int .i64 xt, .int .i64 xi] 30))) := Lib.hid ((Below.refl _ w).alloc (Nat.le_refl _) _)
    have C0 : Hid ((w.alloc (.cells #[.int .i64 xk, .int .i64 xm, .int .i64 xt, .int .i64 xi] 30)).cell? ⟨w.heap.size, 0, none⟩ = some (.int .i64 xk)) := Lib.hid (by simp)
    have C1 : Hid ((w.alloc (.cells #[.int .i64 xk, .int .i64 xm, .int .i64 xt, .int .i64 xi] 30)).cell? ⟨w.heap.size, 1, none⟩ = some (.int .i64 xm)) := Lib.hid (by simp)
    have C2 : Hid ((w.alloc (.cells #[.int .i64 xk, .int .i64 xm, .int .i64 xt, .int .i64 xi] 30)).cell? ⟨w.heap.size, 2, none⟩ = some (.int .i64 xt)) := Lib.hid (by simp)
    have C3 : Hid ((w.alloc (.cells #[.int .i64 xk, .int .i64 xm, .int .i64 xt, .int .i64 xi] 30)).cell? ⟨w.heap.size, 3, none⟩ = some (.int .i64 xi)) := Lib.hid (by simp)
    generalize w.alloc (.cells #[.int .i64 xk, .int .i64 xm, .int .i64 xt, .int .i64 xi] 30) = W0 at *
    have HT0 := Lib.hid (pow_stays HT.out HW0.out (Nat.le_refl _))
    have HBd : Hid (Below W0.heap.size W0 W0.drew) := Lib.hid (Below.refl _ _).drew
    refine wp_region_held_drew (S := (fun w' => w'.cell? ⟨w.heap.size, 0, none⟩ = some (.int .i64 xk) ∧ w'.cell? ⟨w.heap.size, 1, none⟩ = some (.int .i64 xm))) (by kernel_rfl) ⟨cell_kept C0.out HBd.out, cell_kept C1.out HBd.out⟩ (fun hHeld => ?_)
    refine wpAnyH_take (i := 0) (v := ?v7) (by simp only [List.getElem?_toArray, List.getElem?_cons_succ, List.getElem?_cons_zero]; rfl) (by kernel_rfl) (by kernel_rfl) (by kernel_rfl) (by exact fun _ _ _ h => h) (Or.inl ⟨by rfl, fun w9 hS9 => ?hy7⟩) hHeld ?rest7
    case hy7 =>
      dsimp only at hS9
      obtain ⟨hs0, hs1⟩ := hS9
      go_simp
      try with_reducible rfl
    try simp only [Act.put, List.setIfInBounds_toArray, List.set_cons_zero, List.set_cons_succ]
    refine wpAnyH_take (i := 1) (v := ?v8) (by simp only [List.getElem?_toArray, List.getElem?_cons_succ, List.getElem?_cons_zero]; rfl) (by kernel_rfl) (by kernel_rfl) (by kernel_rfl) (by exact fun _ _ _ h => h) (Or.inl ⟨by rfl, fun w9 hS9 => ?hy8⟩) hHeld ?rest8
    case hy8 =>
      dsimp only at hS9
      obtain ⟨hs0, hs1⟩ := hS9
      go_simp
      try with_reducible rfl
    try simp only [Act.put, List.setIfInBounds_toArray, List.set_cons_zero, List.set_cons_succ]
    refine wpAnyH_take (i := 3) (v := ?v9) (by simp only [List.getElem?_toArray, List.getElem?_cons_succ, List.getElem?_cons_zero]; rfl) (by kernel_rfl) (by kernel_rfl) (by kernel_rfl) (by exact fun _ _ _ h => h) (Or.inl ⟨by rfl, fun w9 hS9 => ?hy9⟩) hHeld ?rest9
    case hy9 =>
      dsimp only at hS9
      obtain ⟨hs0, hs1⟩ := hS9
      go_simp
      try with_reducible rfl
    try simp only [Act.put, List.setIfInBounds_toArray, List.set_cons_zero, List.set_cons_succ]
    refine wpAnyH_take (i := 4) (v := ?v10) (by simp only [List.getElem?_toArray, List.getElem?_cons_succ, List.getElem?_cons_zero]; rfl) (by kernel_rfl) (by kernel_rfl) (by kernel_rfl) (by exact fun _ _ _ h => h) (Or.inl ⟨by rfl, fun w9 hS9 => ?hy10⟩) hHeld ?rest10
    case hy10 =>
      dsimp only at hS9
      obtain ⟨hs0, hs1⟩ := hS9
      go_simp
      try with_reducible rfl
    try simp only [Act.put, List.setIfInBounds_toArray, List.set_cons_zero, List.set_cons_succ]
    refine wpAnyH_ready (rs := [2]) (by kernel_rfl) (by simp) (AllReadyH.cons (by simp only [List.getElem?_toArray, List.getElem?_cons_succ, List.getElem?_cons_zero]; rfl) (fun K hK => ?_) AllReadyH.nil)
    go_simp
    refine (K1.out _).mono ?_
    rintro e w1 ⟨rfl, hb1⟩
    have HB1 : Hid (Below W0.heap.size W0 w1) := Lib.hid (HBd.out.trans (hb1.mono HBd.out.size))
    clear hb1
    go_wp2_with fail
    refine hK.out _ _ ⟨cell_kept C0.out HB1.out, cell_kept C1.out HB1.out⟩ (fun hHeld => ?_)
    clear hK K
    try simp only [Act.put, List.setIfInBounds_toArray, List.set_cons_zero, List.set_cons_succ]
    refine wpAnyH_ready (rs := [5]) (by kernel_rfl) (by simp) (AllReadyH.cons (by simp only [List.getElem?_toArray, List.getElem?_cons_succ, List.getElem?_cons_zero]; rfl) (fun K hK => ?_) AllReadyH.nil)
    go_simp
    refine (K2.out _ (pow_stays HT0.out HB1.out (Nat.le_refl _))).mono ?_
    rintro e w2 ⟨rfl, hb2⟩
    have HB2 : Hid (Below W0.heap.size W0 w2) := Lib.hid (HB1.out.trans (hb2.mono HB1.out.size))
    clear hb2
    go_wp2_with fail
    refine hK.out _ _ ⟨cell_kept C0.out HB2.out, cell_kept C1.out HB2.out⟩ (fun hHeld => ?_)
    clear hK K
    try simp only [Act.put, List.setIfInBounds_toArray, List.set_cons_zero, List.set_cons_succ]
    refine wpAnyH_take (i := 6) (v := ?v11) (by simp only [List.getElem?_toArray, List.getElem?_cons_succ, List.getElem?_cons_zero]; rfl) (by kernel_rfl) (by kernel_rfl) (by kernel_rfl) (by exact fun _ _ _ h => h) (Or.inl ⟨by rfl, fun w9 hS9 => ?hy11⟩) hHeld ?rest11
    case hy11 =>
      dsimp only at hS9
      obtain ⟨hs0, hs1⟩ := hS9
      go_simp
      try with_reducible rfl
    try simp only [Act.put, List.setIfInBounds_toArray, List.set_cons_zero, List.set_cons_succ]
    refine wpAnyH_take (i := 7) (v := ?v12) (by simp only [List.getElem?_toArray, List.getElem?_cons_succ, List.getElem?_cons_zero]; rfl) (by kernel_rfl) (by kernel_rfl) (by kernel_rfl) (by exact fun _ _ _ h => h) (Or.inl ⟨by rfl, fun w9 hS9 => ?hy12⟩) hHeld ?rest12
    case hy12 =>
      dsimp only at hS9
      obtain ⟨hs0, hs1⟩ := hS9
      go_simp
      try with_reducible rfl
    try simp only [Act.put, List.setIfInBounds_toArray, List.set_cons_zero, List.set_cons_succ]
    refine wpAnyH_done (by kernel_rfl) ?_ _
    have f2 := cell_kept C2.out HB2.out
    have f3 := cell_kept C3.out HB2.out
    go_wp2_with fail
    have D2 := Lib.hid f2
    have D3 := Lib.hid f3
    clear f2 f3
    have HW1 := Lib.hid (HW0.out.trans (HB2.out.mono HW0.out.size))
    have HT1 := Lib.hid (pow_stays HT.out HW1.out (Nat.le_refl _))
    clear C0 C1 C2 C3 HBd
    have HBd : Hid (Below w2.heap.size w2 w2.drew) := Lib.hid (Below.refl _ _).drew
    refine wp_region_held_drew (S := (fun w' => w'.cell? ⟨w.heap.size, 2, none⟩ = some (.int .i64 xt) ∧ w'.cell? ⟨w.heap.size, 3, none⟩ = some (.int .i64 xi))) (by kernel_rfl) ⟨cell_kept D2.out HBd.out, cell_kept D3.out HBd.out⟩ (fun hHeld => ?_)
    refine wpAnyH_take (i := 0) (v := ?v13) (by simp only [List.getElem?_toArray, List.getElem?_cons_succ, List.getElem?_cons_zero]; rfl) (by kernel_rfl) (by kernel_rfl) (by kernel_rfl) (by exact fun _ _ _ h => h) (Or.inl ⟨by rfl, fun w9 hS9 => ?hy13⟩) hHeld ?rest13
    case hy13 =>
      dsimp only at hS9
      obtain ⟨hs0, hs1⟩ := hS9
      go_simp
      try with_reducible rfl
    try simp only [Act.put, List.setIfInBounds_toArray, List.set_cons_zero, List.set_cons_succ]
    refine wpAnyH_take (i := 1) (v := ?v14) (by simp only [List.getElem?_toArray, List.getElem?_cons_succ, List.getElem?_cons_zero]; rfl) (by kernel_rfl) (by kernel_rfl) (by kernel_rfl) (by exact fun _ _ _ h => h) (Or.inl ⟨by rfl, fun w9 hS9 => ?hy14⟩) hHeld ?rest14
    case hy14 =>
      dsimp only at hS9
      obtain ⟨hs0, hs1⟩ := hS9
      go_simp
      try with_reducible rfl
    try simp only [Act.put, List.setIfInBounds_toArray, List.set_cons_zero, List.set_cons_succ]
    refine wpAnyH_take (i := 2) (v := ?v15) (by simp only [List.getElem?_toArray, List.getElem?_cons_succ, List.getElem?_cons_zero]; rfl) (by kernel_rfl) (by kernel_rfl) (by kernel_rfl) (by exact fun _ _ _ h => h) (Or.inl ⟨by rfl, fun w9 hS9 => ?hy15⟩) hHeld ?rest15
    case hy15 =>
      dsimp only at hS9
      obtain ⟨hs0, hs1⟩ := hS9
      go_simp
      try with_reducible rfl
    try simp only [Act.put, List.setIfInBounds_toArray, List.set_cons_zero, List.set_cons_succ]
    refine wpAnyH_take (i := 3) (v := ?v16) (by simp only [List.getElem?_toArray, List.getElem?_cons_succ, List.getElem?_cons_zero]; rfl) (by kernel_rfl) (by kernel_rfl) (by kernel_rfl) (by exact fun _ _ _ h => h) (Or.inl ⟨by rfl, fun w9 hS9 => ?hy16⟩) hHeld ?rest16
    case hy16 =>
      dsimp only at hS9
      obtain ⟨hs0, hs1⟩ := hS9
      go_simp
      try with_reducible rfl
    try simp only [Act.put, List.setIfInBounds_toArray, List.set_cons_zero, List.set_cons_succ]
    refine wpAnyH_take (i := 7) (v := ?v17) (by simp only [List.getElem?_toArray, List.getElem?_cons_succ, List.getElem?_cons_zero]; rfl) (by kernel_rfl) (by kernel_rfl) (by kernel_rfl) (by exact fun _ _ _ h => h) (Or.inl ⟨by rfl, fun w9 hS9 => ?hy17⟩) hHeld ?rest17
    case hy17 =>
      dsimp only at hS9
      obtain ⟨hs0, hs1⟩ := hS9
      go_simp
      try with_reducible rfl
    try simp only [Act.put, List.setIfInBounds_toArray, List.set_cons_zero, List.set_cons_succ]
    refine wpAnyH_take (i := 8) (v := ?v18) (by simp only [List.getElem?_toArray, List.getElem?_cons_succ, List.getElem?_cons_zero]; rfl) (by kernel_rfl) (by kernel_rfl) (by kernel_rfl) (by exact fun _ _ _ h => h) (Or.inl ⟨by rfl, fun w9 hS9 => ?hy18⟩) hHeld ?rest18
    case hy18 =>
      dsimp only at hS9
      obtain ⟨hs0, hs1⟩ := hS9
      go_simp
      try with_reducible rfl
    try simp only [Act.put, List.setIfInBounds_toArray, List.set_cons_zero, List.set_cons_succ]
    refine wpAnyH_ready (rs := [4]) (by kernel_rfl) (by simp) (AllReadyH.cons (by simp only [List.getElem?_toArray, List.getElem?_cons_succ, List.getElem?_cons_zero]; rfl) (fun K hK => ?_) AllReadyH.nil)
    go_simp
    refine (K3.out _ (pow_stays HT1.out HBd.out (Nat.le_refl _))).mono ?_
    rintro e w3 ⟨rfl, hb3⟩
    have HB3 : Hid (Below w2.heap.size w2 w3) := Lib.hid (HBd.out.trans (hb3.mono HBd.out.size))
    clear hb3
    go_wp2_with fail
    refine hK.out _ _ ⟨cell_kept D2.out HB3.out, cell_kept D3.out HB3.out⟩ (fun hHeld => ?_)
    clear hK K
    try simp only [Act.put, List.setIfInBounds_toArray, List.set_cons_zero, List.set_cons_succ]
    refine wpAnyH_take (i := 5) (v := ?v19) (by simp only [List.getElem?_toArray, List.getElem?_cons_succ, List.getElem?_cons_zero]; rfl) (by kernel_rfl) (by kernel_rfl) (by kernel_rfl) (by exact fun _ _ _ h => h) (Or.inl ⟨by rfl, fun w9 hS9 => ?hy19⟩) hHeld ?rest19
    case hy19 =>
      dsimp only at hS9
      obtain ⟨hs0, hs1⟩ := hS9
      go_simp
      try with_reducible rfl
    try simp only [Act.put, List.setIfInBounds_toArray, List.set_cons_zero, List.set_cons_succ]
    refine wpAnyH_take (i := 6) (v := ?v20) (by simp only [List.getElem?_toArray, List.getElem?_cons_succ, List.getElem?_cons_zero]; rfl) (by kernel_rfl) (by kernel_rfl) (by kernel_rfl) (by exact fun _ _ _ h => h) (Or.inl ⟨by rfl, fun w9 hS9 => ?hy20⟩) hHeld ?rest20
    case hy20 =>
      dsimp only at hS9
      obtain ⟨hs0, hs1⟩ := hS9
      go_simp
      try with_reducible rfl
    try simp only [Act.put, List.setIfInBounds_toArray, List.set_cons_zero, List.set_cons_succ]
    refine wpAnyH_ready (rs := [9]) (by kernel_rfl) (by simp) (AllReadyH.cons (by simp only [List.getElem?_toArray, List.getElem?_cons_succ, List.getElem?_cons_zero]; rfl) (fun K hK => ?_) AllReadyH.nil)
    go_simp
    refine (K4.out _ (pow_stays HT1.out HB3.out (Nat.le_refl _))).mono ?_
    rintro e w4 ⟨rfl, hb4⟩
    have HB4 : Hid (Below w2.heap.size w2 w4) := Lib.hid (HB3.out.trans (hb4.mono HB3.out.size))
    clear hb4
    go_wp2_with fail
    refine hK.out _ _ ⟨cell_kept D2.out HB4.out, cell_kept D3.out HB4.out⟩ (fun hHeld => ?_)
    clear hK K
    try simp only [Act.put, List.setIfInBounds_toArray, List.set_cons_zero, List.set_cons_succ]
    refine wpAnyH_take (i := 10) (v := ?v21) (by simp only [List.getElem?_toArray, List.getElem?_cons_succ, List.getElem?_cons_zero]; rfl) (by kernel_rfl) (by kernel_rfl) (by kernel_rfl) (by exact fun _ _ _ h => h) (Or.inl ⟨by rfl, fun w9 hS9 => ?hy21⟩) hHeld ?rest21
    case hy21 =>
      dsimp only at hS9
      obtain ⟨hs0, hs1⟩ := hS9
      go_simp
      try with_reducible rfl
    try simp only [Act.put, List.setIfInBounds_toArray, List.set_cons_zero, List.set_cons_succ]
    refine wpAnyH_take (i := 11) (v := ?v22) (by simp only [List.getElem?_toArray, List.getElem?_cons_succ, List.getElem?_cons_zero]; rfl) (by kernel_rfl) (by kernel_rfl) (by kernel_rfl) (by exact fun _ _ _ h => h) (Or.inl ⟨by rfl, fun w9 hS9 => ?hy22⟩) hHeld ?rest22
    case hy22 =>
      dsimp only at hS9
      obtain ⟨hs0, hs1⟩ := hS9
      go_simp
      try with_reducible rfl
    try simp only [Act.put, List.setIfInBounds_toArray, List.set_cons_zero, List.set_cons_succ]
    refine wpAnyH_done (by kernel_rfl) ?_ _
    go_wp2
    go_ret
    exact ⟨rfl, HW1.out.trans (HB4.out.mono HW1.out.size)⟩
end Go.Proofs.YtdeecjbebkideaaDoor
