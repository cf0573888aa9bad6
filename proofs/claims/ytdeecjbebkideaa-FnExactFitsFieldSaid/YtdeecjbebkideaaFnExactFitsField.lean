/- For every field and value: whether the value fits the field, as in the model. -/
import Derived.Test.YtdeecjbebkideaaFieldT
import Derived.Test.YtdeecjbebkideaaValS
import Derived.Test.YtdeecjbebkideaaFitsS
import Derived.Test.YtdeecjbebkideaaOpenV
import Derived.WalkKit
import Derived.Deep.RegionHeld3
import Derived.ProofKit
import Derived.OpenShut
namespace Go.Proofs.Ytdeecjbebkideaa.fnExactFitsField
open Go.ChangeShapes Go.WideShapes Go.ChangeAt Go.RowKit Go.Lib
open Go.ChangeMaps (open_string shut_string)
set_option linter.unusedVariables false

theorem own : ownKnob Try.prog.godebug = none := by kernel_rfl
set_option linter.unusedSimpArgs false
theorem cell_stay {w w' : World} {p : Addr} {v : Value} (h : w.cell? p = some v) (hb : Below w.heap.size w w') : w'.cell? p = some v := by rw [hb.cell (cell_in h)]; exact h
set_option maxHeartbeats 4000000 in
set_option maxRecDepth 100000 in
theorem walk (a0 : Fd) (k1 : Int) (a1 : Option Addr) (n1 c1 : Nat) (l1 : List Int) (w : World) (w0 : a0.wf) (K1 : Nums .i64 w a1 n1 l1) (F1 : (Lit.int .i64 k1).wf = true ∧ ∀ x ∈ l1, (Lit.int .i64 x).wf = true) (R1 : n1 ≤ c1 ∧ (c1 : Int) ≤ 9223372036854775807) :
    Calls Try.prog 4 #[Fd.val a0, .agg #[.int .i64 k1, .slice a1 n1 c1]] w fun e w' => e = .returned (.bool true) ∧ Below w.heap.size w w' := by
  obtain ⟨xk, xm, xt, xi⟩ := a0
  unfold Fd.val
  have hfit := K1.fits
  have HK := Lib.hid K1
  clear K1
  by_cases hbig : 1048576 < n1
  · have K := Lib.hid (fun w0 => szValue_any k1 a1 n1 c1 1048576 w0 hfit (by omega) (by omega))
    rw [show leftOf 1048576 n1 = -1 from if_neg (by omega)] at K
    go_enter Try.func4, Try.ntmps4
    go_wp2_with fail
    refine (K.out _).mono ?_
    rintro e w1 ⟨rfl, hb1⟩
    have HB1 := Lib.hid ((((Below.refl w.heap.size w).alloc (Nat.le_refl _) _).alloc (by simp) _).trans (hb1.mono (by simp; omega)))
    clear hb1
    go_wp2_with fail
    go_ret
    exact ⟨rfl, HB1.out⟩
  · have K := Lib.hid (fun w0 => szValue_any k1 a1 n1 c1 1048576 w0 hfit (by omega) (by omega))
    have h0 : (0 : Int) ≤ 1048576 - n1 := by omega
    rw [show leftOf 1048576 n1 = 1048576 - n1 from if_pos (by omega)] at K
    go_enter Try.func4, Try.ntmps4
    go_wp2_with fail
    refine (K.out _).mono ?_
    rintro e w1 ⟨rfl, hb⟩
    have c00 : w1.cell? ⟨w.heap.size, 0, none⟩ = some (.int .i64 xk) := by rw [hb.cell (by simp; omega)]; simp
    have c01 : w1.cell? ⟨w.heap.size, 1, none⟩ = some (.int .i64 xm) := by rw [hb.cell (by simp; omega)]; simp
    have c02 : w1.cell? ⟨w.heap.size, 2, none⟩ = some (.int .i64 xt) := by rw [hb.cell (by simp; omega)]; simp
    have c03 : w1.cell? ⟨w.heap.size, 3, none⟩ = some (.int .i64 xi) := by rw [hb.cell (by simp; omega)]; simp
    have c10 : w1.cell? ⟨w.heap.size + 1, 0, none⟩ = some (.int .i64 k1) := by rw [hb.cell (by simp)]; simp
    have c11 : w1.cell? ⟨w.heap.size + 1, 1, none⟩ = some (.slice a1 n1 c1) := by rw [hb.cell (by simp)]; simp
    have HB := Lib.hid ((((Below.refl w.heap.size w).alloc (Nat.le_refl _) _).alloc (by simp) _).trans (hb.mono (by simp; omega)))
    clear hb
    have C00 := Lib.hid c00
    have C01 := Lib.hid c01
    have C02 := Lib.hid c02
    have C03 := Lib.hid c03
    have C10 := Lib.hid c10
    have C11 := Lib.hid c11
    clear c00 c01 c02 c03 c10 c11
    go_wp2_with fail
    have HBd : Hid (Below w1.heap.size w1 w1.drew) := Lib.hid (Below.refl _ _).drew
    refine wp_region_held_drew (S := (fun w' => w'.cell? ⟨w.heap.size, 0, none⟩ = some (.int .i64 xk) ∧ w'.cell? ⟨w.heap.size, 1, none⟩ = some (.int .i64 xm) ∧ w'.cell? ⟨w.heap.size, 2, none⟩ = some (.int .i64 xt) ∧ w'.cell? ⟨w.heap.size, 3, none⟩ = some (.int .i64 xi) ∧ w'.cell? ⟨w.heap.size + 1, 0, none⟩ = some (.int .i64 k1) ∧ w'.cell? ⟨w.heap.size + 1, 1, none⟩ = some (.slice a1 n1 c1))) (by kernel_rfl) ⟨cell_stay C00.out HBd.out, cell_stay C01.out HBd.out, cell_stay C02.out HBd.out, cell_stay C03.out HBd.out, cell_stay C10.out HBd.out, cell_stay C11.out HBd.out⟩ (fun hHeld => ?_)
    refine wpAnyH_take (i := 0) (v := ?v1) (by simp only [List.getElem?_toArray, List.getElem?_cons_succ, List.getElem?_cons_zero]; rfl) (by kernel_rfl) (by kernel_rfl) (by kernel_rfl) (by exact fun _ _ _ h => h) (Or.inl ⟨by rfl, fun w9 hS9 => ?hy1⟩) hHeld ?rest1
    case hy1 =>
      dsimp only at hS9
      obtain ⟨s00, s01, s02, s03, s10, s11⟩ := hS9
      go_simp
      try with_reducible rfl
    try simp only [Act.put, List.setIfInBounds_toArray, List.set_cons_zero, List.set_cons_succ]
    refine wpAnyH_take (i := 2) (v := ?v2) (by simp only [List.getElem?_toArray, List.getElem?_cons_succ, List.getElem?_cons_zero]; rfl) (by kernel_rfl) (by kernel_rfl) (by kernel_rfl) (by exact fun _ _ _ h => h) (Or.inl ⟨by rfl, fun w9 hS9 => ?hy2⟩) hHeld ?rest2
    case hy2 =>
      dsimp only at hS9
      obtain ⟨s00, s01, s02, s03, s10, s11⟩ := hS9
      go_simp
      try with_reducible rfl
    try simp only [Act.put, List.setIfInBounds_toArray, List.set_cons_zero, List.set_cons_succ]
    refine wpAnyH_ready (rs := [1]) (by kernel_rfl) (by simp) (AllReadyH.cons (by simp only [List.getElem?_toArray, List.getElem?_cons_succ, List.getElem?_cons_zero]; rfl) (fun K hK => ?_) AllReadyH.nil)
    go_simp
    refine (toField_any ⟨xk, xm, xt, xi⟩ _).mono ?_
    rintro e w2 ⟨rfl, hb2⟩
    have HB2 : Hid (Below w1.heap.size w1 w2) := Lib.hid (HBd.out.trans (hb2.mono HBd.out.size))
    clear hb2
    go_wp2_with fail
    refine hK.out _ _ ⟨cell_stay C00.out HB2.out, cell_stay C01.out HB2.out, cell_stay C02.out HB2.out, cell_stay C03.out HB2.out, cell_stay C10.out HB2.out, cell_stay C11.out HB2.out⟩ (fun hHeld => ?_)
    clear hK K
    try simp only [Act.put, List.setIfInBounds_toArray, List.set_cons_zero, List.set_cons_succ]
    refine wpAnyH_ready (rs := [3]) (by kernel_rfl) (by simp) (AllReadyH.cons (by simp only [List.getElem?_toArray, List.getElem?_cons_succ, List.getElem?_cons_zero]; rfl) (fun K hK => ?_) AllReadyH.nil)
    go_simp
    refine (toValue_any k1 a1 n1 c1 l1 _ (HK.out.same (HB.out.trans (HB2.out.mono HB.out.size))) (by omega)).mono ?_
    rintro e w3 ⟨q0, m0, d0, rfl, ho, hb3⟩
    have HB3 : Hid (Below w1.heap.size w1 w3) := Lib.hid (HB2.out.trans (hb3.mono HB2.out.size))
    have HO0 := Lib.hid ho
    clear ho
    clear hb3
    go_wp2_with fail
    refine hK.out _ _ ⟨cell_stay C00.out HB3.out, cell_stay C01.out HB3.out, cell_stay C02.out HB3.out, cell_stay C03.out HB3.out, cell_stay C10.out HB3.out, cell_stay C11.out HB3.out⟩ (fun hHeld => ?_)
    clear hK K
    try simp only [Act.put, List.setIfInBounds_toArray, List.set_cons_zero, List.set_cons_succ]
    refine wpAnyH_ready (rs := [4]) (by kernel_rfl) (by simp) (AllReadyH.cons (by simp only [List.getElem?_toArray, List.getElem?_cons_succ, List.getElem?_cons_zero]; rfl) (fun K hK => ?_) AllReadyH.nil)
    go_simp
    refine (specFitsField_any ⟨xk, xm, xt, xi⟩ k1 q0 m0 d0 l1 _ HO0.out.nums).mono ?_
    rintro e w4 ⟨rfl, hb4⟩
    have HB4 : Hid (Below w1.heap.size w1 w4) := Lib.hid (HB3.out.trans (hb4.mono HB3.out.size))
    clear hb4
    go_wp2_with fail
    refine hK.out _ _ ⟨cell_stay C00.out HB4.out, cell_stay C01.out HB4.out, cell_stay C02.out HB4.out, cell_stay C03.out HB4.out, cell_stay C10.out HB4.out, cell_stay C11.out HB4.out⟩ (fun hHeld => ?_)
    clear hK K
    try simp only [Act.put, List.setIfInBounds_toArray, List.set_cons_zero, List.set_cons_succ]
    refine wpAnyH_take (i := 5) (v := ?v3) (by simp only [List.getElem?_toArray, List.getElem?_cons_succ, List.getElem?_cons_zero]; rfl) (by kernel_rfl) (by kernel_rfl) (by kernel_rfl) (by exact fun _ _ _ h => h) (Or.inl ⟨by rfl, fun w9 hS9 => ?hy3⟩) hHeld ?rest3
    case hy3 =>
      dsimp only at hS9
      obtain ⟨s00, s01, s02, s03, s10, s11⟩ := hS9
      go_simp
      try with_reducible rfl
    try simp only [Act.put, List.setIfInBounds_toArray, List.set_cons_zero, List.set_cons_succ]
    refine wpAnyH_done (by kernel_rfl) ?_ _
    have HW4 := Lib.hid (HB.out.trans (HB4.out.mono HB.out.size))
    have D00 := Lib.hid (cell_stay C00.out HB4.out)
    have D01 := Lib.hid (cell_stay C01.out HB4.out)
    have D02 := Lib.hid (cell_stay C02.out HB4.out)
    have D03 := Lib.hid (cell_stay C03.out HB4.out)
    have D10 := Lib.hid (cell_stay C10.out HB4.out)
    have D11 := Lib.hid (cell_stay C11.out HB4.out)
    clear C00 C01 C02 C03 C10 C11
    have f10 := D10.out
    have f11 := D11.out
    go_wp2_with fail
    refine (toValue_any k1 a1 n1 c1 l1 _ (HK.out.same HW4.out) (by omega)).mono ?_
    rintro e w5 ⟨q1, m1, d1, rfl, ho, hb5⟩
    clear f10 f11
    have hx : Below w4.heap.size w4 (w5.alloc (.cells #[.int .i64 k1, .slice q1 m1 d1] 43)) := hb5.alloc hb5.size _
    have HO1 := Lib.hid (ho.alloc (.cells #[.int .i64 k1, .slice q1 m1 d1] 43))
    have HW5 := Lib.hid (HW4.out.trans (hx.mono HW4.out.size))
    have E00 := Lib.hid (cell_stay D00.out hx)
    have E01 := Lib.hid (cell_stay D01.out hx)
    have E02 := Lib.hid (cell_stay D02.out hx)
    have E03 := Lib.hid (cell_stay D03.out hx)
    have E10 := Lib.hid (cell_stay D10.out hx)
    have E11 := Lib.hid (cell_stay D11.out hx)
    have E20 : Hid ((w5.alloc (.cells #[.int .i64 k1, .slice q1 m1 d1] 43)).cell? ⟨w5.heap.size, 0, none⟩ = some (.int .i64 k1)) := Lib.hid (by simp)
    have E21 : Hid ((w5.alloc (.cells #[.int .i64 k1, .slice q1 m1 d1] 43)).cell? ⟨w5.heap.size, 1, none⟩ = some (.slice q1 m1 d1)) := Lib.hid (by simp)
    clear ho hb5 hx D00 D01 D02 D03 D10 D11
    go_wp2_with fail
    generalize w5.alloc (.cells #[.int .i64 k1, .slice q1 m1 d1] 43) = w6 at *
    have HBd : Hid (Below w6.heap.size w6 w6.drew) := Lib.hid (Below.refl _ _).drew
    refine wp_region_held_drew (S := (fun w' => w'.cell? ⟨w.heap.size, 0, none⟩ = some (.int .i64 xk) ∧ w'.cell? ⟨w.heap.size, 1, none⟩ = some (.int .i64 xm) ∧ w'.cell? ⟨w.heap.size, 2, none⟩ = some (.int .i64 xt) ∧ w'.cell? ⟨w.heap.size, 3, none⟩ = some (.int .i64 xi) ∧ w'.cell? ⟨w.heap.size + 1, 0, none⟩ = some (.int .i64 k1) ∧ w'.cell? ⟨w.heap.size + 1, 1, none⟩ = some (.slice a1 n1 c1) ∧ w'.cell? ⟨w5.heap.size, 0, none⟩ = some (.int .i64 k1) ∧ w'.cell? ⟨w5.heap.size, 1, none⟩ = some (.slice q1 m1 d1))) (by kernel_rfl) ⟨cell_stay E00.out HBd.out, cell_stay E01.out HBd.out, cell_stay E02.out HBd.out, cell_stay E03.out HBd.out, cell_stay E10.out HBd.out, cell_stay E11.out HBd.out, cell_stay E20.out HBd.out, cell_stay E21.out HBd.out⟩ (fun hHeld => ?_)
    refine wpAnyH_take (i := 0) (v := ?v4) (by simp only [List.getElem?_toArray, List.getElem?_cons_succ, List.getElem?_cons_zero]; rfl) (by kernel_rfl) (by kernel_rfl) (by kernel_rfl) (by exact fun _ _ _ h => h) (Or.inl ⟨by rfl, fun w9 hS9 => ?hy4⟩) hHeld ?rest4
    case hy4 =>
      dsimp only at hS9
      obtain ⟨s00, s01, s02, s03, s10, s11, s20, s21⟩ := hS9
      go_simp
      try with_reducible rfl
    try simp only [Act.put, List.setIfInBounds_toArray, List.set_cons_zero, List.set_cons_succ]
    refine wpAnyH_take (i := 2) (v := ?v5) (by simp only [List.getElem?_toArray, List.getElem?_cons_succ, List.getElem?_cons_zero]; rfl) (by kernel_rfl) (by kernel_rfl) (by kernel_rfl) (by exact fun _ _ _ h => h) (Or.inl ⟨by rfl, fun w9 hS9 => ?hy5⟩) hHeld ?rest5
    case hy5 =>
      dsimp only at hS9
      obtain ⟨s00, s01, s02, s03, s10, s11, s20, s21⟩ := hS9
      go_simp
      try with_reducible rfl
    try simp only [Act.put, List.setIfInBounds_toArray, List.set_cons_zero, List.set_cons_succ]
    refine wpAnyH_ready (rs := [1]) (by kernel_rfl) (by simp) (AllReadyH.cons (by simp only [List.getElem?_toArray, List.getElem?_cons_succ, List.getElem?_cons_zero]; rfl) (fun K hK => ?_) AllReadyH.nil)
    go_simp
    refine (toField_any ⟨xk, xm, xt, xi⟩ _).mono ?_
    rintro e w7 ⟨rfl, hb7⟩
    have HB7 : Hid (Below w6.heap.size w6 w7) := Lib.hid (HBd.out.trans (hb7.mono HBd.out.size))
    clear hb7
    go_wp2_with fail
    refine hK.out _ _ ⟨cell_stay E00.out HB7.out, cell_stay E01.out HB7.out, cell_stay E02.out HB7.out, cell_stay E03.out HB7.out, cell_stay E10.out HB7.out, cell_stay E11.out HB7.out, cell_stay E20.out HB7.out, cell_stay E21.out HB7.out⟩ (fun hHeld => ?_)
    clear hK K
    try simp only [Act.put, List.setIfInBounds_toArray, List.set_cons_zero, List.set_cons_succ]
    refine wpAnyH_ready (rs := [3]) (by kernel_rfl) (by simp) (AllReadyH.cons (by simp only [List.getElem?_toArray, List.getElem?_cons_succ, List.getElem?_cons_zero]; rfl) (fun K hK => ?_) AllReadyH.nil)
    go_simp
    refine (fitsField_any ⟨xk, xm, xt, xi⟩ k1 q1 m1 d1 l1 _ (HO1.out.same HB7.out).nums).mono ?_
    rintro e w8 ⟨rfl, hb8⟩
    have HB8 : Hid (Below w6.heap.size w6 w8) := Lib.hid (HB7.out.trans (hb8.mono HB7.out.size))
    clear hb8
    go_wp2_with fail
    refine hK.out _ _ ⟨cell_stay E00.out HB8.out, cell_stay E01.out HB8.out, cell_stay E02.out HB8.out, cell_stay E03.out HB8.out, cell_stay E10.out HB8.out, cell_stay E11.out HB8.out, cell_stay E20.out HB8.out, cell_stay E21.out HB8.out⟩ (fun hHeld => ?_)
    clear hK K
    try simp only [Act.put, List.setIfInBounds_toArray, List.set_cons_zero, List.set_cons_succ]
    refine wpAnyH_take (i := 4) (v := ?v6) (by simp only [List.getElem?_toArray, List.getElem?_cons_succ, List.getElem?_cons_zero]; rfl) (by kernel_rfl) (by kernel_rfl) (by kernel_rfl) (by exact fun _ _ _ h => h) (Or.inl ⟨by rfl, fun w9 hS9 => ?hy6⟩) hHeld ?rest6
    case hy6 =>
      dsimp only at hS9
      obtain ⟨s00, s01, s02, s03, s10, s11, s20, s21⟩ := hS9
      go_simp
      try with_reducible rfl
    try simp only [Act.put, List.setIfInBounds_toArray, List.set_cons_zero, List.set_cons_succ]
    refine wpAnyH_done (by kernel_rfl) ?_ _
    have HW6 := Lib.hid (HW5.out.trans (HB8.out.mono HW5.out.size))
    have F10 := Lib.hid (cell_stay E10.out HB8.out)
    have F11 := Lib.hid (cell_stay E11.out HB8.out)
    have F20 := Lib.hid (cell_stay E20.out HB8.out)
    have F21 := Lib.hid (cell_stay E21.out HB8.out)
    replace HO1 := Lib.hid (HO1.out.same HB8.out)
    clear E00 E01 E02 E03 E10 E11 E20 E21
    go_wp2_with fail
    have HBd : Hid (Below w8.heap.size w8 w8.drew) := Lib.hid (Below.refl _ _).drew
    refine wp_region_held_drew (S := (fun w' => w'.cell? ⟨w.heap.size + 1, 0, none⟩ = some (.int .i64 k1) ∧ w'.cell? ⟨w.heap.size + 1, 1, none⟩ = some (.slice a1 n1 c1) ∧ w'.cell? ⟨w5.heap.size, 0, none⟩ = some (.int .i64 k1) ∧ w'.cell? ⟨w5.heap.size, 1, none⟩ = some (.slice q1 m1 d1))) (by kernel_rfl) ⟨cell_stay F10.out HBd.out, cell_stay F11.out HBd.out, cell_stay F20.out HBd.out, cell_stay F21.out HBd.out⟩ (fun hHeld => ?_)
    refine wpAnyH_take (i := 0) (v := ?v7) (by simp only [List.getElem?_toArray, List.getElem?_cons_succ, List.getElem?_cons_zero]; rfl) (by kernel_rfl) (by kernel_rfl) (by kernel_rfl) (by exact fun _ _ _ h => h) (Or.inl ⟨by rfl, fun w9 hS9 => ?hy7⟩) hHeld ?rest7
    case hy7 =>
      dsimp only at hS9
      obtain ⟨s10, s11, s20, s21⟩ := hS9
      go_simp
      try with_reducible rfl
    try simp only [Act.put, List.setIfInBounds_toArray, List.set_cons_zero, List.set_cons_succ]
    refine wpAnyH_take (i := 1) (v := ?v8) (by simp only [List.getElem?_toArray, List.getElem?_cons_succ, List.getElem?_cons_zero]; rfl) (by kernel_rfl) (by kernel_rfl) (by kernel_rfl) (by exact fun _ _ _ h => h) (Or.inl ⟨by rfl, fun w9 hS9 => ?hy8⟩) hHeld ?rest8
    case hy8 =>
      dsimp only at hS9
      obtain ⟨s10, s11, s20, s21⟩ := hS9
      go_simp
      try with_reducible rfl
    try simp only [Act.put, List.setIfInBounds_toArray, List.set_cons_zero, List.set_cons_succ]
    refine wpAnyH_ready (rs := [2]) (by kernel_rfl) (by simp) (AllReadyH.cons (by simp only [List.getElem?_toArray, List.getElem?_cons_succ, List.getElem?_cons_zero]; rfl) (fun K hK => ?_) AllReadyH.nil)
    go_simp
    refine (toValue_any k1 a1 n1 c1 l1 _ (HK.out.same (HW6.out.trans (HBd.out.mono HW6.out.size))) (by omega)).mono ?_
    rintro e w9 ⟨q2, m2, d2, rfl, ho, hb9⟩
    have HB9 : Hid (Below w8.heap.size w8 w9) := Lib.hid (HBd.out.trans (hb9.mono HBd.out.size))
    have HO2 := Lib.hid ho
    have HO1b := Lib.hid (HO1.out.same (HB9.out))
    clear ho
    clear hb9
    go_wp2_with fail
    refine hK.out _ _ ⟨cell_stay F10.out HB9.out, cell_stay F11.out HB9.out, cell_stay F20.out HB9.out, cell_stay F21.out HB9.out⟩ (fun hHeld => ?_)
    clear hK K
    try simp only [Act.put, List.setIfInBounds_toArray, List.set_cons_zero, List.set_cons_succ]
    refine wpAnyH_ready (rs := [3]) (by kernel_rfl) (by simp) (AllReadyH.cons (by simp only [List.getElem?_toArray, List.getElem?_cons_succ, List.getElem?_cons_zero]; rfl) (fun K hK => ?_) AllReadyH.nil)
    go_simp
    refine (eqValue_yes k1 q1 q2 m1 m2 d1 d2 l1 _ HO1b.out.nums HO2.out.nums).mono ?_
    rintro e w10 ⟨rfl, hb10⟩
    have HB10 : Hid (Below w8.heap.size w8 w10) := Lib.hid (HB9.out.trans (hb10.mono HB9.out.size))
    clear hb10
    go_wp2_with fail
    refine hK.out _ _ ⟨cell_stay F10.out HB10.out, cell_stay F11.out HB10.out, cell_stay F20.out HB10.out, cell_stay F21.out HB10.out⟩ (fun hHeld => ?_)
    clear hK K
    try simp only [Act.put, List.setIfInBounds_toArray, List.set_cons_zero, List.set_cons_succ]
    refine wpAnyH_take (i := 4) (v := ?v9) (by simp only [List.getElem?_toArray, List.getElem?_cons_succ, List.getElem?_cons_zero]; rfl) (by kernel_rfl) (by kernel_rfl) (by kernel_rfl) (by exact fun _ _ _ h => h) (Or.inl ⟨by rfl, fun w9 hS9 => ?hy9⟩) hHeld ?rest9
    case hy9 =>
      dsimp only at hS9
      obtain ⟨s10, s11, s20, s21⟩ := hS9
      go_simp
      try with_reducible rfl
    try simp only [Act.put, List.setIfInBounds_toArray, List.set_cons_zero, List.set_cons_succ]
    refine wpAnyH_done (by kernel_rfl) ?_ _
    have HW10 := Lib.hid (HW6.out.trans (HB10.out.mono HW6.out.size))
    go_wp2_with fail
    go_ret
    exact ⟨rfl, HW10.out⟩

set_option maxRecDepth 100000 in
theorem lifted (os : Os) (started : os.Started) (H : Type) (enc : TypeId × Value → H) :
    ReturnsInHanded {} Try.checked os 4 .any (Rows.fnExactFitsFieldSpec.pre6 enc Try.prog Try.f4 Rows.fnExactFitsFieldRow.domain false) (Rows.fnExactFitsFieldSpec.post enc Try.prog Try.f4 false true false false) := by
  refine returnsInHanded_of_change (C := Try.checked) own started (by kernel_rfl) Try.func4
    (ChangeSpec.witness6 (enc := enc) (C := Try.checked) false ⟨#[], #[.agg #[.int .i64 0, .int .i64 0, .int .i64 0, .int .i64 0], .agg #[.int .i64 0, .slice none 0 0]], []⟩ 8 (by kernel_rfl) (by kernel_rfl) (by kernel_rfl) (by kernel_rfl)) ?_
  intro W base args ds gs before hval0 hW hcnd _
  have hval : ∀ (j : Nat) t v, Try.f4.params[j]? = some t → args[j]? = some v → Value.okWide Try.prog W .any base t v := hval0
  have hW' := hW
  obtain ⟨p, q, hA0, hV, rfl, hfz, hnd⟩ := hW
  have hA : DataW.TrodAll enc Try.prog W 0 (fun _ => true) true Try.f4.params.toList args.toList ds p := hA0
  rw [Try.params4] at hA hval
  obtain ⟨v0, vs0, d0, ds0, p0, q0, hargs, rfl, rfl, h0, r0⟩ := trodAll_cons hA
  obtain ⟨v1, vs1, d1, ds1, p1, q1, rfl, rfl, rfl, h1, r1⟩ := trodAll_cons r0
  obtain ⟨rfl, rfl, rfl⟩ := trodAll_nil r1
  obtain rfl : args = #[v0, v1] := by cases args; simp_all
  obtain ⟨rfl, rfl⟩ := trodVars_none hV
  have h0k := h0
  have hlt0 : ∀ x ∈ p0, x.block < W.heap.size := fun x hx => by simpa using hW'.lt x (by simp [hx])
  obtain ⟨a0, rfl, w0⟩ := open_fd Try.underlying35 (by kernel_rfl) (by kernel_rfl) Try.underlying3 Try.underlying3 Try.underlying3 Try.underlying3 (hval 0 35 v0 rfl rfl) h0
  have h1k := h1
  have hlt1 : ∀ x ∈ p1, x.block < W.heap.size := fun x hx => by simpa using hW'.lt x (by simp [hx])
  obtain ⟨k1, a1, n1, c1, l1, rfl, K1, F1, R1⟩ := open_val Try.underlying38 (by kernel_rfl) (by kernel_rfl) Try.underlying3 Try.underlying36 Try.underlying3 int_cells (hval 1 38 v1 rfl rfl) h1
  clear hA0 hval0
  simp only [List.append_nil] at hW'
  refine (walk a0 k1 a1 n1 c1 l1 W w0 K1 F1 R1).mono fun e W' ⟨he, hb⟩ => ?_
  subst he
  exact ⟨_, rfl, ⟨_, _, _, [], _, [], hW', (trodAll_cons_mk (shut_bool Try.underlying4 _) trodAll_mk0), (trodAll_cons_mk (Below.trod laidOut (by kernel_rfl) (of_decide_eq_true (by kernel_rfl)) h0k hb hlt0) (trodAll_cons_mk (Below.trod laidOut (by kernel_rfl) (of_decide_eq_true (by kernel_rfl)) h1k hb hlt1) trodAll_mk0)), rfl, hb.frame _, fun h => by cases h⟩⟩

theorem over : Rows.fnExactFitsFieldRow.holds Try.pinned (OpenSpec.ofChange Rows.fnExactFitsFieldSpec) :=
  OpenClaim.holds_of_wide 4 Try.f4 rfl rfl rfl rfl rfl rfl rfl ⟨rfl, rfl, rfl, rfl, rfl⟩ rfl rfl rfl rfl rfl (by kernel_rfl) Try.func4 (by kernel_rfl)
    (of_decide_eq_true (by kernel_rfl)) (by unfold Func.isWrapper; first | (rw [if_pos (by decide +kernel)]; kernel_rfl) | (rw [if_neg (by decide +kernel)]; exact ⟨rfl, rfl⟩))
    (fun os started H enc _ => lifted os started H enc)

theorem proved : Rows.FnExactFitsFieldSaid :=
  over
end Go.Proofs.Ytdeecjbebkideaa.fnExactFitsField
