/- For every input of bytes: of two drawn machines, where the newer one follows the older one, whoever is safe with the older one is safe with the newer one (its dual and two drawn machines), and every pair that both reach keeps to it; where it does not, the model says so; a machine follows itself just where it is valid. -/
import Derived.Test.YtckmgbobkffabaaGreatG2
import Derived.Test.YtckmgbobkffabaaGreatG3
import Derived.Test.YtckmgbobkffabaaGreatG16
import Derived.Test.YtckmgbobkffabaaGreatG13
import Derived.Test.YtckmgbobkffabaaGreatG27
import Derived.Test.YtckmgbobkffabaaGreatG33
import Derived.Test.YtckmgbobkffabaaGreatG32
import Derived.Test.YtckmgbobkffabaaGreatG38
import Derived.Test.YtckmgbobkffabaaGreatG39
import Derived.WalkKit
import Derived.Deep.RegionHeld3
import Derived.ProofKit
import Derived.OpenShut
namespace Go.Proofs.YtckmgbobkffabaaGreat.fnFollows
open Go.ChangeShapes Go.WideShapes Go.ChangeAt Go.RowKit Go.Lib
open Go.ChangeMaps (open_string shut_string)
set_option linter.unusedVariables false

theorem own : ownKnob Tryz.prog.godebug = none := by kernel_rfl
set_option linter.unusedSimpArgs false

set_option maxHeartbeats 40000000 in
set_option maxRecDepth 100000 in
theorem walk (a0 : Option Addr) (n0 c0 : Nat) (l0 : List Int) (w : World) (K0 : Nums .u8 w a0 n0 l0) (F0 : ∀ x ∈ l0, (Lit.int .u8 x).wf = true) (R0 : n0 ≤ c0 ∧ (c0 : Int) ≤ 9223372036854775807) :
  Calls Tryz.prog 3 #[.slice a0 n0 c0] w fun e w' => e = .returned (.bool true) ∧ Below w.heap.size w w' := by
 have HK0 := Lib.hid K0
 have HF := Lib.hid (bs_of_wf F0)
 have hfit := K0.fits
 clear K0 F0 R0
 by_cases hbig : 1048576 < n0
 ·go_enter Tryz.func3, Tryz.ntmps3
  go_wp2_with fail
  refine (big_yes a0 n0 c0 hfit hbig _).mono ?_
  rintro e w1 ⟨rfl, rfl⟩
  go_wp2_with fail
  go_ret
  exact ⟨rfl, Below.refl _ _⟩
 ·have HC := Lib.hid (code_of HK0.out HF.out)
  go_enter Tryz.func3, Tryz.ntmps3
  go_wp2_with fail
  refine (big_no a0 n0 c0 hfit hbig _).mono ?_
  rintro e w1 ⟨rfl, rfl⟩
  clear hfit hbig HK0 HF
  go_wp2_with fail
  refine (drawFollows_any a0 n0 c0 _ HC.out).mono ?_
  rintro e w_W2 ⟨va, a, vb, b, rfl, hoa, hka, hob, hkb, hz⟩
  obtain ⟨pa, ka, ra, qa, ma, da, rfl⟩ := hoa.shape
  obtain ⟨pb, kb, rb, qb, mb, db, rfl⟩ := hob.shape
  have hpa : a.parts ≤ 100 := by unfold Mac.parts; have := hka.1; have := hka.2.1; omega
  have hpb : b.parts ≤ 100 := by unfold Mac.parts; have := hkb.1; have := hkb.2.1; omega
  obtain ⟨hBB, hX, hY, hS2⟩ := twice w_W2 #[.int .i64 a.st, .slice pa ka ra, .slice qa ma da] #[.int .i64 b.st, .slice pb kb rb, .slice qb mb db] 27 27
  have HM1 := Lib.hid (hoa.mac.same hBB)
  have HM2 := Lib.hid (hob.mac.same hBB)
  have HW1 := Lib.hid (And.intro hka.wmv hkb.wmv)
  have HX1 := Lib.hid hX
  have HX2 := Lib.hid hY
  have HB : Hid (Below w.heap.size w ((w_W2.alloc (.cells #[.int .i64 a.st, .slice pa ka ra, .slice qa ma da] 27)).alloc (.cells #[.int .i64 b.st, .slice pb kb rb, .slice qb mb db] 27))) := Lib.hid (hz.trans (hBB.mono hz.size))
  clear hoa hob hka hkb hz hBB hX hY hS2
  obtain ⟨x0, x1, x2, -⟩ := three_cells HX1.out
  obtain ⟨y0, y1, y2, -⟩ := three_cells HX2.out
  go_wp2_with fail
  clear x0 x1 x2 y0 y1 y2
  obtain ⟨G1, hG1⟩ : ∃ u, u = w_W2.heap.size := ⟨_, rfl⟩
  obtain ⟨G2, hG2⟩ : ∃ u, u = w_W2.heap.size + 1 := ⟨_, rfl⟩
  rw [← hG1] at HX1
  rw [← hG2] at HX2
  rw [← hG2, ← hG1]
  clear hG1 hG2
  generalize (w_W2.alloc (.cells #[.int .i64 a.st, .slice pa ka ra, .slice qa ma da] 27)).alloc (.cells #[.int .i64 b.st, .slice pb kb rb, .slice qb mb db] 27) = W2 at *
  have hl1 : G1 < W2.heap.size := (Array.getElem?_eq_some_iff.1 HX1.out).1
  have hl2 : G2 < W2.heap.size := (Array.getElem?_eq_some_iff.1 HX2.out).1
  have HIB := Lib.hid (fun W' (h : Below W2.heap.size W2 W') => isMachine_any (HM2.out.same h))
  have HFB : Hid (∀ W', Below W2.heap.size W2 W' → Calls Tryz.prog 6 #[.agg #[.int .i64 b.st, .slice pb kb rb, .slice qb mb db], .agg #[.int .i64 b.st, .slice pb kb rb, .slice qb mb db]] W' (Told (.bool (isMac b)) W')) := Lib.hid fun W' h => by
   have q := follows_any (HM2.out.same h) (HM2.out.same h) HW1.out.2 HW1.out.2 (by omega) (by omega)
   rw [follow_self] at q
   exact q
  have HWD : Hid (∀ z ∈ (dualM b).moves, Wmv z) := Lib.hid (fun z hz => by
   obtain ⟨u, hu, rfl⟩ := List.mem_map.1 hz
   exact HW1.out.2 u hu)
  have hpd9 : (dualM b).parts ≤ 100 := by rw [dualM_parts]; exact hpb
  refine (follows_any HM1.out HM2.out HW1.out.1 HW1.out.2 (by omega) (by omega)).mono ?_
  rintro e W3 ⟨rfl, hz⟩
  have HD3 := Lib.hid hz
  clear hz
  cases hfo : followsP a b with
  | false =>
   have HSF : Hid (∀ W', Below W2.heap.size W2 W' → Calls Tryz.prog 8 #[.agg #[.int .i64 a.st, .slice pa ka ra, .slice qa ma da], .agg #[.int .i64 b.st, .slice pb kb rb, .slice qb mb db]] W' (Told (.bool false) W')) := Lib.hid fun W' h => by
    have q := specFollows_any (HM1.out.same h) (HM2.out.same h) (by omega) (by omega)
    rw [hfo] at q
    exact q
   clear hfo
   cases qb : isMac b with
   | true =>
    rw [qb] at HIB HFB
    clear qb
    have CA3 := Lib.hid (three_cells ((HD3.out.block G1 hl1).trans HX1.out))
    have CB3 := Lib.hid (three_cells ((HD3.out.block G2 hl2).trans HX2.out))
    go_wp2_with fail
    have HBd : Hid (Below W3.heap.size W3 W3.drew) := Lib.hid (Below.refl _ _).drew
    refine wp_region_held_drew (S := fun w9 => w9.cell? ⟨G1, 0, none⟩ = some (.int .i64 a.st) ∧ w9.cell? ⟨G1, 1, none⟩ = some (.slice pa ka ra) ∧ w9.cell? ⟨G1, 2, none⟩ = some (.slice qa ma da) ∧ w9.cell? ⟨G2, 0, none⟩ = some (.int .i64 b.st) ∧ w9.cell? ⟨G2, 1, none⟩ = some (.slice pb kb rb) ∧ w9.cell? ⟨G2, 2, none⟩ = some (.slice qb mb db)) (by kernel_rfl) ⟨cell_stay CA3.out.1 HBd.out, cell_stay CA3.out.2.1 HBd.out, cell_stay CA3.out.2.2.1 HBd.out, cell_stay CB3.out.1 HBd.out, cell_stay CB3.out.2.1 HBd.out, cell_stay CB3.out.2.2.1 HBd.out⟩ (fun hHeld => ?_)
    refine wpAnyH_take (i := 0) (v := ?v1) (by simp only [get9]; rfl) (by kernel_rfl) (by kernel_rfl) (by kernel_rfl) (by exact fun _ _ _ h => h) (Or.inl ⟨by rfl, fun w9 hS9 => ?hy1⟩) hHeld ?rest1
    case hy1 =>
     dsimp only at hS9
     obtain ⟨z0, z1, z2, z3, z4, z5⟩ := hS9
     go_simp
     try with_reducible rfl
    try simp only [Act.put, set9]
    refine wpAnyH_take (i := 2) (v := ?v2) (by simp only [get9]; rfl) (by kernel_rfl) (by kernel_rfl) (by kernel_rfl) (by exact fun _ _ _ h => h) (Or.inl ⟨by rfl, fun w9 hS9 => ?hy2⟩) hHeld ?rest2
    case hy2 =>
     dsimp only at hS9
     obtain ⟨z0, z1, z2, z3, z4, z5⟩ := hS9
     go_simp
     try with_reducible rfl
    try simp only [Act.put, set9]
    refine wpAnyH_take (i := 3) (v := ?v3) (by simp only [get9]; rfl) (by kernel_rfl) (by kernel_rfl) (by kernel_rfl) (by exact fun _ _ _ h => h) (Or.inl ⟨by rfl, fun w9 hS9 => ?hy3⟩) hHeld ?rest3
    case hy3 =>
     dsimp only at hS9
     obtain ⟨z0, z1, z2, z3, z4, z5⟩ := hS9
     go_simp
     try with_reducible rfl
    try simp only [Act.put, set9]
    refine wpAnyH_ready (rs := [1]) (by kernel_rfl) (by simp) (AllReadyH.cons (by simp only [get9]; rfl) (fun K hK => ?_) AllReadyH.nil)
    go_simp
    refine (HIB.out _ (HD3.out.trans (HBd.out.mono HD3.out.size))).mono ?_
    rintro e w1 ⟨rfl, hb1⟩
    have HB1 : Hid (Below W3.heap.size W3 w1) := Lib.hid (HBd.out.trans (hb1.mono HBd.out.size))
    clear hb1
    go_wp2_with fail
    refine hK.out _ _ ⟨cell_stay CA3.out.1 HB1.out, cell_stay CA3.out.2.1 HB1.out, cell_stay CA3.out.2.2.1 HB1.out, cell_stay CB3.out.1 HB1.out, cell_stay CB3.out.2.1 HB1.out, cell_stay CB3.out.2.2.1 HB1.out⟩ (fun hHeld => ?_)
    clear hK K
    try simp only [Act.put, set9]
    refine wpAnyH_ready (rs := [4]) (by kernel_rfl) (by simp) (AllReadyH.cons (by simp only [get9]; rfl) (fun K hK => ?_) AllReadyH.nil)
    go_simp
    refine (HFB.out _ (HD3.out.trans (HB1.out.mono HD3.out.size))).mono ?_
    rintro e w2 ⟨rfl, hb2⟩
    have HB2 : Hid (Below W3.heap.size W3 w2) := Lib.hid (HB1.out.trans (hb2.mono HB1.out.size))
    clear hb2
    go_wp2_with fail
    refine hK.out _ _ ⟨cell_stay CA3.out.1 HB2.out, cell_stay CA3.out.2.1 HB2.out, cell_stay CA3.out.2.2.1 HB2.out, cell_stay CB3.out.1 HB2.out, cell_stay CB3.out.2.1 HB2.out, cell_stay CB3.out.2.2.1 HB2.out⟩ (fun hHeld => ?_)
    clear hK K
    try simp only [Act.put, set9]
    refine wpAnyH_take (i := 5) (v := .bool true) (by simp only [get9]; rfl) (by kernel_rfl) (by kernel_rfl) (by kernel_rfl) (by exact fun _ _ _ h => h) (Or.inl ⟨by rfl, fun w9 hS9 => ?hy4⟩) hHeld ?rest4
    case hy4 =>
     dsimp only at hS9
     obtain ⟨z0, z1, z2, z3, z4, z5⟩ := hS9
     go_simp
     (try simp)
    try simp only [Act.put, set9]
    refine wpAnyH_take (i := 6) (v := ?v5) (by simp only [get9]; rfl) (by kernel_rfl) (by kernel_rfl) (by kernel_rfl) (by exact fun _ _ _ h => h) (Or.inl ⟨by rfl, fun w9 hS9 => ?hy5⟩) hHeld ?rest5
    case hy5 =>
     dsimp only at hS9
     obtain ⟨z0, z1, z2, z3, z4, z5⟩ := hS9
     go_simp
     try with_reducible rfl
    try simp only [Act.put, set9]
    refine wpAnyH_take (i := 7) (v := ?v6) (by simp only [get9]; rfl) (by kernel_rfl) (by kernel_rfl) (by kernel_rfl) (by exact fun _ _ _ h => h) (Or.inl ⟨by rfl, fun w9 hS9 => ?hy6⟩) hHeld ?rest6
    case hy6 =>
     dsimp only at hS9
     obtain ⟨z0, z1, z2, z3, z4, z5⟩ := hS9
     go_simp
     try with_reducible rfl
    try simp only [Act.put, set9]
    refine wpAnyH_take (i := 8) (v := ?v7) (by simp only [get9]; rfl) (by kernel_rfl) (by kernel_rfl) (by kernel_rfl) (by exact fun _ _ _ h => h) (Or.inl ⟨by rfl, fun w9 hS9 => ?hy7⟩) hHeld ?rest7
    case hy7 =>
     dsimp only at hS9
     obtain ⟨z0, z1, z2, z3, z4, z5⟩ := hS9
     go_simp
     try with_reducible rfl
    try simp only [Act.put, set9]
    refine wpAnyH_ready (rs := [9]) (by kernel_rfl) (by simp) (AllReadyH.cons (by simp only [get9]; rfl) (fun K hK => ?_) AllReadyH.nil)
    go_simp
    refine (HSF.out _ (HD3.out.trans (HB2.out.mono HD3.out.size))).mono ?_
    rintro e w3 ⟨rfl, hb3⟩
    have HB3 : Hid (Below W3.heap.size W3 w3) := Lib.hid (HB2.out.trans (hb3.mono HB2.out.size))
    clear hb3
    go_wp2_with fail
    refine hK.out _ _ ⟨cell_stay CA3.out.1 HB3.out, cell_stay CA3.out.2.1 HB3.out, cell_stay CA3.out.2.2.1 HB3.out, cell_stay CB3.out.1 HB3.out, cell_stay CB3.out.2.1 HB3.out, cell_stay CB3.out.2.2.1 HB3.out⟩ (fun hHeld => ?_)
    clear hK K
    try simp only [Act.put, set9]
    refine wpAnyH_take (i := 10) (v := ?v8) (by simp only [get9]; rfl) (by kernel_rfl) (by kernel_rfl) (by kernel_rfl) (by exact fun _ _ _ h => h) (Or.inl ⟨by rfl, fun w9 hS9 => ?hy8⟩) hHeld ?rest8
    case hy8 =>
     dsimp only at hS9
     obtain ⟨z0, z1, z2, z3, z4, z5⟩ := hS9
     go_simp
     try with_reducible rfl
    try simp only [Act.put, set9]
    refine wpAnyH_take (i := 11) (v := ?v9) (by simp only [get9]; rfl) (by kernel_rfl) (by kernel_rfl) (by kernel_rfl) (by exact fun _ _ _ h => h) (Or.inl ⟨by rfl, fun w9 hS9 => ?hy9⟩) hHeld ?rest9
    case hy9 =>
     dsimp only at hS9
     obtain ⟨z0, z1, z2, z3, z4, z5⟩ := hS9
     go_simp
     try with_reducible rfl
    try simp only [Act.put, set9]
    refine wpAnyH_take (i := 12) (v := ?v10) (by simp only [get9]; rfl) (by kernel_rfl) (by kernel_rfl) (by kernel_rfl) (by exact fun _ _ _ h => h) (Or.inl ⟨by rfl, fun w9 hS9 => ?hy10⟩) hHeld ?rest10
    case hy10 =>
     dsimp only at hS9
     obtain ⟨z0, z1, z2, z3, z4, z5⟩ := hS9
     go_simp
     try with_reducible rfl
    try simp only [Act.put, set9]
    refine wpAnyH_done (by kernel_rfl) ?_ _
    go_wp2_with fail
    go_ret
    exact ⟨rfl, HB.out.trans ((HD3.out.trans (HB3.out.mono HD3.out.size)).mono HB.out.size)⟩
   | false =>
    rw [qb] at HIB HFB
    clear qb
    have CA3 := Lib.hid (three_cells ((HD3.out.block G1 hl1).trans HX1.out))
    have CB3 := Lib.hid (three_cells ((HD3.out.block G2 hl2).trans HX2.out))
    go_wp2_with fail
    have HBd : Hid (Below W3.heap.size W3 W3.drew) := Lib.hid (Below.refl _ _).drew
    refine wp_region_held_drew (S := fun w9 => w9.cell? ⟨G1, 0, none⟩ = some (.int .i64 a.st) ∧ w9.cell? ⟨G1, 1, none⟩ = some (.slice pa ka ra) ∧ w9.cell? ⟨G1, 2, none⟩ = some (.slice qa ma da) ∧ w9.cell? ⟨G2, 0, none⟩ = some (.int .i64 b.st) ∧ w9.cell? ⟨G2, 1, none⟩ = some (.slice pb kb rb) ∧ w9.cell? ⟨G2, 2, none⟩ = some (.slice qb mb db)) (by kernel_rfl) ⟨cell_stay CA3.out.1 HBd.out, cell_stay CA3.out.2.1 HBd.out, cell_stay CA3.out.2.2.1 HBd.out, cell_stay CB3.out.1 HBd.out, cell_stay CB3.out.2.1 HBd.out, cell_stay CB3.out.2.2.1 HBd.out⟩ (fun hHeld => ?_)
    refine wpAnyH_take (i := 0) (v := ?v11) (by simp only [get9]; rfl) (by kernel_rfl) (by kernel_rfl) (by kernel_rfl) (by exact fun _ _ _ h => h) (Or.inl ⟨by rfl, fun w9 hS9 => ?hy11⟩) hHeld ?rest11
    case hy11 =>
     dsimp only at hS9
     obtain ⟨z0, z1, z2, z3, z4, z5⟩ := hS9
     go_simp
     try with_reducible rfl
    try simp only [Act.put, set9]
    refine wpAnyH_take (i := 2) (v := ?v12) (by simp only [get9]; rfl) (by kernel_rfl) (by kernel_rfl) (by kernel_rfl) (by exact fun _ _ _ h => h) (Or.inl ⟨by rfl, fun w9 hS9 => ?hy12⟩) hHeld ?rest12
    case hy12 =>
     dsimp only at hS9
     obtain ⟨z0, z1, z2, z3, z4, z5⟩ := hS9
     go_simp
     try with_reducible rfl
    try simp only [Act.put, set9]
    refine wpAnyH_take (i := 3) (v := ?v13) (by simp only [get9]; rfl) (by kernel_rfl) (by kernel_rfl) (by kernel_rfl) (by exact fun _ _ _ h => h) (Or.inl ⟨by rfl, fun w9 hS9 => ?hy13⟩) hHeld ?rest13
    case hy13 =>
     dsimp only at hS9
     obtain ⟨z0, z1, z2, z3, z4, z5⟩ := hS9
     go_simp
     try with_reducible rfl
    try simp only [Act.put, set9]
    refine wpAnyH_ready (rs := [1]) (by kernel_rfl) (by simp) (AllReadyH.cons (by simp only [get9]; rfl) (fun K hK => ?_) AllReadyH.nil)
    go_simp
    refine (HIB.out _ (HD3.out.trans (HBd.out.mono HD3.out.size))).mono ?_
    rintro e w1 ⟨rfl, hb1⟩
    have HB1 : Hid (Below W3.heap.size W3 w1) := Lib.hid (HBd.out.trans (hb1.mono HBd.out.size))
    clear hb1
    go_wp2_with fail
    refine hK.out _ _ ⟨cell_stay CA3.out.1 HB1.out, cell_stay CA3.out.2.1 HB1.out, cell_stay CA3.out.2.2.1 HB1.out, cell_stay CB3.out.1 HB1.out, cell_stay CB3.out.2.1 HB1.out, cell_stay CB3.out.2.2.1 HB1.out⟩ (fun hHeld => ?_)
    clear hK K
    try simp only [Act.put, set9]
    refine wpAnyH_ready (rs := [4]) (by kernel_rfl) (by simp) (AllReadyH.cons (by simp only [get9]; rfl) (fun K hK => ?_) AllReadyH.nil)
    go_simp
    refine (HFB.out _ (HD3.out.trans (HB1.out.mono HD3.out.size))).mono ?_
    rintro e w2 ⟨rfl, hb2⟩
    have HB2 : Hid (Below W3.heap.size W3 w2) := Lib.hid (HB1.out.trans (hb2.mono HB1.out.size))
    clear hb2
    go_wp2_with fail
    refine hK.out _ _ ⟨cell_stay CA3.out.1 HB2.out, cell_stay CA3.out.2.1 HB2.out, cell_stay CA3.out.2.2.1 HB2.out, cell_stay CB3.out.1 HB2.out, cell_stay CB3.out.2.1 HB2.out, cell_stay CB3.out.2.2.1 HB2.out⟩ (fun hHeld => ?_)
    clear hK K
    try simp only [Act.put, set9]
    refine wpAnyH_take (i := 5) (v := .bool true) (by simp only [get9]; rfl) (by kernel_rfl) (by kernel_rfl) (by kernel_rfl) (by exact fun _ _ _ h => h) (Or.inl ⟨by rfl, fun w9 hS9 => ?hy14⟩) hHeld ?rest14
    case hy14 =>
     dsimp only at hS9
     obtain ⟨z0, z1, z2, z3, z4, z5⟩ := hS9
     go_simp
     (try simp)
    try simp only [Act.put, set9]
    refine wpAnyH_take (i := 6) (v := ?v15) (by simp only [get9]; rfl) (by kernel_rfl) (by kernel_rfl) (by kernel_rfl) (by exact fun _ _ _ h => h) (Or.inl ⟨by rfl, fun w9 hS9 => ?hy15⟩) hHeld ?rest15
    case hy15 =>
     dsimp only at hS9
     obtain ⟨z0, z1, z2, z3, z4, z5⟩ := hS9
     go_simp
     try with_reducible rfl
    try simp only [Act.put, set9]
    refine wpAnyH_take (i := 7) (v := ?v16) (by simp only [get9]; rfl) (by kernel_rfl) (by kernel_rfl) (by kernel_rfl) (by exact fun _ _ _ h => h) (Or.inl ⟨by rfl, fun w9 hS9 => ?hy16⟩) hHeld ?rest16
    case hy16 =>
     dsimp only at hS9
     obtain ⟨z0, z1, z2, z3, z4, z5⟩ := hS9
     go_simp
     try with_reducible rfl
    try simp only [Act.put, set9]
    refine wpAnyH_take (i := 8) (v := ?v17) (by simp only [get9]; rfl) (by kernel_rfl) (by kernel_rfl) (by kernel_rfl) (by exact fun _ _ _ h => h) (Or.inl ⟨by rfl, fun w9 hS9 => ?hy17⟩) hHeld ?rest17
    case hy17 =>
     dsimp only at hS9
     obtain ⟨z0, z1, z2, z3, z4, z5⟩ := hS9
     go_simp
     try with_reducible rfl
    try simp only [Act.put, set9]
    refine wpAnyH_ready (rs := [9]) (by kernel_rfl) (by simp) (AllReadyH.cons (by simp only [get9]; rfl) (fun K hK => ?_) AllReadyH.nil)
    go_simp
    refine (HSF.out _ (HD3.out.trans (HB2.out.mono HD3.out.size))).mono ?_
    rintro e w3 ⟨rfl, hb3⟩
    have HB3 : Hid (Below W3.heap.size W3 w3) := Lib.hid (HB2.out.trans (hb3.mono HB2.out.size))
    clear hb3
    go_wp2_with fail
    refine hK.out _ _ ⟨cell_stay CA3.out.1 HB3.out, cell_stay CA3.out.2.1 HB3.out, cell_stay CA3.out.2.2.1 HB3.out, cell_stay CB3.out.1 HB3.out, cell_stay CB3.out.2.1 HB3.out, cell_stay CB3.out.2.2.1 HB3.out⟩ (fun hHeld => ?_)
    clear hK K
    try simp only [Act.put, set9]
    refine wpAnyH_take (i := 10) (v := ?v18) (by simp only [get9]; rfl) (by kernel_rfl) (by kernel_rfl) (by kernel_rfl) (by exact fun _ _ _ h => h) (Or.inl ⟨by rfl, fun w9 hS9 => ?hy18⟩) hHeld ?rest18
    case hy18 =>
     dsimp only at hS9
     obtain ⟨z0, z1, z2, z3, z4, z5⟩ := hS9
     go_simp
     try with_reducible rfl
    try simp only [Act.put, set9]
    refine wpAnyH_take (i := 11) (v := ?v19) (by simp only [get9]; rfl) (by kernel_rfl) (by kernel_rfl) (by kernel_rfl) (by exact fun _ _ _ h => h) (Or.inl ⟨by rfl, fun w9 hS9 => ?hy19⟩) hHeld ?rest19
    case hy19 =>
     dsimp only at hS9
     obtain ⟨z0, z1, z2, z3, z4, z5⟩ := hS9
     go_simp
     try with_reducible rfl
    try simp only [Act.put, set9]
    refine wpAnyH_take (i := 12) (v := ?v20) (by simp only [get9]; rfl) (by kernel_rfl) (by kernel_rfl) (by kernel_rfl) (by exact fun _ _ _ h => h) (Or.inl ⟨by rfl, fun w9 hS9 => ?hy20⟩) hHeld ?rest20
    case hy20 =>
     dsimp only at hS9
     obtain ⟨z0, z1, z2, z3, z4, z5⟩ := hS9
     go_simp
     try with_reducible rfl
    try simp only [Act.put, set9]
    refine wpAnyH_done (by kernel_rfl) ?_ _
    go_wp2_with fail
    go_ret
    exact ⟨rfl, HB.out.trans ((HD3.out.trans (HB3.out.mono HD3.out.size)).mono HB.out.size)⟩
  | true =>
   have HFO := Lib.hid hfo
   have qb : isMac b = true := (followsP_iff.1 hfo).2.1
   rw [qb] at HFB
   clear qb hfo
   cases hs0 : safeP b (dualM b) with
   | true =>
    have HS0 : Hid (∀ (W' : World) (v' : Value), Below W2.heap.size W2 W' → MacW W' v' (dualM b) → Calls Tryz.prog 9 #[.agg #[.int .i64 b.st, .slice pb kb rb, .slice qb mb db], v'] W' (Told (.bool true) W')) := Lib.hid fun W' v' h k => by
     have q := isSafe_any (HM2.out.same h) k HW1.out.2 HWD.out (by omega) (by omega)
     rw [hs0] at q
     exact q
    have hs0b := follow_safe HFO.out hs0
    have HS1 : Hid (∀ (W' : World) (v' : Value), Below W2.heap.size W2 W' → MacW W' v' (dualM b) → Calls Tryz.prog 9 #[.agg #[.int .i64 a.st, .slice pa ka ra, .slice qa ma da], v'] W' (Told (.bool true) W')) := Lib.hid fun W' v' h k => by
     have q := isSafe_any (HM1.out.same h) k HW1.out.1 HWD.out (by omega) (by omega)
     rw [hs0b] at q
     exact q
    clear hs0b
    clear hs0
    have CA3 := Lib.hid (three_cells ((HD3.out.block G1 hl1).trans HX1.out))
    have CB3 := Lib.hid (three_cells ((HD3.out.block G2 hl2).trans HX2.out))
    go_wp2_with fail
    have HBd : Hid (Below W3.heap.size W3 W3.drew) := Lib.hid (Below.refl _ _).drew
    refine wp_region_held_drew (S := fun w9 => w9.cell? ⟨G1, 0, none⟩ = some (.int .i64 a.st) ∧ w9.cell? ⟨G1, 1, none⟩ = some (.slice pa ka ra) ∧ w9.cell? ⟨G1, 2, none⟩ = some (.slice qa ma da) ∧ w9.cell? ⟨G2, 0, none⟩ = some (.int .i64 b.st) ∧ w9.cell? ⟨G2, 1, none⟩ = some (.slice pb kb rb) ∧ w9.cell? ⟨G2, 2, none⟩ = some (.slice qb mb db)) (by kernel_rfl) ⟨cell_stay CA3.out.1 HBd.out, cell_stay CA3.out.2.1 HBd.out, cell_stay CA3.out.2.2.1 HBd.out, cell_stay CB3.out.1 HBd.out, cell_stay CB3.out.2.1 HBd.out, cell_stay CB3.out.2.2.1 HBd.out⟩ (fun hHeld => ?_)
    refine wpAnyH_take (i := 0) (v := ?v21) (by simp only [get9]; rfl) (by kernel_rfl) (by kernel_rfl) (by kernel_rfl) (by exact fun _ _ _ h => h) (Or.inl ⟨by rfl, fun w9 hS9 => ?hy21⟩) hHeld ?rest21
    case hy21 =>
     dsimp only at hS9
     obtain ⟨z0, z1, z2, z3, z4, z5⟩ := hS9
     go_simp
     try with_reducible rfl
    try simp only [Act.put, set9]
    refine wpAnyH_take (i := 1) (v := ?v22) (by simp only [get9]; rfl) (by kernel_rfl) (by kernel_rfl) (by kernel_rfl) (by exact fun _ _ _ h => h) (Or.inl ⟨by rfl, fun w9 hS9 => ?hy22⟩) hHeld ?rest22
    case hy22 =>
     dsimp only at hS9
     obtain ⟨z0, z1, z2, z3, z4, z5⟩ := hS9
     go_simp
     try with_reducible rfl
    try simp only [Act.put, set9]
    refine wpAnyH_ready (rs := [2]) (by kernel_rfl) (by simp) (AllReadyH.cons (by simp only [get9]; rfl) (fun K hK => ?_) AllReadyH.nil)
    go_simp
    refine (dualOf_any (HM2.out.same (HD3.out.trans (HBd.out.mono HD3.out.size))) (by omega)).mono ?_
    rintro e w1 ⟨vd1, rfl, hod1, hb1⟩
    have HB1 : Hid (Below W3.heap.size W3 w1) := Lib.hid (HBd.out.trans (hb1.mono HBd.out.size))
    obtain ⟨p91, k91, r91, q91, m91, d91, rfl⟩ := hod1.shape
    have HOD1 := Lib.hid hod1.mac
    clear hod1
    clear hb1
    go_wp2_with fail
    refine hK.out _ _ ⟨cell_stay CA3.out.1 HB1.out, cell_stay CA3.out.2.1 HB1.out, cell_stay CA3.out.2.2.1 HB1.out, cell_stay CB3.out.1 HB1.out, cell_stay CB3.out.2.1 HB1.out, cell_stay CB3.out.2.2.1 HB1.out⟩ (fun hHeld => ?_)
    clear hK K
    try simp only [Act.put, set9]
    refine wpAnyH_ready (rs := [3]) (by kernel_rfl) (by simp) (AllReadyH.cons (by simp only [get9]; rfl) (fun K hK => ?_) AllReadyH.nil)
    go_simp
    refine (HS0.out _ _ (HD3.out.trans (HB1.out.mono HD3.out.size)) HOD1.out).mono ?_
    rintro e w2 ⟨rfl, hb2⟩
    have HB2 : Hid (Below W3.heap.size W3 w2) := Lib.hid (HB1.out.trans (hb2.mono HB1.out.size))
    clear hb2
    go_wp2_with fail
    refine hK.out _ _ ⟨cell_stay CA3.out.1 HB2.out, cell_stay CA3.out.2.1 HB2.out, cell_stay CA3.out.2.2.1 HB2.out, cell_stay CB3.out.1 HB2.out, cell_stay CB3.out.2.1 HB2.out, cell_stay CB3.out.2.2.1 HB2.out⟩ (fun hHeld => ?_)
    clear hK K
    try simp only [Act.put, set9]
    refine wpAnyH_take (i := 4) (v := ?v23) (by simp only [get9]; rfl) (by kernel_rfl) (by kernel_rfl) (by kernel_rfl) (by exact fun _ _ _ h => h) (Or.inl ⟨by rfl, fun w9 hS9 => ?hy23⟩) hHeld ?rest23
    case hy23 =>
     dsimp only at hS9
     obtain ⟨z0, z1, z2, z3, z4, z5⟩ := hS9
     go_simp
     try with_reducible rfl
    try simp only [Act.put, set9]
    refine wpAnyH_take (i := 5) (v := ?v24) (by simp only [get9]; rfl) (by kernel_rfl) (by kernel_rfl) (by kernel_rfl) (by exact fun _ _ _ h => h) (Or.inl ⟨by rfl, fun w9 hS9 => ?hy24⟩) hHeld ?rest24
    case hy24 =>
     dsimp only at hS9
     obtain ⟨z0, z1, z2, z3, z4, z5⟩ := hS9
     go_simp
     try with_reducible rfl
    try simp only [Act.put, set9]
    refine wpAnyH_take (i := 6) (v := ?v25) (by simp only [get9]; rfl) (by kernel_rfl) (by kernel_rfl) (by kernel_rfl) (by exact fun _ _ _ h => h) (Or.inl ⟨by rfl, fun w9 hS9 => ?hy25⟩) hHeld ?rest25
    case hy25 =>
     dsimp only at hS9
     obtain ⟨z0, z1, z2, z3, z4, z5⟩ := hS9
     go_simp
     try with_reducible rfl
    try simp only [Act.put, set9]
    refine wpAnyH_ready (rs := [7]) (by kernel_rfl) (by simp) (AllReadyH.cons (by simp only [get9]; rfl) (fun K hK => ?_) AllReadyH.nil)
    go_simp
    refine (dualOf_any (HM2.out.same (HD3.out.trans (HB2.out.mono HD3.out.size))) (by omega)).mono ?_
    rintro e w3 ⟨vd2, rfl, hod3, hb3⟩
    have HB3 : Hid (Below W3.heap.size W3 w3) := Lib.hid (HB2.out.trans (hb3.mono HB2.out.size))
    obtain ⟨p92, k92, r92, q92, m92, d92, rfl⟩ := hod3.shape
    have HOD2 := Lib.hid hod3.mac
    clear hod3
    clear hb3
    go_wp2_with fail
    refine hK.out _ _ ⟨cell_stay CA3.out.1 HB3.out, cell_stay CA3.out.2.1 HB3.out, cell_stay CA3.out.2.2.1 HB3.out, cell_stay CB3.out.1 HB3.out, cell_stay CB3.out.2.1 HB3.out, cell_stay CB3.out.2.2.1 HB3.out⟩ (fun hHeld => ?_)
    clear hK K
    try simp only [Act.put, set9]
    refine wpAnyH_ready (rs := [8]) (by kernel_rfl) (by simp) (AllReadyH.cons (by simp only [get9]; rfl) (fun K hK => ?_) AllReadyH.nil)
    go_simp
    refine (HS1.out _ _ (HD3.out.trans (HB3.out.mono HD3.out.size)) HOD2.out).mono ?_
    rintro e w4 ⟨rfl, hb4⟩
    have HB4 : Hid (Below W3.heap.size W3 w4) := Lib.hid (HB3.out.trans (hb4.mono HB3.out.size))
    clear hb4
    go_wp2_with fail
    refine hK.out _ _ ⟨cell_stay CA3.out.1 HB4.out, cell_stay CA3.out.2.1 HB4.out, cell_stay CA3.out.2.2.1 HB4.out, cell_stay CB3.out.1 HB4.out, cell_stay CB3.out.2.1 HB4.out, cell_stay CB3.out.2.2.1 HB4.out⟩ (fun hHeld => ?_)
    clear hK K
    try simp only [Act.put, set9]
    refine wpAnyH_take (i := 9) (v := ?v26) (by simp only [get9]; rfl) (by kernel_rfl) (by kernel_rfl) (by kernel_rfl) (by exact fun _ _ _ h => h) (Or.inl ⟨by rfl, fun w9 hS9 => ?hy26⟩) hHeld ?rest26
    case hy26 =>
     dsimp only at hS9
     obtain ⟨z0, z1, z2, z3, z4, z5⟩ := hS9
     go_simp
     try with_reducible rfl
    try simp only [Act.put, set9]
    refine wpAnyH_take (i := 10) (v := ?v27) (by simp only [get9]; rfl) (by kernel_rfl) (by kernel_rfl) (by kernel_rfl) (by exact fun _ _ _ h => h) (Or.inl ⟨by rfl, fun w9 hS9 => ?hy27⟩) hHeld ?rest27
    case hy27 =>
     dsimp only at hS9
     obtain ⟨z0, z1, z2, z3, z4, z5⟩ := hS9
     go_simp
     try with_reducible rfl
    try simp only [Act.put, set9]
    refine wpAnyH_done (by kernel_rfl) ?_ _
    obtain ⟨w4, hwv⟩ : ∃ u, u = w4 := ⟨w4, rfl⟩
    subst hwv
    have HD4 : Hid (Below W2.heap.size W2 w4) := Lib.hid (HD3.out.trans (HB4.out.mono HD3.out.size))
    clear CA3 CB3
    go_wp2_with fail
    refine (drawPairsOf_any a0 n0 c0 _ (HC.out.same (HB.out.trans (HD4.out.mono HB.out.size)))).mono ?_
    rintro e w_W6 ⟨vc, c, vd, d, rfl, hoa, hka, hob, hkb, hz⟩
    obtain ⟨pc, kc, rc, qc, mc, dc, rfl⟩ := hoa.shape
    obtain ⟨pd, kd, rd, qd, md, dd, rfl⟩ := hob.shape
    have hpc : c.parts ≤ 100 := by unfold Mac.parts; have := hka.1; have := hka.2.1; omega
    have hpd : d.parts ≤ 100 := by unfold Mac.parts; have := hkb.1; have := hkb.2.1; omega
    obtain ⟨hBB, hX, hY, hS2⟩ := twice w_W6 #[.int .i64 c.st, .slice pc kc rc, .slice qc mc dc] #[.int .i64 d.st, .slice pd kd rd, .slice qd md dd] 27 27
    have HM5 := Lib.hid (hoa.mac.same hBB)
    have HM6 := Lib.hid (hob.mac.same hBB)
    have HW5 := Lib.hid (And.intro hka.wmv hkb.wmv)
    have HX5 := Lib.hid hX
    have HX6 := Lib.hid hY
    have HB6 : Hid (Below W2.heap.size W2 ((w_W6.alloc (.cells #[.int .i64 c.st, .slice pc kc rc, .slice qc mc dc] 27)).alloc (.cells #[.int .i64 d.st, .slice pd kd rd, .slice qd md dd] 27))) := Lib.hid ((HD4.out.trans (hz.mono HD4.out.size)).trans (hBB.mono (Nat.le_trans HD4.out.size hz.size)))
    clear hoa hob hka hkb hz hBB hX hY hS2
    obtain ⟨x0, x1, x2, -⟩ := three_cells HX5.out
    obtain ⟨y0, y1, y2, -⟩ := three_cells HX6.out
    obtain ⟨u0, u1, u2, -⟩ := three_cells ((HB6.out.block G2 hl2).trans HX2.out)
    go_wp2_with fail
    clear x0 x1 x2 y0 y1 y2 u0 u1 u2
    obtain ⟨G5, hG1⟩ : ∃ u, u = w_W6.heap.size := ⟨_, rfl⟩
    obtain ⟨G6, hG2⟩ : ∃ u, u = w_W6.heap.size + 1 := ⟨_, rfl⟩
    rw [← hG1] at HX5
    rw [← hG2] at HX6
    rw [← hG2, ← hG1]
    clear hG1 hG2
    generalize (w_W6.alloc (.cells #[.int .i64 c.st, .slice pc kc rc, .slice qc mc dc] 27)).alloc (.cells #[.int .i64 d.st, .slice pd kd rd, .slice qd md dd] 27) = W6 at *
    have hl5 : G5 < W6.heap.size := (Array.getElem?_eq_some_iff.1 HX5.out).1
    have hl6 : G6 < W6.heap.size := (Array.getElem?_eq_some_iff.1 HX6.out).1
    have HD6 := Lib.hid HB6.out
    have HE6 : Hid (Below W6.heap.size W6 W6) := Lib.hid (Below.refl _ _)
    clear HB6
    cases hs1 : safeP b c with
    | true =>
     have hs1b := follow_safe HFO.out hs1
     have HQ := isSafe_any (HM2.out.same HD6.out) HM5.out HW1.out.2 HW5.out.1 (by omega) (by omega)
     rw [hs1] at HQ
     refine HQ.mono ?_
     rintro e w7 ⟨rfl, hz⟩
     have HD7 : Hid (Below W2.heap.size W2 w7) := Lib.hid (HD6.out.trans (hz.mono HD6.out.size))
     have HE7 : Hid (Below W6.heap.size W6 w7) := Lib.hid (HE6.out.trans (hz.mono HE6.out.size))
     clear hz HQ
     obtain ⟨x10, x11, x12, -⟩ := three_cells ((HD7.out.block G1 hl1).trans HX1.out)
     obtain ⟨x50, x51, x52, -⟩ := three_cells ((HE7.out.block G5 hl5).trans HX5.out)
     go_wp2_with fail
     clear x10 x11 x12 x50 x51 x52
     have HQ := isSafe_any (HM1.out.same HD7.out) (HM5.out.same HE7.out) HW1.out.1 HW5.out.1 (by omega) (by omega)
     rw [hs1b] at HQ
     refine HQ.mono ?_
     rintro e w8 ⟨rfl, hz⟩
     have HD8 : Hid (Below W2.heap.size W2 w8) := Lib.hid (HD7.out.trans (hz.mono HD7.out.size))
     have HE8 : Hid (Below W6.heap.size W6 w8) := Lib.hid (HE7.out.trans (hz.mono HE7.out.size))
     clear hz HQ
     clear hs1 hs1b
     cases hs2 : safeP b d with
     | true =>
      have hs2b := follow_safe HFO.out hs2
      obtain ⟨x20, x21, x22, -⟩ := three_cells ((HD8.out.block G2 hl2).trans HX2.out)
      obtain ⟨x60, x61, x62, -⟩ := three_cells ((HE8.out.block G6 hl6).trans HX6.out)
      go_wp2_with fail
      clear x20 x21 x22 x60 x61 x62
      have HQ := isSafe_any (HM2.out.same HD8.out) (HM6.out.same HE8.out) HW1.out.2 HW5.out.2 (by omega) (by omega)
      rw [hs2] at HQ
      refine HQ.mono ?_
      rintro e w8x ⟨rfl, hz⟩
      have HD8x : Hid (Below W2.heap.size W2 w8x) := Lib.hid (HD8.out.trans (hz.mono HD8.out.size))
      have HE8x : Hid (Below W6.heap.size W6 w8x) := Lib.hid (HE8.out.trans (hz.mono HE8.out.size))
      clear hz HQ
      obtain ⟨x10, x11, x12, -⟩ := three_cells ((HD8x.out.block G1 hl1).trans HX1.out)
      obtain ⟨x60, x61, x62, -⟩ := three_cells ((HE8x.out.block G6 hl6).trans HX6.out)
      go_wp2_with fail
      clear x10 x11 x12 x60 x61 x62
      have HQ := isSafe_any (HM1.out.same HD8x.out) (HM6.out.same HE8x.out) HW1.out.1 HW5.out.2 (by omega) (by omega)
      rw [hs2b] at HQ
      refine HQ.mono ?_
      rintro e w8y ⟨rfl, hz⟩
      have HD8y : Hid (Below W2.heap.size W2 w8y) := Lib.hid (HD8x.out.trans (hz.mono HD8x.out.size))
      have HE8y : Hid (Below W6.heap.size W6 w8y) := Lib.hid (HE8x.out.trans (hz.mono HE8x.out.size))
      clear hz HQ
      clear hs2 hs2b
      obtain ⟨x10, x11, x12, -⟩ := three_cells ((HD8y.out.block G1 hl1).trans HX1.out)
      obtain ⟨x20, x21, x22, -⟩ := three_cells ((HD8y.out.block G2 hl2).trans HX2.out)
      go_wp2_with fail
      clear x10 x11 x12 x20 x21 x22
      refine (followPairs_any (HM1.out.same HD8y.out) (HM2.out.same HD8y.out) HW1.out.1 HW1.out.2 (by omega) (by omega)).mono ?_
      rintro e v1 ⟨g, m, cc, rfl, ho, hz⟩
      have hcm := ho.count
      have hm36 := followP_len a b
      have hpos := follow_pos HFO.out
      have hroom := ho.room
      have HO := Lib.hid ho
      have HV1 : Hid (Below W2.heap.size W2 v1) := Lib.hid (HD8y.out.trans (hz.mono HD8y.out.size))
      clear ho hz
      have hmI : ((m : Int) > 0) := by omega
      go_wp2_with fail
      go_loopw [8] (fun i wr => ∃ j : Nat, i = .int .i64 j ∧ j ≤ m ∧ Below v1.heap.size v1 wr) (fun i _ => m - (intOf i).toNat)
      case atStart => exact ⟨0, rfl, Nat.zero_le _, Below.refl _ _⟩
      case round =>
       obtain ⟨j, rfl, hj, hb⟩ := hrel
       have HR := Lib.hid hb
       have HRD : Hid (Below W2.heap.size W2 wr) := Lib.hid (HV1.out.trans (hb.mono HV1.out.size))
       clear hb
       by_cases hlt : j < m
       ·obtain ⟨r, pr, hpr, hc0, hrow, o1, o2, o3⟩ := (HO.out.same HR.out).at_ hlt
        have hfa := follow_at HFO.out pr (List.mem_of_getElem? hpr)
        obtain ⟨d0, d1⟩ := two_cells hrow
        obtain ⟨x0, x1, x2, -⟩ := three_cells ((HRD.out.block G1 hl1).trans HX1.out)
        obtain ⟨y0, y1, y2, -⟩ := three_cells ((HRD.out.block G2 hl2).trans HX2.out)
        clear hpr hrow
        go_wp2_with fail
        go_still_tail 14, (by kernel_rfl)
        have H2 : Hid (Below wr.heap.size wr wr.drew) := Lib.hid (Below.refl _ _).drew
        change wpList _ _ _ _ _ wr.drew
        generalize wr.drew = u2 at H2 ⊢
        clear x0 x1 x2 y0 y1 y2 d0 d1 hc0
        have HRU : Hid (Below W2.heap.size W2 u2) := Lib.hid (HRD.out.trans (H2.out.mono HRD.out.size))
        have HQ := followsAt_any pr.1 pr.2 (HM1.out.same HRU.out) (HM2.out.same HRU.out) HW1.out.1 HW1.out.2 (by omega) (by omega)
        rw [hfa] at HQ
        have HQH := Lib.hid HQ
        clear HQ hfa
        go_wp2_with fail
        refine HQH.out.mono ?_
        rintro e u3 ⟨rfl, hz⟩
        have HR3 := Lib.hid (HR.out.trans ((H2.out.trans (hz.mono H2.out.size)).mono HR.out.size))
        clear hz
        go_wp2_with fail
        go_roundw
        case rel => exact ⟨j + 1, by go_num, by omega, HR3.out⟩
        case measure => simp [intOf]; omega
       ·obtain rfl : j = m := by omega
        obtain ⟨y0, y1, y2, -⟩ := three_cells ((HRD.out.block G2 hl2).trans HX2.out)
        go_wp2_with fail
        clear y0 y1 y2
        refine (HFB.out wr HRD.out).mono ?_
        rintro e u3 ⟨rfl, hz⟩
        have HU3 := Lib.hid (HRD.out.trans (hz.mono HRD.out.size))
        clear hz
        go_wp2_with fail
        go_ret
        exact ⟨rfl, HB.out.trans (HU3.out.mono HB.out.size)⟩
     | false =>
      obtain ⟨x20, x21, x22, -⟩ := three_cells ((HD8.out.block G2 hl2).trans HX2.out)
      obtain ⟨x60, x61, x62, -⟩ := three_cells ((HE8.out.block G6 hl6).trans HX6.out)
      go_wp2_with fail
      clear x20 x21 x22 x60 x61 x62
      have HQ := isSafe_any (HM2.out.same HD8.out) (HM6.out.same HE8.out) HW1.out.2 HW5.out.2 (by omega) (by omega)
      rw [hs2] at HQ
      refine HQ.mono ?_
      rintro e w8x ⟨rfl, hz⟩
      have HD8x : Hid (Below W2.heap.size W2 w8x) := Lib.hid (HD8.out.trans (hz.mono HD8.out.size))
      have HE8x : Hid (Below W6.heap.size W6 w8x) := Lib.hid (HE8.out.trans (hz.mono HE8.out.size))
      clear hz HQ
      clear hs2
      obtain ⟨x10, x11, x12, -⟩ := three_cells ((HD8x.out.block G1 hl1).trans HX1.out)
      obtain ⟨x20, x21, x22, -⟩ := three_cells ((HD8x.out.block G2 hl2).trans HX2.out)
      go_wp2_with fail
      clear x10 x11 x12 x20 x21 x22
      refine (followPairs_any (HM1.out.same HD8x.out) (HM2.out.same HD8x.out) HW1.out.1 HW1.out.2 (by omega) (by omega)).mono ?_
      rintro e v1 ⟨g, m, cc, rfl, ho, hz⟩
      have hcm := ho.count
      have hm36 := followP_len a b
      have hpos := follow_pos HFO.out
      have hroom := ho.room
      have HO := Lib.hid ho
      have HV1 : Hid (Below W2.heap.size W2 v1) := Lib.hid (HD8x.out.trans (hz.mono HD8x.out.size))
      clear ho hz
      have hmI : ((m : Int) > 0) := by omega
      go_wp2_with fail
      go_loopw [8] (fun i wr => ∃ j : Nat, i = .int .i64 j ∧ j ≤ m ∧ Below v1.heap.size v1 wr) (fun i _ => m - (intOf i).toNat)
      case atStart => exact ⟨0, rfl, Nat.zero_le _, Below.refl _ _⟩
      case round =>
       obtain ⟨j, rfl, hj, hb⟩ := hrel
       have HR := Lib.hid hb
       have HRD : Hid (Below W2.heap.size W2 wr) := Lib.hid (HV1.out.trans (hb.mono HV1.out.size))
       clear hb
       by_cases hlt : j < m
       ·obtain ⟨r, pr, hpr, hc0, hrow, o1, o2, o3⟩ := (HO.out.same HR.out).at_ hlt
        have hfa := follow_at HFO.out pr (List.mem_of_getElem? hpr)
        obtain ⟨d0, d1⟩ := two_cells hrow
        obtain ⟨x0, x1, x2, -⟩ := three_cells ((HRD.out.block G1 hl1).trans HX1.out)
        obtain ⟨y0, y1, y2, -⟩ := three_cells ((HRD.out.block G2 hl2).trans HX2.out)
        clear hpr hrow
        go_wp2_with fail
        go_still_tail 14, (by kernel_rfl)
        have H2 : Hid (Below wr.heap.size wr wr.drew) := Lib.hid (Below.refl _ _).drew
        change wpList _ _ _ _ _ wr.drew
        generalize wr.drew = u2 at H2 ⊢
        clear x0 x1 x2 y0 y1 y2 d0 d1 hc0
        have HRU : Hid (Below W2.heap.size W2 u2) := Lib.hid (HRD.out.trans (H2.out.mono HRD.out.size))
        have HQ := followsAt_any pr.1 pr.2 (HM1.out.same HRU.out) (HM2.out.same HRU.out) HW1.out.1 HW1.out.2 (by omega) (by omega)
        rw [hfa] at HQ
        have HQH := Lib.hid HQ
        clear HQ hfa
        go_wp2_with fail
        refine HQH.out.mono ?_
        rintro e u3 ⟨rfl, hz⟩
        have HR3 := Lib.hid (HR.out.trans ((H2.out.trans (hz.mono H2.out.size)).mono HR.out.size))
        clear hz
        go_wp2_with fail
        go_roundw
        case rel => exact ⟨j + 1, by go_num, by omega, HR3.out⟩
        case measure => simp [intOf]; omega
       ·obtain rfl : j = m := by omega
        obtain ⟨y0, y1, y2, -⟩ := three_cells ((HRD.out.block G2 hl2).trans HX2.out)
        go_wp2_with fail
        clear y0 y1 y2
        refine (HFB.out wr HRD.out).mono ?_
        rintro e u3 ⟨rfl, hz⟩
        have HU3 := Lib.hid (HRD.out.trans (hz.mono HRD.out.size))
        clear hz
        go_wp2_with fail
        go_ret
        exact ⟨rfl, HB.out.trans (HU3.out.mono HB.out.size)⟩
    | false =>
     have HQ := isSafe_any (HM2.out.same HD6.out) HM5.out HW1.out.2 HW5.out.1 (by omega) (by omega)
     rw [hs1] at HQ
     refine HQ.mono ?_
     rintro e w7 ⟨rfl, hz⟩
     have HD7 : Hid (Below W2.heap.size W2 w7) := Lib.hid (HD6.out.trans (hz.mono HD6.out.size))
     have HE7 : Hid (Below W6.heap.size W6 w7) := Lib.hid (HE6.out.trans (hz.mono HE6.out.size))
     clear hz HQ
     clear hs1
     cases hs2 : safeP b d with
     | true =>
      have hs2b := follow_safe HFO.out hs2
      obtain ⟨x20, x21, x22, -⟩ := three_cells ((HD7.out.block G2 hl2).trans HX2.out)
      obtain ⟨x60, x61, x62, -⟩ := three_cells ((HE7.out.block G6 hl6).trans HX6.out)
      go_wp2_with fail
      clear x20 x21 x22 x60 x61 x62
      have HQ := isSafe_any (HM2.out.same HD7.out) (HM6.out.same HE7.out) HW1.out.2 HW5.out.2 (by omega) (by omega)
      rw [hs2] at HQ
      refine HQ.mono ?_
      rintro e w7x ⟨rfl, hz⟩
      have HD7x : Hid (Below W2.heap.size W2 w7x) := Lib.hid (HD7.out.trans (hz.mono HD7.out.size))
      have HE7x : Hid (Below W6.heap.size W6 w7x) := Lib.hid (HE7.out.trans (hz.mono HE7.out.size))
      clear hz HQ
      obtain ⟨x10, x11, x12, -⟩ := three_cells ((HD7x.out.block G1 hl1).trans HX1.out)
      obtain ⟨x60, x61, x62, -⟩ := three_cells ((HE7x.out.block G6 hl6).trans HX6.out)
      go_wp2_with fail
      clear x10 x11 x12 x60 x61 x62
      have HQ := isSafe_any (HM1.out.same HD7x.out) (HM6.out.same HE7x.out) HW1.out.1 HW5.out.2 (by omega) (by omega)
      rw [hs2b] at HQ
      refine HQ.mono ?_
      rintro e w7y ⟨rfl, hz⟩
      have HD7y : Hid (Below W2.heap.size W2 w7y) := Lib.hid (HD7x.out.trans (hz.mono HD7x.out.size))
      have HE7y : Hid (Below W6.heap.size W6 w7y) := Lib.hid (HE7x.out.trans (hz.mono HE7x.out.size))
      clear hz HQ
      clear hs2 hs2b
      obtain ⟨x10, x11, x12, -⟩ := three_cells ((HD7y.out.block G1 hl1).trans HX1.out)
      obtain ⟨x20, x21, x22, -⟩ := three_cells ((HD7y.out.block G2 hl2).trans HX2.out)
      go_wp2_with fail
      clear x10 x11 x12 x20 x21 x22
      refine (followPairs_any (HM1.out.same HD7y.out) (HM2.out.same HD7y.out) HW1.out.1 HW1.out.2 (by omega) (by omega)).mono ?_
      rintro e v1 ⟨g, m, cc, rfl, ho, hz⟩
      have hcm := ho.count
      have hm36 := followP_len a b
      have hpos := follow_pos HFO.out
      have hroom := ho.room
      have HO := Lib.hid ho
      have HV1 : Hid (Below W2.heap.size W2 v1) := Lib.hid (HD7y.out.trans (hz.mono HD7y.out.size))
      clear ho hz
      have hmI : ((m : Int) > 0) := by omega
      go_wp2_with fail
      go_loopw [8] (fun i wr => ∃ j : Nat, i = .int .i64 j ∧ j ≤ m ∧ Below v1.heap.size v1 wr) (fun i _ => m - (intOf i).toNat)
      case atStart => exact ⟨0, rfl, Nat.zero_le _, Below.refl _ _⟩
      case round =>
       obtain ⟨j, rfl, hj, hb⟩ := hrel
       have HR := Lib.hid hb
       have HRD : Hid (Below W2.heap.size W2 wr) := Lib.hid (HV1.out.trans (hb.mono HV1.out.size))
       clear hb
       by_cases hlt : j < m
       ·obtain ⟨r, pr, hpr, hc0, hrow, o1, o2, o3⟩ := (HO.out.same HR.out).at_ hlt
        have hfa := follow_at HFO.out pr (List.mem_of_getElem? hpr)
        obtain ⟨d0, d1⟩ := two_cells hrow
        obtain ⟨x0, x1, x2, -⟩ := three_cells ((HRD.out.block G1 hl1).trans HX1.out)
        obtain ⟨y0, y1, y2, -⟩ := three_cells ((HRD.out.block G2 hl2).trans HX2.out)
        clear hpr hrow
        go_wp2_with fail
        go_still_tail 14, (by kernel_rfl)
        have H2 : Hid (Below wr.heap.size wr wr.drew) := Lib.hid (Below.refl _ _).drew
        change wpList _ _ _ _ _ wr.drew
        generalize wr.drew = u2 at H2 ⊢
        clear x0 x1 x2 y0 y1 y2 d0 d1 hc0
        have HRU : Hid (Below W2.heap.size W2 u2) := Lib.hid (HRD.out.trans (H2.out.mono HRD.out.size))
        have HQ := followsAt_any pr.1 pr.2 (HM1.out.same HRU.out) (HM2.out.same HRU.out) HW1.out.1 HW1.out.2 (by omega) (by omega)
        rw [hfa] at HQ
        have HQH := Lib.hid HQ
        clear HQ hfa
        go_wp2_with fail
        refine HQH.out.mono ?_
        rintro e u3 ⟨rfl, hz⟩
        have HR3 := Lib.hid (HR.out.trans ((H2.out.trans (hz.mono H2.out.size)).mono HR.out.size))
        clear hz
        go_wp2_with fail
        go_roundw
        case rel => exact ⟨j + 1, by go_num, by omega, HR3.out⟩
        case measure => simp [intOf]; omega
       ·obtain rfl : j = m := by omega
        obtain ⟨y0, y1, y2, -⟩ := three_cells ((HRD.out.block G2 hl2).trans HX2.out)
        go_wp2_with fail
        clear y0 y1 y2
        refine (HFB.out wr HRD.out).mono ?_
        rintro e u3 ⟨rfl, hz⟩
        have HU3 := Lib.hid (HRD.out.trans (hz.mono HRD.out.size))
        clear hz
        go_wp2_with fail
        go_ret
        exact ⟨rfl, HB.out.trans (HU3.out.mono HB.out.size)⟩
     | false =>
      obtain ⟨x20, x21, x22, -⟩ := three_cells ((HD7.out.block G2 hl2).trans HX2.out)
      obtain ⟨x60, x61, x62, -⟩ := three_cells ((HE7.out.block G6 hl6).trans HX6.out)
      go_wp2_with fail
      clear x20 x21 x22 x60 x61 x62
      have HQ := isSafe_any (HM2.out.same HD7.out) (HM6.out.same HE7.out) HW1.out.2 HW5.out.2 (by omega) (by omega)
      rw [hs2] at HQ
      refine HQ.mono ?_
      rintro e w7x ⟨rfl, hz⟩
      have HD7x : Hid (Below W2.heap.size W2 w7x) := Lib.hid (HD7.out.trans (hz.mono HD7.out.size))
      have HE7x : Hid (Below W6.heap.size W6 w7x) := Lib.hid (HE7.out.trans (hz.mono HE7.out.size))
      clear hz HQ
      clear hs2
      obtain ⟨x10, x11, x12, -⟩ := three_cells ((HD7x.out.block G1 hl1).trans HX1.out)
      obtain ⟨x20, x21, x22, -⟩ := three_cells ((HD7x.out.block G2 hl2).trans HX2.out)
      go_wp2_with fail
      clear x10 x11 x12 x20 x21 x22
      refine (followPairs_any (HM1.out.same HD7x.out) (HM2.out.same HD7x.out) HW1.out.1 HW1.out.2 (by omega) (by omega)).mono ?_
      rintro e v1 ⟨g, m, cc, rfl, ho, hz⟩
      have hcm := ho.count
      have hm36 := followP_len a b
      have hpos := follow_pos HFO.out
      have hroom := ho.room
      have HO := Lib.hid ho
      have HV1 : Hid (Below W2.heap.size W2 v1) := Lib.hid (HD7x.out.trans (hz.mono HD7x.out.size))
      clear ho hz
      have hmI : ((m : Int) > 0) := by omega
      go_wp2_with fail
      go_loopw [8] (fun i wr => ∃ j : Nat, i = .int .i64 j ∧ j ≤ m ∧ Below v1.heap.size v1 wr) (fun i _ => m - (intOf i).toNat)
      case atStart => exact ⟨0, rfl, Nat.zero_le _, Below.refl _ _⟩
      case round =>
       obtain ⟨j, rfl, hj, hb⟩ := hrel
       have HR := Lib.hid hb
       have HRD : Hid (Below W2.heap.size W2 wr) := Lib.hid (HV1.out.trans (hb.mono HV1.out.size))
       clear hb
       by_cases hlt : j < m
       ·obtain ⟨r, pr, hpr, hc0, hrow, o1, o2, o3⟩ := (HO.out.same HR.out).at_ hlt
        have hfa := follow_at HFO.out pr (List.mem_of_getElem? hpr)
        obtain ⟨d0, d1⟩ := two_cells hrow
        obtain ⟨x0, x1, x2, -⟩ := three_cells ((HRD.out.block G1 hl1).trans HX1.out)
        obtain ⟨y0, y1, y2, -⟩ := three_cells ((HRD.out.block G2 hl2).trans HX2.out)
        clear hpr hrow
        go_wp2_with fail
        go_still_tail 14, (by kernel_rfl)
        have H2 : Hid (Below wr.heap.size wr wr.drew) := Lib.hid (Below.refl _ _).drew
        change wpList _ _ _ _ _ wr.drew
        generalize wr.drew = u2 at H2 ⊢
        clear x0 x1 x2 y0 y1 y2 d0 d1 hc0
        have HRU : Hid (Below W2.heap.size W2 u2) := Lib.hid (HRD.out.trans (H2.out.mono HRD.out.size))
        have HQ := followsAt_any pr.1 pr.2 (HM1.out.same HRU.out) (HM2.out.same HRU.out) HW1.out.1 HW1.out.2 (by omega) (by omega)
        rw [hfa] at HQ
        have HQH := Lib.hid HQ
        clear HQ hfa
        go_wp2_with fail
        refine HQH.out.mono ?_
        rintro e u3 ⟨rfl, hz⟩
        have HR3 := Lib.hid (HR.out.trans ((H2.out.trans (hz.mono H2.out.size)).mono HR.out.size))
        clear hz
        go_wp2_with fail
        go_roundw
        case rel => exact ⟨j + 1, by go_num, by omega, HR3.out⟩
        case measure => simp [intOf]; omega
       ·obtain rfl : j = m := by omega
        obtain ⟨y0, y1, y2, -⟩ := three_cells ((HRD.out.block G2 hl2).trans HX2.out)
        go_wp2_with fail
        clear y0 y1 y2
        refine (HFB.out wr HRD.out).mono ?_
        rintro e u3 ⟨rfl, hz⟩
        have HU3 := Lib.hid (HRD.out.trans (hz.mono HRD.out.size))
        clear hz
        go_wp2_with fail
        go_ret
        exact ⟨rfl, HB.out.trans (HU3.out.mono HB.out.size)⟩
   | false =>
    have HS0 : Hid (∀ (W' : World) (v' : Value), Below W2.heap.size W2 W' → MacW W' v' (dualM b) → Calls Tryz.prog 9 #[.agg #[.int .i64 b.st, .slice pb kb rb, .slice qb mb db], v'] W' (Told (.bool false) W')) := Lib.hid fun W' v' h k => by
     have q := isSafe_any (HM2.out.same h) k HW1.out.2 HWD.out (by omega) (by omega)
     rw [hs0] at q
     exact q
    clear hs0
    have CA3 := Lib.hid (three_cells ((HD3.out.block G1 hl1).trans HX1.out))
    have CB3 := Lib.hid (three_cells ((HD3.out.block G2 hl2).trans HX2.out))
    go_wp2_with fail
    have HBd : Hid (Below W3.heap.size W3 W3.drew) := Lib.hid (Below.refl _ _).drew
    refine wp_region_held_drew (S := fun w9 => w9.cell? ⟨G1, 0, none⟩ = some (.int .i64 a.st) ∧ w9.cell? ⟨G1, 1, none⟩ = some (.slice pa ka ra) ∧ w9.cell? ⟨G1, 2, none⟩ = some (.slice qa ma da) ∧ w9.cell? ⟨G2, 0, none⟩ = some (.int .i64 b.st) ∧ w9.cell? ⟨G2, 1, none⟩ = some (.slice pb kb rb) ∧ w9.cell? ⟨G2, 2, none⟩ = some (.slice qb mb db)) (by kernel_rfl) ⟨cell_stay CA3.out.1 HBd.out, cell_stay CA3.out.2.1 HBd.out, cell_stay CA3.out.2.2.1 HBd.out, cell_stay CB3.out.1 HBd.out, cell_stay CB3.out.2.1 HBd.out, cell_stay CB3.out.2.2.1 HBd.out⟩ (fun hHeld => ?_)
    refine wpAnyH_take (i := 0) (v := ?v28) (by simp only [get9]; rfl) (by kernel_rfl) (by kernel_rfl) (by kernel_rfl) (by exact fun _ _ _ h => h) (Or.inl ⟨by rfl, fun w9 hS9 => ?hy28⟩) hHeld ?rest28
    case hy28 =>
     dsimp only at hS9
     obtain ⟨z0, z1, z2, z3, z4, z5⟩ := hS9
     go_simp
     try with_reducible rfl
    try simp only [Act.put, set9]
    refine wpAnyH_take (i := 1) (v := ?v29) (by simp only [get9]; rfl) (by kernel_rfl) (by kernel_rfl) (by kernel_rfl) (by exact fun _ _ _ h => h) (Or.inl ⟨by rfl, fun w9 hS9 => ?hy29⟩) hHeld ?rest29
    case hy29 =>
     dsimp only at hS9
     obtain ⟨z0, z1, z2, z3, z4, z5⟩ := hS9
     go_simp
     try with_reducible rfl
    try simp only [Act.put, set9]
    refine wpAnyH_ready (rs := [2]) (by kernel_rfl) (by simp) (AllReadyH.cons (by simp only [get9]; rfl) (fun K hK => ?_) AllReadyH.nil)
    go_simp
    refine (dualOf_any (HM2.out.same (HD3.out.trans (HBd.out.mono HD3.out.size))) (by omega)).mono ?_
    rintro e w1 ⟨vd1, rfl, hod1, hb1⟩
    have HB1 : Hid (Below W3.heap.size W3 w1) := Lib.hid (HBd.out.trans (hb1.mono HBd.out.size))
    obtain ⟨p91, k91, r91, q91, m91, d91, rfl⟩ := hod1.shape
    have HOD1 := Lib.hid hod1.mac
    clear hod1
    clear hb1
    go_wp2_with fail
    refine hK.out _ _ ⟨cell_stay CA3.out.1 HB1.out, cell_stay CA3.out.2.1 HB1.out, cell_stay CA3.out.2.2.1 HB1.out, cell_stay CB3.out.1 HB1.out, cell_stay CB3.out.2.1 HB1.out, cell_stay CB3.out.2.2.1 HB1.out⟩ (fun hHeld => ?_)
    clear hK K
    try simp only [Act.put, set9]
    refine wpAnyH_ready (rs := [3]) (by kernel_rfl) (by simp) (AllReadyH.cons (by simp only [get9]; rfl) (fun K hK => ?_) AllReadyH.nil)
    go_simp
    refine (HS0.out _ _ (HD3.out.trans (HB1.out.mono HD3.out.size)) HOD1.out).mono ?_
    rintro e w2 ⟨rfl, hb2⟩
    have HB2 : Hid (Below W3.heap.size W3 w2) := Lib.hid (HB1.out.trans (hb2.mono HB1.out.size))
    clear hb2
    go_wp2_with fail
    refine hK.out _ _ ⟨cell_stay CA3.out.1 HB2.out, cell_stay CA3.out.2.1 HB2.out, cell_stay CA3.out.2.2.1 HB2.out, cell_stay CB3.out.1 HB2.out, cell_stay CB3.out.2.1 HB2.out, cell_stay CB3.out.2.2.1 HB2.out⟩ (fun hHeld => ?_)
    clear hK K
    try simp only [Act.put, set9]
    refine wpAnyH_take (i := 4) (v := ?v30) (by simp only [get9]; rfl) (by kernel_rfl) (by kernel_rfl) (by kernel_rfl) (by exact fun _ _ _ h => h) (Or.inl ⟨by rfl, fun w9 hS9 => ?hy30⟩) hHeld ?rest30
    case hy30 =>
     dsimp only at hS9
     obtain ⟨z0, z1, z2, z3, z4, z5⟩ := hS9
     go_simp
     try with_reducible rfl
    try simp only [Act.put, set9]
    refine wpAnyH_take (i := 5) (v := undef) (by simp only [get9]; rfl) (by kernel_rfl) (by kernel_rfl) (by kernel_rfl) (by exact fun _ _ _ h => h) (Or.inr ⟨by rfl, rfl⟩) hHeld ?_
    try simp only [Act.put, set9]
    refine wpAnyH_take (i := 6) (v := undef) (by simp only [get9]; rfl) (by kernel_rfl) (by kernel_rfl) (by kernel_rfl) (by exact fun _ _ _ h => h) (Or.inr ⟨by rfl, rfl⟩) hHeld ?_
    try simp only [Act.put, set9]
    refine wpAnyH_take (i := 7) (v := undef) (by simp only [get9]; rfl) (by kernel_rfl) (by kernel_rfl) (by kernel_rfl) (by exact fun _ _ _ h => h) (Or.inr ⟨by rfl, rfl⟩) hHeld ?_
    try simp only [Act.put, set9]
    refine wpAnyH_take (i := 8) (v := undef) (by simp only [get9]; rfl) (by kernel_rfl) (by kernel_rfl) (by kernel_rfl) (by exact fun _ _ _ h => h) (Or.inr ⟨by rfl, rfl⟩) hHeld ?_
    try simp only [Act.put, set9]
    refine wpAnyH_take (i := 9) (v := undef) (by simp only [get9]; rfl) (by kernel_rfl) (by kernel_rfl) (by kernel_rfl) (by exact fun _ _ _ h => h) (Or.inr ⟨by rfl, rfl⟩) hHeld ?_
    try simp only [Act.put, set9]
    refine wpAnyH_take (i := 10) (v := ?v36) (by simp only [get9]; rfl) (by kernel_rfl) (by kernel_rfl) (by kernel_rfl) (by exact fun _ _ _ h => h) (Or.inl ⟨by rfl, fun w9 hS9 => ?hy36⟩) hHeld ?rest36
    case hy36 =>
     dsimp only at hS9
     obtain ⟨z0, z1, z2, z3, z4, z5⟩ := hS9
     go_simp
     try with_reducible rfl
    try simp only [Act.put, set9]
    refine wpAnyH_done (by kernel_rfl) ?_ _
    obtain ⟨w4, hwv⟩ : ∃ u, u = w2 := ⟨w2, rfl⟩
    subst hwv
    have HD4 : Hid (Below W2.heap.size W2 w4) := Lib.hid (HD3.out.trans (HB2.out.mono HD3.out.size))
    clear CA3 CB3
    go_wp2_with fail
    refine (drawPairsOf_any a0 n0 c0 _ (HC.out.same (HB.out.trans (HD4.out.mono HB.out.size)))).mono ?_
    rintro e w_W6 ⟨vc, c, vd, d, rfl, hoa, hka, hob, hkb, hz⟩
    obtain ⟨pc, kc, rc, qc, mc, dc, rfl⟩ := hoa.shape
    obtain ⟨pd, kd, rd, qd, md, dd, rfl⟩ := hob.shape
    have hpc : c.parts ≤ 100 := by unfold Mac.parts; have := hka.1; have := hka.2.1; omega
    have hpd : d.parts ≤ 100 := by unfold Mac.parts; have := hkb.1; have := hkb.2.1; omega
    obtain ⟨hBB, hX, hY, hS2⟩ := twice w_W6 #[.int .i64 c.st, .slice pc kc rc, .slice qc mc dc] #[.int .i64 d.st, .slice pd kd rd, .slice qd md dd] 27 27
    have HM5 := Lib.hid (hoa.mac.same hBB)
    have HM6 := Lib.hid (hob.mac.same hBB)
    have HW5 := Lib.hid (And.intro hka.wmv hkb.wmv)
    have HX5 := Lib.hid hX
    have HX6 := Lib.hid hY
    have HB6 : Hid (Below W2.heap.size W2 ((w_W6.alloc (.cells #[.int .i64 c.st, .slice pc kc rc, .slice qc mc dc] 27)).alloc (.cells #[.int .i64 d.st, .slice pd kd rd, .slice qd md dd] 27))) := Lib.hid ((HD4.out.trans (hz.mono HD4.out.size)).trans (hBB.mono (Nat.le_trans HD4.out.size hz.size)))
    clear hoa hob hka hkb hz hBB hX hY hS2
    obtain ⟨x0, x1, x2, -⟩ := three_cells HX5.out
    obtain ⟨y0, y1, y2, -⟩ := three_cells HX6.out
    obtain ⟨u0, u1, u2, -⟩ := three_cells ((HB6.out.block G2 hl2).trans HX2.out)
    go_wp2_with fail
    clear x0 x1 x2 y0 y1 y2 u0 u1 u2
    obtain ⟨G5, hG1⟩ : ∃ u, u = w_W6.heap.size := ⟨_, rfl⟩
    obtain ⟨G6, hG2⟩ : ∃ u, u = w_W6.heap.size + 1 := ⟨_, rfl⟩
    rw [← hG1] at HX5
    rw [← hG2] at HX6
    rw [← hG2, ← hG1]
    clear hG1 hG2
    generalize (w_W6.alloc (.cells #[.int .i64 c.st, .slice pc kc rc, .slice qc mc dc] 27)).alloc (.cells #[.int .i64 d.st, .slice pd kd rd, .slice qd md dd] 27) = W6 at *
    have hl5 : G5 < W6.heap.size := (Array.getElem?_eq_some_iff.1 HX5.out).1
    have hl6 : G6 < W6.heap.size := (Array.getElem?_eq_some_iff.1 HX6.out).1
    have HD6 := Lib.hid HB6.out
    have HE6 : Hid (Below W6.heap.size W6 W6) := Lib.hid (Below.refl _ _)
    clear HB6
    cases hs1 : safeP b c with
    | true =>
     have hs1b := follow_safe HFO.out hs1
     have HQ := isSafe_any (HM2.out.same HD6.out) HM5.out HW1.out.2 HW5.out.1 (by omega) (by omega)
     rw [hs1] at HQ
     refine HQ.mono ?_
     rintro e w7 ⟨rfl, hz⟩
     have HD7 : Hid (Below W2.heap.size W2 w7) := Lib.hid (HD6.out.trans (hz.mono HD6.out.size))
     have HE7 : Hid (Below W6.heap.size W6 w7) := Lib.hid (HE6.out.trans (hz.mono HE6.out.size))
     clear hz HQ
     obtain ⟨x10, x11, x12, -⟩ := three_cells ((HD7.out.block G1 hl1).trans HX1.out)
     obtain ⟨x50, x51, x52, -⟩ := three_cells ((HE7.out.block G5 hl5).trans HX5.out)
     go_wp2_with fail
     clear x10 x11 x12 x50 x51 x52
     have HQ := isSafe_any (HM1.out.same HD7.out) (HM5.out.same HE7.out) HW1.out.1 HW5.out.1 (by omega) (by omega)
     rw [hs1b] at HQ
     refine HQ.mono ?_
     rintro e w8 ⟨rfl, hz⟩
     have HD8 : Hid (Below W2.heap.size W2 w8) := Lib.hid (HD7.out.trans (hz.mono HD7.out.size))
     have HE8 : Hid (Below W6.heap.size W6 w8) := Lib.hid (HE7.out.trans (hz.mono HE7.out.size))
     clear hz HQ
     clear hs1 hs1b
     cases hs2 : safeP b d with
     | true =>
      have hs2b := follow_safe HFO.out hs2
      obtain ⟨x20, x21, x22, -⟩ := three_cells ((HD8.out.block G2 hl2).trans HX2.out)
      obtain ⟨x60, x61, x62, -⟩ := three_cells ((HE8.out.block G6 hl6).trans HX6.out)
      go_wp2_with fail
      clear x20 x21 x22 x60 x61 x62
      have HQ := isSafe_any (HM2.out.same HD8.out) (HM6.out.same HE8.out) HW1.out.2 HW5.out.2 (by omega) (by omega)
      rw [hs2] at HQ
      refine HQ.mono ?_
      rintro e w8x ⟨rfl, hz⟩
      have HD8x : Hid (Below W2.heap.size W2 w8x) := Lib.hid (HD8.out.trans (hz.mono HD8.out.size))
      have HE8x : Hid (Below W6.heap.size W6 w8x) := Lib.hid (HE8.out.trans (hz.mono HE8.out.size))
      clear hz HQ
      obtain ⟨x10, x11, x12, -⟩ := three_cells ((HD8x.out.block G1 hl1).trans HX1.out)
      obtain ⟨x60, x61, x62, -⟩ := three_cells ((HE8x.out.block G6 hl6).trans HX6.out)
      go_wp2_with fail
      clear x10 x11 x12 x60 x61 x62
      have HQ := isSafe_any (HM1.out.same HD8x.out) (HM6.out.same HE8x.out) HW1.out.1 HW5.out.2 (by omega) (by omega)
      rw [hs2b] at HQ
      refine HQ.mono ?_
      rintro e w8y ⟨rfl, hz⟩
      have HD8y : Hid (Below W2.heap.size W2 w8y) := Lib.hid (HD8x.out.trans (hz.mono HD8x.out.size))
      have HE8y : Hid (Below W6.heap.size W6 w8y) := Lib.hid (HE8x.out.trans (hz.mono HE8x.out.size))
      clear hz HQ
      clear hs2 hs2b
      obtain ⟨x10, x11, x12, -⟩ := three_cells ((HD8y.out.block G1 hl1).trans HX1.out)
      obtain ⟨x20, x21, x22, -⟩ := three_cells ((HD8y.out.block G2 hl2).trans HX2.out)
      go_wp2_with fail
      clear x10 x11 x12 x20 x21 x22
      refine (followPairs_any (HM1.out.same HD8y.out) (HM2.out.same HD8y.out) HW1.out.1 HW1.out.2 (by omega) (by omega)).mono ?_
      rintro e v1 ⟨g, m, cc, rfl, ho, hz⟩
      have hcm := ho.count
      have hm36 := followP_len a b
      have hpos := follow_pos HFO.out
      have hroom := ho.room
      have HO := Lib.hid ho
      have HV1 : Hid (Below W2.heap.size W2 v1) := Lib.hid (HD8y.out.trans (hz.mono HD8y.out.size))
      clear ho hz
      have hmI : ((m : Int) > 0) := by omega
      go_wp2_with fail
      go_loopw [8] (fun i wr => ∃ j : Nat, i = .int .i64 j ∧ j ≤ m ∧ Below v1.heap.size v1 wr) (fun i _ => m - (intOf i).toNat)
      case atStart => exact ⟨0, rfl, Nat.zero_le _, Below.refl _ _⟩
      case round =>
       obtain ⟨j, rfl, hj, hb⟩ := hrel
       have HR := Lib.hid hb
       have HRD : Hid (Below W2.heap.size W2 wr) := Lib.hid (HV1.out.trans (hb.mono HV1.out.size))
       clear hb
       by_cases hlt : j < m
       ·obtain ⟨r, pr, hpr, hc0, hrow, o1, o2, o3⟩ := (HO.out.same HR.out).at_ hlt
        have hfa := follow_at HFO.out pr (List.mem_of_getElem? hpr)
        obtain ⟨d0, d1⟩ := two_cells hrow
        obtain ⟨x0, x1, x2, -⟩ := three_cells ((HRD.out.block G1 hl1).trans HX1.out)
        obtain ⟨y0, y1, y2, -⟩ := three_cells ((HRD.out.block G2 hl2).trans HX2.out)
        clear hpr hrow
        go_wp2_with fail
        go_still_tail 14, (by kernel_rfl)
        have H2 : Hid (Below wr.heap.size wr wr.drew) := Lib.hid (Below.refl _ _).drew
        change wpList _ _ _ _ _ wr.drew
        generalize wr.drew = u2 at H2 ⊢
        clear x0 x1 x2 y0 y1 y2 d0 d1 hc0
        have HRU : Hid (Below W2.heap.size W2 u2) := Lib.hid (HRD.out.trans (H2.out.mono HRD.out.size))
        have HQ := followsAt_any pr.1 pr.2 (HM1.out.same HRU.out) (HM2.out.same HRU.out) HW1.out.1 HW1.out.2 (by omega) (by omega)
        rw [hfa] at HQ
        have HQH := Lib.hid HQ
        clear HQ hfa
        go_wp2_with fail
        refine HQH.out.mono ?_
        rintro e u3 ⟨rfl, hz⟩
        have HR3 := Lib.hid (HR.out.trans ((H2.out.trans (hz.mono H2.out.size)).mono HR.out.size))
        clear hz
        go_wp2_with fail
        go_roundw
        case rel => exact ⟨j + 1, by go_num, by omega, HR3.out⟩
        case measure => simp [intOf]; omega
       ·obtain rfl : j = m := by omega
        obtain ⟨y0, y1, y2, -⟩ := three_cells ((HRD.out.block G2 hl2).trans HX2.out)
        go_wp2_with fail
        clear y0 y1 y2
        refine (HFB.out wr HRD.out).mono ?_
        rintro e u3 ⟨rfl, hz⟩
        have HU3 := Lib.hid (HRD.out.trans (hz.mono HRD.out.size))
        clear hz
        go_wp2_with fail
        go_ret
        exact ⟨rfl, HB.out.trans (HU3.out.mono HB.out.size)⟩
     | false =>
      obtain ⟨x20, x21, x22, -⟩ := three_cells ((HD8.out.block G2 hl2).trans HX2.out)
      obtain ⟨x60, x61, x62, -⟩ := three_cells ((HE8.out.block G6 hl6).trans HX6.out)
      go_wp2_with fail
      clear x20 x21 x22 x60 x61 x62
      have HQ := isSafe_any (HM2.out.same HD8.out) (HM6.out.same HE8.out) HW1.out.2 HW5.out.2 (by omega) (by omega)
      rw [hs2] at HQ
      refine HQ.mono ?_
      rintro e w8x ⟨rfl, hz⟩
      have HD8x : Hid (Below W2.heap.size W2 w8x) := Lib.hid (HD8.out.trans (hz.mono HD8.out.size))
      have HE8x : Hid (Below W6.heap.size W6 w8x) := Lib.hid (HE8.out.trans (hz.mono HE8.out.size))
      clear hz HQ
      clear hs2
      obtain ⟨x10, x11, x12, -⟩ := three_cells ((HD8x.out.block G1 hl1).trans HX1.out)
      obtain ⟨x20, x21, x22, -⟩ := three_cells ((HD8x.out.block G2 hl2).trans HX2.out)
      go_wp2_with fail
      clear x10 x11 x12 x20 x21 x22
      refine (followPairs_any (HM1.out.same HD8x.out) (HM2.out.same HD8x.out) HW1.out.1 HW1.out.2 (by omega) (by omega)).mono ?_
      rintro e v1 ⟨g, m, cc, rfl, ho, hz⟩
      have hcm := ho.count
      have hm36 := followP_len a b
      have hpos := follow_pos HFO.out
      have hroom := ho.room
      have HO := Lib.hid ho
      have HV1 : Hid (Below W2.heap.size W2 v1) := Lib.hid (HD8x.out.trans (hz.mono HD8x.out.size))
      clear ho hz
      have hmI : ((m : Int) > 0) := by omega
      go_wp2_with fail
      go_loopw [8] (fun i wr => ∃ j : Nat, i = .int .i64 j ∧ j ≤ m ∧ Below v1.heap.size v1 wr) (fun i _ => m - (intOf i).toNat)
      case atStart => exact ⟨0, rfl, Nat.zero_le _, Below.refl _ _⟩
      case round =>
       obtain ⟨j, rfl, hj, hb⟩ := hrel
       have HR := Lib.hid hb
       have HRD : Hid (Below W2.heap.size W2 wr) := Lib.hid (HV1.out.trans (hb.mono HV1.out.size))
       clear hb
       by_cases hlt : j < m
       ·obtain ⟨r, pr, hpr, hc0, hrow, o1, o2, o3⟩ := (HO.out.same HR.out).at_ hlt
        have hfa := follow_at HFO.out pr (List.mem_of_getElem? hpr)
        obtain ⟨d0, d1⟩ := two_cells hrow
        obtain ⟨x0, x1, x2, -⟩ := three_cells ((HRD.out.block G1 hl1).trans HX1.out)
        obtain ⟨y0, y1, y2, -⟩ := three_cells ((HRD.out.block G2 hl2).trans HX2.out)
        clear hpr hrow
        go_wp2_with fail
        go_still_tail 14, (by kernel_rfl)
        have H2 : Hid (Below wr.heap.size wr wr.drew) := Lib.hid (Below.refl _ _).drew
        change wpList _ _ _ _ _ wr.drew
        generalize wr.drew = u2 at H2 ⊢
        clear x0 x1 x2 y0 y1 y2 d0 d1 hc0
        have HRU : Hid (Below W2.heap.size W2 u2) := Lib.hid (HRD.out.trans (H2.out.mono HRD.out.size))
        have HQ := followsAt_any pr.1 pr.2 (HM1.out.same HRU.out) (HM2.out.same HRU.out) HW1.out.1 HW1.out.2 (by omega) (by omega)
        rw [hfa] at HQ
        have HQH := Lib.hid HQ
        clear HQ hfa
        go_wp2_with fail
        refine HQH.out.mono ?_
        rintro e u3 ⟨rfl, hz⟩
        have HR3 := Lib.hid (HR.out.trans ((H2.out.trans (hz.mono H2.out.size)).mono HR.out.size))
        clear hz
        go_wp2_with fail
        go_roundw
        case rel => exact ⟨j + 1, by go_num, by omega, HR3.out⟩
        case measure => simp [intOf]; omega
       ·obtain rfl : j = m := by omega
        obtain ⟨y0, y1, y2, -⟩ := three_cells ((HRD.out.block G2 hl2).trans HX2.out)
        go_wp2_with fail
        clear y0 y1 y2
        refine (HFB.out wr HRD.out).mono ?_
        rintro e u3 ⟨rfl, hz⟩
        have HU3 := Lib.hid (HRD.out.trans (hz.mono HRD.out.size))
        clear hz
        go_wp2_with fail
        go_ret
        exact ⟨rfl, HB.out.trans (HU3.out.mono HB.out.size)⟩
    | false =>
     have HQ := isSafe_any (HM2.out.same HD6.out) HM5.out HW1.out.2 HW5.out.1 (by omega) (by omega)
     rw [hs1] at HQ
     refine HQ.mono ?_
     rintro e w7 ⟨rfl, hz⟩
     have HD7 : Hid (Below W2.heap.size W2 w7) := Lib.hid (HD6.out.trans (hz.mono HD6.out.size))
     have HE7 : Hid (Below W6.heap.size W6 w7) := Lib.hid (HE6.out.trans (hz.mono HE6.out.size))
     clear hz HQ
     clear hs1
     cases hs2 : safeP b d with
     | true =>
      have hs2b := follow_safe HFO.out hs2
      obtain ⟨x20, x21, x22, -⟩ := three_cells ((HD7.out.block G2 hl2).trans HX2.out)
      obtain ⟨x60, x61, x62, -⟩ := three_cells ((HE7.out.block G6 hl6).trans HX6.out)
      go_wp2_with fail
      clear x20 x21 x22 x60 x61 x62
      have HQ := isSafe_any (HM2.out.same HD7.out) (HM6.out.same HE7.out) HW1.out.2 HW5.out.2 (by omega) (by omega)
      rw [hs2] at HQ
      refine HQ.mono ?_
      rintro e w7x ⟨rfl, hz⟩
      have HD7x : Hid (Below W2.heap.size W2 w7x) := Lib.hid (HD7.out.trans (hz.mono HD7.out.size))
      have HE7x : Hid (Below W6.heap.size W6 w7x) := Lib.hid (HE7.out.trans (hz.mono HE7.out.size))
      clear hz HQ
      obtain ⟨x10, x11, x12, -⟩ := three_cells ((HD7x.out.block G1 hl1).trans HX1.out)
      obtain ⟨x60, x61, x62, -⟩ := three_cells ((HE7x.out.block G6 hl6).trans HX6.out)
      go_wp2_with fail
      clear x10 x11 x12 x60 x61 x62
      have HQ := isSafe_any (HM1.out.same HD7x.out) (HM6.out.same HE7x.out) HW1.out.1 HW5.out.2 (by omega) (by omega)
      rw [hs2b] at HQ
      refine HQ.mono ?_
      rintro e w7y ⟨rfl, hz⟩
      have HD7y : Hid (Below W2.heap.size W2 w7y) := Lib.hid (HD7x.out.trans (hz.mono HD7x.out.size))
      have HE7y : Hid (Below W6.heap.size W6 w7y) := Lib.hid (HE7x.out.trans (hz.mono HE7x.out.size))
      clear hz HQ
      clear hs2 hs2b
      obtain ⟨x10, x11, x12, -⟩ := three_cells ((HD7y.out.block G1 hl1).trans HX1.out)
      obtain ⟨x20, x21, x22, -⟩ := three_cells ((HD7y.out.block G2 hl2).trans HX2.out)
      go_wp2_with fail
      clear x10 x11 x12 x20 x21 x22
      refine (followPairs_any (HM1.out.same HD7y.out) (HM2.out.same HD7y.out) HW1.out.1 HW1.out.2 (by omega) (by omega)).mono ?_
      rintro e v1 ⟨g, m, cc, rfl, ho, hz⟩
      have hcm := ho.count
      have hm36 := followP_len a b
      have hpos := follow_pos HFO.out
      have hroom := ho.room
      have HO := Lib.hid ho
      have HV1 : Hid (Below W2.heap.size W2 v1) := Lib.hid (HD7y.out.trans (hz.mono HD7y.out.size))
      clear ho hz
      have hmI : ((m : Int) > 0) := by omega
      go_wp2_with fail
      go_loopw [8] (fun i wr => ∃ j : Nat, i = .int .i64 j ∧ j ≤ m ∧ Below v1.heap.size v1 wr) (fun i _ => m - (intOf i).toNat)
      case atStart => exact ⟨0, rfl, Nat.zero_le _, Below.refl _ _⟩
      case round =>
       obtain ⟨j, rfl, hj, hb⟩ := hrel
       have HR := Lib.hid hb
       have HRD : Hid (Below W2.heap.size W2 wr) := Lib.hid (HV1.out.trans (hb.mono HV1.out.size))
       clear hb
       by_cases hlt : j < m
       ·obtain ⟨r, pr, hpr, hc0, hrow, o1, o2, o3⟩ := (HO.out.same HR.out).at_ hlt
        have hfa := follow_at HFO.out pr (List.mem_of_getElem? hpr)
        obtain ⟨d0, d1⟩ := two_cells hrow
        obtain ⟨x0, x1, x2, -⟩ := three_cells ((HRD.out.block G1 hl1).trans HX1.out)
        obtain ⟨y0, y1, y2, -⟩ := three_cells ((HRD.out.block G2 hl2).trans HX2.out)
        clear hpr hrow
        go_wp2_with fail
        go_still_tail 14, (by kernel_rfl)
        have H2 : Hid (Below wr.heap.size wr wr.drew) := Lib.hid (Below.refl _ _).drew
        change wpList _ _ _ _ _ wr.drew
        generalize wr.drew = u2 at H2 ⊢
        clear x0 x1 x2 y0 y1 y2 d0 d1 hc0
        have HRU : Hid (Below W2.heap.size W2 u2) := Lib.hid (HRD.out.trans (H2.out.mono HRD.out.size))
        have HQ := followsAt_any pr.1 pr.2 (HM1.out.same HRU.out) (HM2.out.same HRU.out) HW1.out.1 HW1.out.2 (by omega) (by omega)
        rw [hfa] at HQ
        have HQH := Lib.hid HQ
        clear HQ hfa
        go_wp2_with fail
        refine HQH.out.mono ?_
        rintro e u3 ⟨rfl, hz⟩
        have HR3 := Lib.hid (HR.out.trans ((H2.out.trans (hz.mono H2.out.size)).mono HR.out.size))
        clear hz
        go_wp2_with fail
        go_roundw
        case rel => exact ⟨j + 1, by go_num, by omega, HR3.out⟩
        case measure => simp [intOf]; omega
       ·obtain rfl : j = m := by omega
        obtain ⟨y0, y1, y2, -⟩ := three_cells ((HRD.out.block G2 hl2).trans HX2.out)
        go_wp2_with fail
        clear y0 y1 y2
        refine (HFB.out wr HRD.out).mono ?_
        rintro e u3 ⟨rfl, hz⟩
        have HU3 := Lib.hid (HRD.out.trans (hz.mono HRD.out.size))
        clear hz
        go_wp2_with fail
        go_ret
        exact ⟨rfl, HB.out.trans (HU3.out.mono HB.out.size)⟩
     | false =>
      obtain ⟨x20, x21, x22, -⟩ := three_cells ((HD7.out.block G2 hl2).trans HX2.out)
      obtain ⟨x60, x61, x62, -⟩ := three_cells ((HE7.out.block G6 hl6).trans HX6.out)
      go_wp2_with fail
      clear x20 x21 x22 x60 x61 x62
      have HQ := isSafe_any (HM2.out.same HD7.out) (HM6.out.same HE7.out) HW1.out.2 HW5.out.2 (by omega) (by omega)
      rw [hs2] at HQ
      refine HQ.mono ?_
      rintro e w7x ⟨rfl, hz⟩
      have HD7x : Hid (Below W2.heap.size W2 w7x) := Lib.hid (HD7.out.trans (hz.mono HD7.out.size))
      have HE7x : Hid (Below W6.heap.size W6 w7x) := Lib.hid (HE7.out.trans (hz.mono HE7.out.size))
      clear hz HQ
      clear hs2
      obtain ⟨x10, x11, x12, -⟩ := three_cells ((HD7x.out.block G1 hl1).trans HX1.out)
      obtain ⟨x20, x21, x22, -⟩ := three_cells ((HD7x.out.block G2 hl2).trans HX2.out)
      go_wp2_with fail
      clear x10 x11 x12 x20 x21 x22
      refine (followPairs_any (HM1.out.same HD7x.out) (HM2.out.same HD7x.out) HW1.out.1 HW1.out.2 (by omega) (by omega)).mono ?_
      rintro e v1 ⟨g, m, cc, rfl, ho, hz⟩
      have hcm := ho.count
      have hm36 := followP_len a b
      have hpos := follow_pos HFO.out
      have hroom := ho.room
      have HO := Lib.hid ho
      have HV1 : Hid (Below W2.heap.size W2 v1) := Lib.hid (HD7x.out.trans (hz.mono HD7x.out.size))
      clear ho hz
      have hmI : ((m : Int) > 0) := by omega
      go_wp2_with fail
      go_loopw [8] (fun i wr => ∃ j : Nat, i = .int .i64 j ∧ j ≤ m ∧ Below v1.heap.size v1 wr) (fun i _ => m - (intOf i).toNat)
      case atStart => exact ⟨0, rfl, Nat.zero_le _, Below.refl _ _⟩
      case round =>
       obtain ⟨j, rfl, hj, hb⟩ := hrel
       have HR := Lib.hid hb
       have HRD : Hid (Below W2.heap.size W2 wr) := Lib.hid (HV1.out.trans (hb.mono HV1.out.size))
       clear hb
       by_cases hlt : j < m
       ·obtain ⟨r, pr, hpr, hc0, hrow, o1, o2, o3⟩ := (HO.out.same HR.out).at_ hlt
        have hfa := follow_at HFO.out pr (List.mem_of_getElem? hpr)
        obtain ⟨d0, d1⟩ := two_cells hrow
        obtain ⟨x0, x1, x2, -⟩ := three_cells ((HRD.out.block G1 hl1).trans HX1.out)
        obtain ⟨y0, y1, y2, -⟩ := three_cells ((HRD.out.block G2 hl2).trans HX2.out)
        clear hpr hrow
        go_wp2_with fail
        go_still_tail 14, (by kernel_rfl)
        have H2 : Hid (Below wr.heap.size wr wr.drew) := Lib.hid (Below.refl _ _).drew
        change wpList _ _ _ _ _ wr.drew
        generalize wr.drew = u2 at H2 ⊢
        clear x0 x1 x2 y0 y1 y2 d0 d1 hc0
        have HRU : Hid (Below W2.heap.size W2 u2) := Lib.hid (HRD.out.trans (H2.out.mono HRD.out.size))
        have HQ := followsAt_any pr.1 pr.2 (HM1.out.same HRU.out) (HM2.out.same HRU.out) HW1.out.1 HW1.out.2 (by omega) (by omega)
        rw [hfa] at HQ
        have HQH := Lib.hid HQ
        clear HQ hfa
        go_wp2_with fail
        refine HQH.out.mono ?_
        rintro e u3 ⟨rfl, hz⟩
        have HR3 := Lib.hid (HR.out.trans ((H2.out.trans (hz.mono H2.out.size)).mono HR.out.size))
        clear hz
        go_wp2_with fail
        go_roundw
        case rel => exact ⟨j + 1, by go_num, by omega, HR3.out⟩
        case measure => simp [intOf]; omega
       ·obtain rfl : j = m := by omega
        obtain ⟨y0, y1, y2, -⟩ := three_cells ((HRD.out.block G2 hl2).trans HX2.out)
        go_wp2_with fail
        clear y0 y1 y2
        refine (HFB.out wr HRD.out).mono ?_
        rintro e u3 ⟨rfl, hz⟩
        have HU3 := Lib.hid (HRD.out.trans (hz.mono HRD.out.size))
        clear hz
        go_wp2_with fail
        go_ret
        exact ⟨rfl, HB.out.trans (HU3.out.mono HB.out.size)⟩

set_option maxRecDepth 100000 in
theorem lifted (os : Os) (started : os.Started) (H : Type) (enc : TypeId × Value → H) :
  ReturnsInHanded {} Tryz.checked os 3 .any (Rows.fnFollowsSpec.pre6 enc Tryz.prog Tryz.f3 Rows.fnFollowsRow.domain false) (Rows.fnFollowsSpec.post enc Tryz.prog Tryz.f3 false true false false) := by
 refine returnsInHanded_of_change (C := Tryz.checked) own started (by kernel_rfl) Tryz.func3
  (ChangeSpec.witness6 (enc := enc) (C := Tryz.checked) false ⟨#[], #[.slice none 0 0], []⟩ 8 (by kernel_rfl) (by kernel_rfl) (by kernel_rfl) (by kernel_rfl)) ?_
 intro W base args ds gs before hval0 hW hcnd _
 have hval : ∀ (j : Nat) t v, Tryz.f3.params[j]? = some t → args[j]? = some v → Value.okWide Tryz.prog W .any base t v := hval0
 have hW' := hW
 obtain ⟨p, q, hA0, hV, rfl, hfz, hnd⟩ := hW
 have hA : DataW.TrodAll enc Tryz.prog W 0 (fun _ => true) true Tryz.f3.params.toList args.toList ds p := hA0
 rw [Tryz.params3] at hA hval
 obtain ⟨v0, vs0, d0, ds0, p0, q0, hargs, rfl, rfl, h0, r0⟩ := trodAll_cons hA
 obtain ⟨rfl, rfl, rfl⟩ := trodAll_nil r0
 obtain rfl : args = #[v0] := by cases args; simp_all
 obtain ⟨rfl, rfl⟩ := trodVars_none hV
 have h0k := h0
 have hlt0 : ∀ x ∈ p0, x.block < W.heap.size := fun x hx => by simpa using hW'.lt x (by simp [hx])
 obtain ⟨a0, n0, c0, l0, rfl, K0, F0, R0⟩ := open_nums Tryz.underlying22 Tryz.underlying5 byte_cells (hval 0 22 v0 rfl rfl) h0
 clear hA0 hval0
 simp only [List.append_nil] at hW'
 refine (walk a0 n0 c0 l0 W K0 F0 R0).mono fun e W' ⟨he, hb⟩ => ?_
 subst he
 exact ⟨_, rfl, ⟨_, _, _, [], _, [], hW', (trodAll_cons_mk (shut_bool Tryz.underlying4 _) trodAll_mk0), (trodAll_cons_mk (Below.trod laidOut (by kernel_rfl) (of_decide_eq_true (by kernel_rfl)) h0k hb hlt0) trodAll_mk0), rfl, hb.frame _, fun h => by cases h⟩⟩

theorem over : Rows.fnFollowsRow.holds Tryz.pinned (OpenSpec.ofChange Rows.fnFollowsSpec) :=
 OpenClaim.holds_of_wide 3 Tryz.f3 rfl rfl rfl rfl rfl rfl rfl ⟨rfl, rfl, rfl, rfl, rfl⟩ rfl rfl rfl rfl rfl (by kernel_rfl) Tryz.func3 (by kernel_rfl)
  (of_decide_eq_true (by kernel_rfl)) (by unfold Func.isWrapper; first | (rw [if_pos (by decide +kernel)]; kernel_rfl) | (rw [if_neg (by decide +kernel)]; exact ⟨rfl, rfl⟩))
  (fun os started H enc _ => lifted os started H enc)

theorem proved : Rows.FnFollowsSaid :=
 over
end Go.Proofs.YtckmgbobkffabaaGreat.fnFollows
