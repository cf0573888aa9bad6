/- For every input of bytes: two drawn machines are safe with each other in either order or in none, reach as many pairs in either order, and a first trouble is there just where two valid machines are not safe; a machine and its dual reach only equal states, leave nothing unread there, and go on within the machine. -/
import Derived.Test.YtckmgbobkffabaaDr
import Derived.Test.YtckmgbobkffabaaDrBig
import Derived.Test.YtckmgbobkffabaaPn
import Derived.Test.YtckmgbobkffabaaDu
import Derived.Test.YtckmgbobkffabaaSf
import Derived.Test.YtckmgbobkffabaaIsM
import Derived.Test.YtckmgbobkffabaaPw
import Derived.Test.YtckmgbobkffabaaOpen
import Derived.WalkKit
import Derived.Deep.RegionHeld3
import Derived.ProofKit
import Derived.OpenShut
namespace Go.Proofs.Ytckmgbobkffabaa.fnPairs
open Go.ChangeShapes Go.WideShapes Go.ChangeAt Go.RowKit Go.Lib
open Go.ChangeMaps (open_string shut_string)
set_option linter.unusedVariables false

theorem own : ownKnob Try.prog.godebug = none := by kernel_rfl
set_option linter.unusedSimpArgs false

set_option maxHeartbeats 40000000 in
set_option maxRecDepth 100000 in
theorem walk (a0 : Option Addr) (n0 c0 : Nat) (l0 : List Int) (w : World) (K0 : Nums .u8 w a0 n0 l0) (F0 : ∀ x ∈ l0, (Lit.int .u8 x).wf = true) (R0 : n0 ≤ c0 ∧ (c0 : Int) ≤ 9223372036854775807) :
    Calls Try.prog 3 #[.slice a0 n0 c0] w fun e w' => e = .returned (.bool true) ∧ Below w.heap.size w w' := by
  have HK0 := Lib.hid K0
  have HF := Lib.hid (bs_of_wf F0)
  have hfit := K0.fits
  clear K0 F0 R0
  by_cases hbig : 1048576 < n0
  · go_enter Try.func3, Try.ntmps3
    go_wp2_with fail
    refine (big_yes a0 n0 c0 hfit hbig _).mono ?_
    rintro e w1 ⟨rfl, rfl⟩
    go_wp2_with fail
    go_ret
    exact ⟨rfl, Below.refl _ _⟩
  · have HC := Lib.hid (code_of HK0.out HF.out)
    go_enter Try.func3, Try.ntmps3
    go_wp2_with fail
    refine (big_no a0 n0 c0 hfit hbig _).mono ?_
    rintro e w1 ⟨rfl, rfl⟩
    clear hfit hbig HK0 HF
    go_wp2_with fail
    refine (drawIsSafe_any a0 n0 c0 _ HC.out).mono ?_
    rintro e w_1 ⟨va, a, vb, b, rfl, hoa, hka, hob, hkb, hz⟩
    obtain ⟨pa, ka, ra, qa, ma, da, rfl⟩ := hoa.shape
    obtain ⟨pb, kb, rb, qb, mb, db, rfl⟩ := hob.shape
    have hpa : a.parts ≤ 100 := by unfold Mac.parts; have := hka.1; have := hka.2.1; omega
    have hpb : b.parts ≤ 100 := by unfold Mac.parts; have := hkb.1; have := hkb.2.1; omega
    obtain ⟨hBB, hX, hY, hS2⟩ := twice w_1 #[.int .i64 a.st, .slice pa ka ra, .slice qa ma da] #[.int .i64 b.st, .slice pb kb rb, .slice qb mb db] 27 27
    have HM := Lib.hid (hoa.mac.same hBB)
    have HN := Lib.hid (hob.mac.same hBB)
    have HW := Lib.hid (And.intro hka.wmv hkb.wmv)
    have HX1 := Lib.hid hX
    have HX2 := Lib.hid hY
    have HB : Hid (Below w.heap.size w ((w_1.alloc (.cells #[.int .i64 a.st, .slice pa ka ra, .slice qa ma da] 27)).alloc (.cells #[.int .i64 b.st, .slice pb kb rb, .slice qb mb db] 27))) := Lib.hid (hz.trans (hBB.mono hz.size))
    have HIX : Hid (w_1.heap.size + 2 = ((w_1.alloc (.cells #[.int .i64 a.st, .slice pa ka ra, .slice qa ma da] 27)).alloc (.cells #[.int .i64 b.st, .slice pb kb rb, .slice qb mb db] 27)).heap.size) := Lib.hid hS2.symm
    clear hoa hob hka hkb hz hBB hX hY hS2 HC
    obtain ⟨x0, x1, x2, -⟩ := three_cells HX1.out
    obtain ⟨y0, y1, y2, -⟩ := three_cells HX2.out
    go_wp2_with fail
    clear x0 x1 x2 y0 y1 y2
    generalize (w_1.alloc (.cells #[.int .i64 a.st, .slice pa ka ra, .slice qa ma da] 27)).alloc (.cells #[.int .i64 b.st, .slice pb kb rb, .slice qb mb db] 27) = W2 at *
    obtain ⟨G1, hG1⟩ : ∃ u, u = w_1.heap.size := ⟨_, rfl⟩
    obtain ⟨G2, hG2⟩ : ∃ u, u = w_1.heap.size + 1 := ⟨_, rfl⟩
    rw [← hG1] at HX1
    rw [← hG2] at HX2
    rw [← hG2, ← hG1]
    clear hG1 hG2 HIX
    have hl1 : G1 < W2.heap.size := (Array.getElem?_eq_some_iff.1 HX1.out).1
    have hl2 : G2 < W2.heap.size := (Array.getElem?_eq_some_iff.1 HX2.out).1
    have HFT := Lib.hid (fun W' (h : Below W2.heap.size W2 W') => firstTrouble_any (HM.out.same h) (HN.out.same h) HW.out.1 HW.out.2 (by omega) (by omega))
    have HP12 := Lib.hid (fun W' (h : Below W2.heap.size W2 W') => pairsOf_any (HM.out.same h) (HN.out.same h) HW.out.1 HW.out.2 (by omega) (by omega))
    have HP21 := Lib.hid (fun W' (h : Below W2.heap.size W2 W') => pairsOf_any (HN.out.same h) (HM.out.same h) HW.out.2 HW.out.1 (by omega) (by omega))
    have HIA := Lib.hid (fun W' (h : Below W2.heap.size W2 W') => isMachine_any (HM.out.same h))
    have HIB := Lib.hid (fun W' (h : Below W2.heap.size W2 W') => isMachine_any (HN.out.same h))
    have HSA := Lib.hid (fun W' (h : Below W2.heap.size W2 W') => specIsMachine_any (HM.out.same h))
    have HS21 := Lib.hid (fun W' (h : Below W2.heap.size W2 W') => isSafe_any (HN.out.same h) (HM.out.same h) HW.out.2 HW.out.1 (by omega) (by omega))
    have HWD : Hid (∀ z ∈ (dualM a).moves, Wmv z) := Lib.hid (fun z hz => by
      obtain ⟨u, hu, rfl⟩ := List.mem_map.1 hz
      exact HW.out.1 u hu)
    have hpd : (dualM a).parts ≤ 100 := by rw [dualM_parts]; exact hpa
    refine (isSafe_any HM.out HN.out HW.out.1 HW.out.2 (by omega) (by omega)).mono ?_
    rintro e W3 ⟨rfl, hz⟩
    have HD3 := Lib.hid hz
    clear hz
    cases hsf : safeP a b with
    | true =>
      have HSF := Lib.hid hsf
      have hturn := safeP_turn a b
      rw [hsf] at hturn
      rw [← hturn] at HS21
      clear hsf hturn
      have CA3 := Lib.hid (three_cells ((HD3.out.block G1 hl1).trans HX1.out))
      have CB3 := Lib.hid (three_cells ((HD3.out.block G2 hl2).trans HX2.out))
      go_wp2_with fail
      have HBd : Hid (Below W3.heap.size W3 W3.drew) := Lib.hid (Below.refl _ _).drew
      refine wp_region_held_drew (S := fun w9 => w9.cell? ⟨G1, 0, none⟩ = some (.int .i64 a.st) ∧ w9.cell? ⟨G1, 1, none⟩ = some (.slice pa ka ra) ∧ w9.cell? ⟨G1, 2, none⟩ = some (.slice qa ma da) ∧ w9.cell? ⟨G2, 0, none⟩ = some (.int .i64 b.st) ∧ w9.cell? ⟨G2, 1, none⟩ = some (.slice pb kb rb) ∧ w9.cell? ⟨G2, 2, none⟩ = some (.slice qb mb db)) (by kernel_rfl) ⟨cell_stay CA3.out.1 HBd.out, cell_stay CA3.out.2.1 HBd.out, cell_stay CA3.out.2.2.1 HBd.out, cell_stay CB3.out.1 HBd.out, cell_stay CB3.out.2.1 HBd.out, cell_stay CB3.out.2.2.1 HBd.out⟩ (fun hHeld => ?_)
      refine wpAnyH_take (i := 0) (v := ?v1) (by simp only [List.getElem?_toArray, List.getElem?_cons_succ, List.getElem?_cons_zero]; rfl) (by kernel_rfl) (by kernel_rfl) (by kernel_rfl) (by exact fun _ _ _ h => h) (Or.inl ⟨by rfl, fun w9 hS9 => ?hy1⟩) hHeld ?rest1
      case hy1 =>
        dsimp only at hS9
        obtain ⟨z0, z1, z2, z3, z4, z5⟩ := hS9
        go_simp
        try with_reducible rfl
      try simp only [Act.put, List.setIfInBounds_toArray, List.set_cons_zero, List.set_cons_succ]
      refine wpAnyH_take (i := 1) (v := ?v2) (by simp only [List.getElem?_toArray, List.getElem?_cons_succ, List.getElem?_cons_zero]; rfl) (by kernel_rfl) (by kernel_rfl) (by kernel_rfl) (by exact fun _ _ _ h => h) (Or.inl ⟨by rfl, fun w9 hS9 => ?hy2⟩) hHeld ?rest2
      case hy2 =>
        dsimp only at hS9
        obtain ⟨z0, z1, z2, z3, z4, z5⟩ := hS9
        go_simp
        try with_reducible rfl
      try simp only [Act.put, List.setIfInBounds_toArray, List.set_cons_zero, List.set_cons_succ]
      refine wpAnyH_take (i := 2) (v := ?v3) (by simp only [List.getElem?_toArray, List.getElem?_cons_succ, List.getElem?_cons_zero]; rfl) (by kernel_rfl) (by kernel_rfl) (by kernel_rfl) (by exact fun _ _ _ h => h) (Or.inl ⟨by rfl, fun w9 hS9 => ?hy3⟩) hHeld ?rest3
      case hy3 =>
        dsimp only at hS9
        obtain ⟨z0, z1, z2, z3, z4, z5⟩ := hS9
        go_simp
        try with_reducible rfl
      try simp only [Act.put, List.setIfInBounds_toArray, List.set_cons_zero, List.set_cons_succ]
      refine wpAnyH_ready (rs := [3]) (by kernel_rfl) (by simp) (AllReadyH.cons (by simp only [List.getElem?_toArray, List.getElem?_cons_succ, List.getElem?_cons_zero]; rfl) (fun K hK => ?_) AllReadyH.nil)
      go_simp
      refine (HS21.out _ (HD3.out.trans (HBd.out.mono HD3.out.size))).mono ?_
      rintro e w1 ⟨rfl, hb1⟩
      have HB1 : Hid (Below W3.heap.size W3 w1) := Lib.hid (HBd.out.trans (hb1.mono HBd.out.size))
      clear hb1
      go_wp2_with fail
      refine hK.out _ _ ⟨cell_stay CA3.out.1 HB1.out, cell_stay CA3.out.2.1 HB1.out, cell_stay CA3.out.2.2.1 HB1.out, cell_stay CB3.out.1 HB1.out, cell_stay CB3.out.2.1 HB1.out, cell_stay CB3.out.2.2.1 HB1.out⟩ (fun hHeld => ?_)
      clear hK K
      try simp only [Act.put, List.setIfInBounds_toArray, List.set_cons_zero, List.set_cons_succ]
      refine wpAnyH_take (i := 4) (v := ?v4) (by simp only [List.getElem?_toArray, List.getElem?_cons_succ, List.getElem?_cons_zero]; rfl) (by kernel_rfl) (by kernel_rfl) (by kernel_rfl) (by exact fun _ _ _ h => h) (Or.inl ⟨by rfl, fun w9 hS9 => ?hy4⟩) hHeld ?rest4
      case hy4 =>
        dsimp only at hS9
        obtain ⟨z0, z1, z2, z3, z4, z5⟩ := hS9
        go_simp
        try with_reducible rfl
      try simp only [Act.put, List.setIfInBounds_toArray, List.set_cons_zero, List.set_cons_succ]
      refine wpAnyH_take (i := 5) (v := ?v5) (by simp only [List.getElem?_toArray, List.getElem?_cons_succ, List.getElem?_cons_zero]; rfl) (by kernel_rfl) (by kernel_rfl) (by kernel_rfl) (by exact fun _ _ _ h => h) (Or.inl ⟨by rfl, fun w9 hS9 => ?hy5⟩) hHeld ?rest5
      case hy5 =>
        dsimp only at hS9
        obtain ⟨z0, z1, z2, z3, z4, z5⟩ := hS9
        go_simp
        try with_reducible rfl
      try simp only [Act.put, List.setIfInBounds_toArray, List.set_cons_zero, List.set_cons_succ]
      refine wpAnyH_take (i := 6) (v := ?v6) (by simp only [List.getElem?_toArray, List.getElem?_cons_succ, List.getElem?_cons_zero]; rfl) (by kernel_rfl) (by kernel_rfl) (by kernel_rfl) (by exact fun _ _ _ h => h) (Or.inl ⟨by rfl, fun w9 hS9 => ?hy6⟩) hHeld ?rest6
      case hy6 =>
        dsimp only at hS9
        obtain ⟨z0, z1, z2, z3, z4, z5⟩ := hS9
        go_simp
        try with_reducible rfl
      try simp only [Act.put, List.setIfInBounds_toArray, List.set_cons_zero, List.set_cons_succ]
      refine wpAnyH_take (i := 7) (v := ?v7) (by simp only [List.getElem?_toArray, List.getElem?_cons_succ, List.getElem?_cons_zero]; rfl) (by kernel_rfl) (by kernel_rfl) (by kernel_rfl) (by exact fun _ _ _ h => h) (Or.inl ⟨by rfl, fun w9 hS9 => ?hy7⟩) hHeld ?rest7
      case hy7 =>
        dsimp only at hS9
        obtain ⟨z0, z1, z2, z3, z4, z5⟩ := hS9
        go_simp
        try with_reducible rfl
      try simp only [Act.put, List.setIfInBounds_toArray, List.set_cons_zero, List.set_cons_succ]
      refine wpAnyH_take (i := 8) (v := ?v8) (by simp only [List.getElem?_toArray, List.getElem?_cons_succ, List.getElem?_cons_zero]; rfl) (by kernel_rfl) (by kernel_rfl) (by kernel_rfl) (by exact fun _ _ _ h => h) (Or.inl ⟨by rfl, fun w9 hS9 => ?hy8⟩) hHeld ?rest8
      case hy8 =>
        dsimp only at hS9
        obtain ⟨z0, z1, z2, z3, z4, z5⟩ := hS9
        go_simp
        try with_reducible rfl
      try simp only [Act.put, List.setIfInBounds_toArray, List.set_cons_zero, List.set_cons_succ]
      refine wpAnyH_take (i := 9) (v := ?v9) (by simp only [List.getElem?_toArray, List.getElem?_cons_succ, List.getElem?_cons_zero]; rfl) (by kernel_rfl) (by kernel_rfl) (by kernel_rfl) (by exact fun _ _ _ h => h) (Or.inl ⟨by rfl, fun w9 hS9 => ?hy9⟩) hHeld ?rest9
      case hy9 =>
        dsimp only at hS9
        obtain ⟨z0, z1, z2, z3, z4, z5⟩ := hS9
        go_simp
        try with_reducible rfl
      try simp only [Act.put, List.setIfInBounds_toArray, List.set_cons_zero, List.set_cons_succ]
      refine wpAnyH_ready (rs := [10]) (by kernel_rfl) (by simp) (AllReadyH.cons (by simp only [List.getElem?_toArray, List.getElem?_cons_succ, List.getElem?_cons_zero]; rfl) (fun K hK => ?_) AllReadyH.nil)
      go_simp
      refine (HFT.out _ (HD3.out.trans (HB1.out.mono HD3.out.size))).mono ?_
      rintro e w2 ⟨a7, n7, c7, rfl, ho2, hb2⟩
      have HB2 : Hid (Below W3.heap.size W3 w2) := Lib.hid (HB1.out.trans (hb2.mono HB1.out.size))
      obtain rfl : n7 = 0 := by rw [← ho2.len]; exact safe_row HSF.out
      clear ho2
      clear hb2
      go_wp2_with fail
      refine hK.out _ _ ⟨cell_stay CA3.out.1 HB2.out, cell_stay CA3.out.2.1 HB2.out, cell_stay CA3.out.2.2.1 HB2.out, cell_stay CB3.out.1 HB2.out, cell_stay CB3.out.2.1 HB2.out, cell_stay CB3.out.2.2.1 HB2.out⟩ (fun hHeld => ?_)
      clear hK K
      try simp only [Act.put, List.setIfInBounds_toArray, List.set_cons_zero, List.set_cons_succ]
      refine wpAnyH_take (i := 11) (v := ?v10) (by simp only [List.getElem?_toArray, List.getElem?_cons_succ, List.getElem?_cons_zero]; rfl) (by kernel_rfl) (by kernel_rfl) (by kernel_rfl) (by exact fun _ _ _ h => h) (Or.inl ⟨by rfl, fun w9 hS9 => ?hy10⟩) hHeld ?rest10
      case hy10 =>
        dsimp only at hS9
        obtain ⟨z0, z1, z2, z3, z4, z5⟩ := hS9
        go_simp
        try with_reducible rfl
      try simp only [Act.put, List.setIfInBounds_toArray, List.set_cons_zero, List.set_cons_succ]
      refine wpAnyH_take (i := 12) (v := ?v11) (by simp only [List.getElem?_toArray, List.getElem?_cons_succ, List.getElem?_cons_zero]; rfl) (by kernel_rfl) (by kernel_rfl) (by kernel_rfl) (by exact fun _ _ _ h => h) (Or.inl ⟨by rfl, fun w9 hS9 => ?hy11⟩) hHeld ?rest11
      case hy11 =>
        dsimp only at hS9
        obtain ⟨z0, z1, z2, z3, z4, z5⟩ := hS9
        go_simp
        try with_reducible rfl
      try simp only [Act.put, List.setIfInBounds_toArray, List.set_cons_zero, List.set_cons_succ]
      refine wpAnyH_take (i := 13) (v := ?v12) (by simp only [List.getElem?_toArray, List.getElem?_cons_succ, List.getElem?_cons_zero]; rfl) (by kernel_rfl) (by kernel_rfl) (by kernel_rfl) (by exact fun _ _ _ h => h) (Or.inl ⟨by rfl, fun w9 hS9 => ?hy12⟩) hHeld ?rest12
      case hy12 =>
        dsimp only at hS9
        obtain ⟨z0, z1, z2, z3, z4, z5⟩ := hS9
        go_simp
        try with_reducible rfl
      try simp only [Act.put, List.setIfInBounds_toArray, List.set_cons_zero, List.set_cons_succ]
      refine wpAnyH_take (i := 14) (v := ?v13) (by simp only [List.getElem?_toArray, List.getElem?_cons_succ, List.getElem?_cons_zero]; rfl) (by kernel_rfl) (by kernel_rfl) (by kernel_rfl) (by exact fun _ _ _ h => h) (Or.inl ⟨by rfl, fun w9 hS9 => ?hy13⟩) hHeld ?rest13
      case hy13 =>
        dsimp only at hS9
        obtain ⟨z0, z1, z2, z3, z4, z5⟩ := hS9
        go_simp
        try with_reducible rfl
      try simp only [Act.put, List.setIfInBounds_toArray, List.set_cons_zero, List.set_cons_succ]
      refine wpAnyH_take (i := 15) (v := ?v14) (by simp only [List.getElem?_toArray, List.getElem?_cons_succ, List.getElem?_cons_zero]; rfl) (by kernel_rfl) (by kernel_rfl) (by kernel_rfl) (by exact fun _ _ _ h => h) (Or.inl ⟨by rfl, fun w9 hS9 => ?hy14⟩) hHeld ?rest14
      case hy14 =>
        dsimp only at hS9
        obtain ⟨z0, z1, z2, z3, z4, z5⟩ := hS9
        go_simp
        try with_reducible rfl
      try simp only [Act.put, List.setIfInBounds_toArray, List.set_cons_zero, List.set_cons_succ]
      refine wpAnyH_take (i := 16) (v := ?v15) (by simp only [List.getElem?_toArray, List.getElem?_cons_succ, List.getElem?_cons_zero]; rfl) (by kernel_rfl) (by kernel_rfl) (by kernel_rfl) (by exact fun _ _ _ h => h) (Or.inl ⟨by rfl, fun w9 hS9 => ?hy15⟩) hHeld ?rest15
      case hy15 =>
        dsimp only at hS9
        obtain ⟨z0, z1, z2, z3, z4, z5⟩ := hS9
        go_simp
        try with_reducible rfl
      try simp only [Act.put, List.setIfInBounds_toArray, List.set_cons_zero, List.set_cons_succ]
      refine wpAnyH_take (i := 17) (v := ?v16) (by simp only [List.getElem?_toArray, List.getElem?_cons_succ, List.getElem?_cons_zero]; rfl) (by kernel_rfl) (by kernel_rfl) (by kernel_rfl) (by exact fun _ _ _ h => h) (Or.inl ⟨by rfl, fun w9 hS9 => ?hy16⟩) hHeld ?rest16
      case hy16 =>
        dsimp only at hS9
        obtain ⟨z0, z1, z2, z3, z4, z5⟩ := hS9
        go_simp
        try with_reducible rfl
      try simp only [Act.put, List.setIfInBounds_toArray, List.set_cons_zero, List.set_cons_succ]
      refine wpAnyH_take (i := 20) (v := ?v17) (by simp only [List.getElem?_toArray, List.getElem?_cons_succ, List.getElem?_cons_zero]; rfl) (by kernel_rfl) (by kernel_rfl) (by kernel_rfl) (by exact fun _ _ _ h => h) (Or.inl ⟨by rfl, fun w9 hS9 => ?hy17⟩) hHeld ?rest17
      case hy17 =>
        dsimp only at hS9
        obtain ⟨z0, z1, z2, z3, z4, z5⟩ := hS9
        go_simp
        try with_reducible rfl
      try simp only [Act.put, List.setIfInBounds_toArray, List.set_cons_zero, List.set_cons_succ]
      refine wpAnyH_take (i := 21) (v := ?v18) (by simp only [List.getElem?_toArray, List.getElem?_cons_succ, List.getElem?_cons_zero]; rfl) (by kernel_rfl) (by kernel_rfl) (by kernel_rfl) (by exact fun _ _ _ h => h) (Or.inl ⟨by rfl, fun w9 hS9 => ?hy18⟩) hHeld ?rest18
      case hy18 =>
        dsimp only at hS9
        obtain ⟨z0, z1, z2, z3, z4, z5⟩ := hS9
        go_simp
        try with_reducible rfl
      try simp only [Act.put, List.setIfInBounds_toArray, List.set_cons_zero, List.set_cons_succ]
      refine wpAnyH_ready (rs := [18]) (by kernel_rfl) (by simp) (AllReadyH.cons (by simp only [List.getElem?_toArray, List.getElem?_cons_succ, List.getElem?_cons_zero]; rfl) (fun K hK => ?_) AllReadyH.nil)
      go_simp
      refine (HP12.out _ (HD3.out.trans (HB2.out.mono HD3.out.size))).mono ?_
      rintro e w3 ⟨g8, n8, c8, rfl, ho3, hb3⟩
      have HB3 : Hid (Below W3.heap.size W3 w3) := Lib.hid (HB2.out.trans (hb3.mono HB2.out.size))
      have HC8 := Lib.hid ho3.count
      clear ho3
      clear hb3
      go_wp2_with fail
      refine hK.out _ _ ⟨cell_stay CA3.out.1 HB3.out, cell_stay CA3.out.2.1 HB3.out, cell_stay CA3.out.2.2.1 HB3.out, cell_stay CB3.out.1 HB3.out, cell_stay CB3.out.2.1 HB3.out, cell_stay CB3.out.2.2.1 HB3.out⟩ (fun hHeld => ?_)
      clear hK K
      try simp only [Act.put, List.setIfInBounds_toArray, List.set_cons_zero, List.set_cons_succ]
      refine wpAnyH_take (i := 19) (v := ?v19) (by simp only [List.getElem?_toArray, List.getElem?_cons_succ, List.getElem?_cons_zero]; rfl) (by kernel_rfl) (by kernel_rfl) (by kernel_rfl) (by exact fun _ _ _ h => h) (Or.inl ⟨by rfl, fun w9 hS9 => ?hy19⟩) hHeld ?rest19
      case hy19 =>
        dsimp only at hS9
        obtain ⟨z0, z1, z2, z3, z4, z5⟩ := hS9
        go_simp
        try with_reducible rfl
      try simp only [Act.put, List.setIfInBounds_toArray, List.set_cons_zero, List.set_cons_succ]
      refine wpAnyH_ready (rs := [22]) (by kernel_rfl) (by simp) (AllReadyH.cons (by simp only [List.getElem?_toArray, List.getElem?_cons_succ, List.getElem?_cons_zero]; rfl) (fun K hK => ?_) AllReadyH.nil)
      go_simp
      refine (HP21.out _ (HD3.out.trans (HB3.out.mono HD3.out.size))).mono ?_
      rintro e w4 ⟨g9, n9, c9, rfl, ho4, hb4⟩
      have HB4 : Hid (Below W3.heap.size W3 w4) := Lib.hid (HB3.out.trans (hb4.mono HB3.out.size))
      obtain rfl : n9 = n8 := by rw [← ho4.count, ← HC8.out]; exact pairsP_turn b a
      clear ho4 HC8
      clear hb4
      go_wp2_with fail
      refine hK.out _ _ ⟨cell_stay CA3.out.1 HB4.out, cell_stay CA3.out.2.1 HB4.out, cell_stay CA3.out.2.2.1 HB4.out, cell_stay CB3.out.1 HB4.out, cell_stay CB3.out.2.1 HB4.out, cell_stay CB3.out.2.2.1 HB4.out⟩ (fun hHeld => ?_)
      clear hK K
      try simp only [Act.put, List.setIfInBounds_toArray, List.set_cons_zero, List.set_cons_succ]
      refine wpAnyH_take (i := 23) (v := ?v20) (by simp only [List.getElem?_toArray, List.getElem?_cons_succ, List.getElem?_cons_zero]; rfl) (by kernel_rfl) (by kernel_rfl) (by kernel_rfl) (by exact fun _ _ _ h => h) (Or.inl ⟨by rfl, fun w9 hS9 => ?hy20⟩) hHeld ?rest20
      case hy20 =>
        dsimp only at hS9
        obtain ⟨z0, z1, z2, z3, z4, z5⟩ := hS9
        go_simp
        try with_reducible rfl
      try simp only [Act.put, List.setIfInBounds_toArray, List.set_cons_zero, List.set_cons_succ]
      refine wpAnyH_take (i := 24) (v := .bool false) (by simp only [List.getElem?_toArray, List.getElem?_cons_succ, List.getElem?_cons_zero]; rfl) (by kernel_rfl) (by kernel_rfl) (by kernel_rfl) (by exact fun _ _ _ h => h) (Or.inl ⟨by rfl, fun w9 hS9 => ?hy21⟩) hHeld ?rest21
      case hy21 =>
        dsimp only at hS9
        obtain ⟨z0, z1, z2, z3, z4, z5⟩ := hS9
        go_simp
        (try simp)
      try simp only [Act.put, List.setIfInBounds_toArray, List.set_cons_zero, List.set_cons_succ]
      refine wpAnyH_take (i := 25) (v := ?v22) (by simp only [List.getElem?_toArray, List.getElem?_cons_succ, List.getElem?_cons_zero]; rfl) (by kernel_rfl) (by kernel_rfl) (by kernel_rfl) (by exact fun _ _ _ h => h) (Or.inl ⟨by rfl, fun w9 hS9 => ?hy22⟩) hHeld ?rest22
      case hy22 =>
        dsimp only at hS9
        obtain ⟨z0, z1, z2, z3, z4, z5⟩ := hS9
        go_simp
        try with_reducible rfl
      try simp only [Act.put, List.setIfInBounds_toArray, List.set_cons_zero, List.set_cons_succ]
      refine wpAnyH_take (i := 26) (v := ?v23) (by simp only [List.getElem?_toArray, List.getElem?_cons_succ, List.getElem?_cons_zero]; rfl) (by kernel_rfl) (by kernel_rfl) (by kernel_rfl) (by exact fun _ _ _ h => h) (Or.inl ⟨by rfl, fun w9 hS9 => ?hy23⟩) hHeld ?rest23
      case hy23 =>
        dsimp only at hS9
        obtain ⟨z0, z1, z2, z3, z4, z5⟩ := hS9
        go_simp
        try with_reducible rfl
      try simp only [Act.put, List.setIfInBounds_toArray, List.set_cons_zero, List.set_cons_succ]
      refine wpAnyH_take (i := 27) (v := ?v24) (by simp only [List.getElem?_toArray, List.getElem?_cons_succ, List.getElem?_cons_zero]; rfl) (by kernel_rfl) (by kernel_rfl) (by kernel_rfl) (by exact fun _ _ _ h => h) (Or.inl ⟨by rfl, fun w9 hS9 => ?hy24⟩) hHeld ?rest24
      case hy24 =>
        dsimp only at hS9
        obtain ⟨z0, z1, z2, z3, z4, z5⟩ := hS9
        go_simp
        try with_reducible rfl
      try simp only [Act.put, List.setIfInBounds_toArray, List.set_cons_zero, List.set_cons_succ]
      refine wpAnyH_take (i := 29) (v := ?v25) (by simp only [List.getElem?_toArray, List.getElem?_cons_succ, List.getElem?_cons_zero]; rfl) (by kernel_rfl) (by kernel_rfl) (by kernel_rfl) (by exact fun _ _ _ h => h) (Or.inl ⟨by rfl, fun w9 hS9 => ?hy25⟩) hHeld ?rest25
      case hy25 =>
        dsimp only at hS9
        obtain ⟨z0, z1, z2, z3, z4, z5⟩ := hS9
        go_simp
        try with_reducible rfl
      try simp only [Act.put, List.setIfInBounds_toArray, List.set_cons_zero, List.set_cons_succ]
      refine wpAnyH_ready (rs := [28]) (by kernel_rfl) (by simp) (AllReadyH.cons (by simp only [List.getElem?_toArray, List.getElem?_cons_succ, List.getElem?_cons_zero]; rfl) (fun K hK => ?_) AllReadyH.nil)
      go_simp
      refine (HIA.out _ (HD3.out.trans (HB4.out.mono HD3.out.size))).mono ?_
      rintro e w5 ⟨rfl, hb5⟩
      have HB5 : Hid (Below W3.heap.size W3 w5) := Lib.hid (HB4.out.trans (hb5.mono HB4.out.size))
      clear hb5
      go_wp2_with fail
      refine hK.out _ _ ⟨cell_stay CA3.out.1 HB5.out, cell_stay CA3.out.2.1 HB5.out, cell_stay CA3.out.2.2.1 HB5.out, cell_stay CB3.out.1 HB5.out, cell_stay CB3.out.2.1 HB5.out, cell_stay CB3.out.2.2.1 HB5.out⟩ (fun hHeld => ?_)
      clear hK K
      try simp only [Act.put, List.setIfInBounds_toArray, List.set_cons_zero, List.set_cons_succ]
      refine wpAnyH_ready (rs := [30]) (by kernel_rfl) (by simp) (AllReadyH.cons (by simp only [List.getElem?_toArray, List.getElem?_cons_succ, List.getElem?_cons_zero]; rfl) (fun K hK => ?_) AllReadyH.nil)
      go_simp
      refine (HSA.out _ (HD3.out.trans (HB5.out.mono HD3.out.size))).mono ?_
      rintro e w6 ⟨rfl, hb6⟩
      have HB6 : Hid (Below W3.heap.size W3 w6) := Lib.hid (HB5.out.trans (hb6.mono HB5.out.size))
      clear hb6
      go_wp2_with fail
      refine hK.out _ _ ⟨cell_stay CA3.out.1 HB6.out, cell_stay CA3.out.2.1 HB6.out, cell_stay CA3.out.2.2.1 HB6.out, cell_stay CB3.out.1 HB6.out, cell_stay CB3.out.2.1 HB6.out, cell_stay CB3.out.2.2.1 HB6.out⟩ (fun hHeld => ?_)
      clear hK K
      try simp only [Act.put, List.setIfInBounds_toArray, List.set_cons_zero, List.set_cons_succ]
      refine wpAnyH_take (i := 31) (v := .bool false) (by simp only [List.getElem?_toArray, List.getElem?_cons_succ, List.getElem?_cons_zero]; rfl) (by kernel_rfl) (by kernel_rfl) (by kernel_rfl) (by exact fun _ _ _ h => h) (Or.inl ⟨by rfl, fun w9 hS9 => ?hy26⟩) hHeld ?rest26
      case hy26 =>
        dsimp only at hS9
        obtain ⟨z0, z1, z2, z3, z4, z5⟩ := hS9
        go_simp
        (try simp)
      try simp only [Act.put, List.setIfInBounds_toArray, List.set_cons_zero, List.set_cons_succ]
      refine wpAnyH_take (i := 32) (v := ?v27) (by simp only [List.getElem?_toArray, List.getElem?_cons_succ, List.getElem?_cons_zero]; rfl) (by kernel_rfl) (by kernel_rfl) (by kernel_rfl) (by exact fun _ _ _ h => h) (Or.inl ⟨by rfl, fun w9 hS9 => ?hy27⟩) hHeld ?rest27
      case hy27 =>
        dsimp only at hS9
        obtain ⟨z0, z1, z2, z3, z4, z5⟩ := hS9
        go_simp
        try with_reducible rfl
      try simp only [Act.put, List.setIfInBounds_toArray, List.set_cons_zero, List.set_cons_succ]
      refine wpAnyH_done (by kernel_rfl) ?_ _
      obtain ⟨w4, hwv⟩ : ∃ u, u = w6 := ⟨w6, rfl⟩
      subst hwv
      have HD4 := Lib.hid (HD3.out.trans (HB6.out.mono HD3.out.size))
      clear CA3 CB3
      obtain ⟨x0, x1, x2, -⟩ := three_cells ((HD4.out.block G1 hl1).trans HX1.out)
      go_wp2_with fail
      clear x0 x1 x2
      refine (dualOf_any (HM.out.same HD4.out) (by omega)).mono ?_
      rintro e w5 ⟨vd, rfl, hod, hz⟩
      obtain ⟨pd, kd, rd, qd, md, dd, rfl⟩ := hod.shape
      have HAL := Lib.hid (alloc_same w5 (.cells #[.int .i64 (dualM a).st, .slice pd kd rd, .slice qd md dd] 27))
      have HX3 := Lib.hid (heap_alloc_new w5 (.cells #[.int .i64 (dualM a).st, .slice pd kd rd, .slice qd md dd] 27 (0, 0)))
      change Hid ((w5.alloc (.cells #[.int .i64 (dualM a).st, .slice pd kd rd, .slice qd md dd] 27)).heap[w5.heap.size]? = _) at HX3
      have HMD := Lib.hid (hod.mac.same HAL.out)
      have HD6 : Hid (Below W2.heap.size W2 (w5.alloc (.cells #[.int .i64 (dualM a).st, .slice pd kd rd, .slice qd md dd] 27))) := Lib.hid ((HD4.out.trans (hz.mono HD4.out.size)).trans (HAL.out.mono (Nat.le_trans HD4.out.size hz.size)))
      clear hod hz HAL
      obtain ⟨x0, x1, x2, -⟩ := three_cells ((HD6.out.block G1 hl1).trans HX1.out)
      obtain ⟨z0, z1, z2, -⟩ := three_cells HX3.out
      go_wp2_with fail
      clear x0 x1 x2 z0 z1 z2
      obtain ⟨G3, hG3⟩ : ∃ u, u = w5.heap.size := ⟨_, rfl⟩
      rw [← hG3] at HX3
      rw [← hG3]
      clear hG3
      generalize w5.alloc (.cells #[.int .i64 (dualM a).st, .slice pd kd rd, .slice qd md dd] 27) = W6 at *
      have hl3 : G3 < W6.heap.size := (Array.getElem?_eq_some_iff.1 HX3.out).1
      have h26 : W2.heap.size ≤ W6.heap.size := HD6.out.size
      have HTR := Lib.hid (fun (s : Int) W' (h : Below W6.heap.size W6 W') => troubleAt_any s s (HM.out.same (HD6.out.trans (h.mono h26))) (HMD.out.same h) HW.out.1 HWD.out (by omega) (by omega))
      have HNX := Lib.hid (fun (s : Int) W' (h : Below W6.heap.size W6 W') => nextPairs_any s s (HM.out.same (HD6.out.trans (h.mono h26))) (HMD.out.same h) HW.out.1 HWD.out (by omega) (by omega))
      refine (pairsOf_any (HM.out.same HD6.out) HMD.out HW.out.1 HWD.out (by omega) (by omega)).mono ?_
      rintro e w7 ⟨g, m, cc, rfl, ho, hz⟩
      have hcm := ho.count
      have hm36 := pairsP_len a (dualM a)
      have hroom := ho.room
      have HO := Lib.hid ho
      have HE7 := Lib.hid hz
      have h67 : W6.heap.size ≤ w7.heap.size := hz.size
      have HY1 := Lib.hid (((HD6.out.trans (hz.mono h26)).block G1 hl1).trans HX1.out)
      have HY2 := Lib.hid (((HD6.out.trans (hz.mono h26)).block G2 hl2).trans HX2.out)
      have HY3 := Lib.hid ((hz.block G3 hl3).trans HX3.out)
      have HB7 : Hid (Below w.heap.size w w7) := Lib.hid (HB.out.trans ((HD6.out.trans (hz.mono h26)).mono HB.out.size))
      have HD7 : Hid (Below W2.heap.size W2 w7) := Lib.hid (HD6.out.trans (hz.mono h26))
      clear ho hz HX1 HX2 HX3 HD3 HD4
      go_wp2_with fail
      go_loopw [8] (fun i wr => ∃ j : Nat, i = .int .i64 j ∧ j ≤ m ∧ Below w7.heap.size w7 wr) (fun i _ => m - (intOf i).toNat)
      case atStart => exact ⟨0, rfl, Nat.zero_le _, Below.refl _ _⟩
      case round =>
        obtain ⟨j, rfl, hj, hb⟩ := hrel
        have HR := Lib.hid hb
        have HR7 : Hid (Below W6.heap.size W6 wr) := Lib.hid (HE7.out.trans (hb.mono h67))
        clear hb
        by_cases hlt : j < m
        · obtain ⟨r, pr, hpr, hc0, hrow, o1, o2, o3⟩ := (HO.out.same HR.out).at_ hlt
          obtain ⟨e1, e2, e3⟩ := pairs_dual (List.mem_of_getElem? hpr)
          obtain ⟨s, s2⟩ := pr
          dsimp only at e1 e2 e3
          subst e1
          have HIN := Lib.hid e3
          have hne1 : (troubleP a (dualM a) s s == 1) = false := beq_eq_false_iff_ne.2 e2
          obtain ⟨d0, d1⟩ := two_cells hrow
          have CR9 := Lib.hid (And.intro hc0 (And.intro d0 d1))
          have CA9 := Lib.hid (three_cells ((HR.out.block G1 (by omega)).trans HY1.out))
          have CD9 := Lib.hid (three_cells ((HR.out.block G3 (by omega)).trans HY3.out))
          clear hpr hc0 hrow d0 d1 e2 e3
          go_wp2_with fail
          have HBd : Hid (Below wr.heap.size wr wr.drew) := Lib.hid (Below.refl _ _).drew
          refine wp_region_held_drew (S := fun w9 => w9.cell? ⟨G1, 0, none⟩ = some (.int .i64 a.st) ∧ w9.cell? ⟨G1, 1, none⟩ = some (.slice pa ka ra) ∧ w9.cell? ⟨G1, 2, none⟩ = some (.slice qa ma da) ∧ w9.cell? ⟨G3, 0, none⟩ = some (.int .i64 (dualM a).st) ∧ w9.cell? ⟨G3, 1, none⟩ = some (.slice pd kd rd) ∧ w9.cell? ⟨G3, 2, none⟩ = some (.slice qd md dd) ∧ w9.cell? ⟨g, j, none⟩ = some (.slice (some ⟨r, 0, none⟩) 2 2) ∧ w9.cell? ⟨r, 0, none⟩ = some (.int .i64 s) ∧ w9.cell? ⟨r, 1, none⟩ = some (.int .i64 s)) (by kernel_rfl) ⟨cell_stay CA9.out.1 HBd.out, cell_stay CA9.out.2.1 HBd.out, cell_stay CA9.out.2.2.1 HBd.out, cell_stay CD9.out.1 HBd.out, cell_stay CD9.out.2.1 HBd.out, cell_stay CD9.out.2.2.1 HBd.out, cell_stay CR9.out.1 HBd.out, cell_stay CR9.out.2.1 HBd.out, cell_stay CR9.out.2.2 HBd.out⟩ (fun hHeld => ?_)
          refine wpAnyH_take (i := 0) (v := ?v46) (by simp only [List.getElem?_toArray, List.getElem?_cons_succ, List.getElem?_cons_zero]; rfl) (by kernel_rfl) (by kernel_rfl) (by kernel_rfl) (by exact fun _ _ _ h => h) (Or.inl ⟨by rfl, fun w9 hS9 => ?hy46⟩) hHeld ?rest46
          case hy46 =>
            dsimp only at hS9
            obtain ⟨z0, z1, z2, z3, z4, z5, z6, z7, z8⟩ := hS9
            go_simp
            try with_reducible rfl
          try simp only [Act.put, List.setIfInBounds_toArray, List.set_cons_zero, List.set_cons_succ]
          refine wpAnyH_take (i := 1) (v := ?v47) (by simp only [List.getElem?_toArray, List.getElem?_cons_succ, List.getElem?_cons_zero]; rfl) (by kernel_rfl) (by kernel_rfl) (by kernel_rfl) (by exact fun _ _ _ h => h) (Or.inl ⟨by rfl, fun w9 hS9 => ?hy47⟩) hHeld ?rest47
          case hy47 =>
            dsimp only at hS9
            obtain ⟨z0, z1, z2, z3, z4, z5, z6, z7, z8⟩ := hS9
            go_simp
            try with_reducible rfl
          try simp only [Act.put, List.setIfInBounds_toArray, List.set_cons_zero, List.set_cons_succ]
          refine wpAnyH_take (i := 2) (v := ?v48) (by simp only [List.getElem?_toArray, List.getElem?_cons_succ, List.getElem?_cons_zero]; rfl) (by kernel_rfl) (by kernel_rfl) (by kernel_rfl) (by exact fun _ _ _ h => h) (Or.inl ⟨by rfl, fun w9 hS9 => ?hy48⟩) hHeld ?rest48
          case hy48 =>
            dsimp only at hS9
            obtain ⟨z0, z1, z2, z3, z4, z5, z6, z7, z8⟩ := hS9
            go_simp
            try with_reducible rfl
          try simp only [Act.put, List.setIfInBounds_toArray, List.set_cons_zero, List.set_cons_succ]
          refine wpAnyH_take (i := 3) (v := ?v49) (by simp only [List.getElem?_toArray, List.getElem?_cons_succ, List.getElem?_cons_zero]; rfl) (by kernel_rfl) (by kernel_rfl) (by kernel_rfl) (by exact fun _ _ _ h => h) (Or.inl ⟨by rfl, fun w9 hS9 => ?hy49⟩) hHeld ?rest49
          case hy49 =>
            dsimp only at hS9
            obtain ⟨z0, z1, z2, z3, z4, z5, z6, z7, z8⟩ := hS9
            go_simp
            try with_reducible rfl
          try simp only [Act.put, List.setIfInBounds_toArray, List.set_cons_zero, List.set_cons_succ]
          refine wpAnyH_take (i := 4) (v := ?v50) (by simp only [List.getElem?_toArray, List.getElem?_cons_succ, List.getElem?_cons_zero]; rfl) (by kernel_rfl) (by kernel_rfl) (by kernel_rfl) (by exact fun _ _ _ h => h) (Or.inl ⟨by rfl, fun w9 hS9 => ?hy50⟩) hHeld ?rest50
          case hy50 =>
            dsimp only at hS9
            obtain ⟨z0, z1, z2, z3, z4, z5, z6, z7, z8⟩ := hS9
            go_simp
            try with_reducible rfl
          try simp only [Act.put, List.setIfInBounds_toArray, List.set_cons_zero, List.set_cons_succ]
          refine wpAnyH_take (i := 5) (v := ?v51) (by simp only [List.getElem?_toArray, List.getElem?_cons_succ, List.getElem?_cons_zero]; rfl) (by kernel_rfl) (by kernel_rfl) (by kernel_rfl) (by exact fun _ _ _ h => h) (Or.inl ⟨by rfl, fun w9 hS9 => ?hy51⟩) hHeld ?rest51
          case hy51 =>
            dsimp only at hS9
            obtain ⟨z0, z1, z2, z3, z4, z5, z6, z7, z8⟩ := hS9
            go_simp
            try with_reducible rfl
          try simp only [Act.put, List.setIfInBounds_toArray, List.set_cons_zero, List.set_cons_succ]
          refine wpAnyH_take (i := 6) (v := ?v52) (by simp only [List.getElem?_toArray, List.getElem?_cons_succ, List.getElem?_cons_zero]; rfl) (by kernel_rfl) (by kernel_rfl) (by kernel_rfl) (by exact fun _ _ _ h => h) (Or.inl ⟨by rfl, fun w9 hS9 => ?hy52⟩) hHeld ?rest52
          case hy52 =>
            dsimp only at hS9
            obtain ⟨z0, z1, z2, z3, z4, z5, z6, z7, z8⟩ := hS9
            go_simp
            try with_reducible rfl
          try simp only [Act.put, List.setIfInBounds_toArray, List.set_cons_zero, List.set_cons_succ]
          refine wpAnyH_take (i := 7) (v := ?v53) (by simp only [List.getElem?_toArray, List.getElem?_cons_succ, List.getElem?_cons_zero]; rfl) (by kernel_rfl) (by kernel_rfl) (by kernel_rfl) (by exact fun _ _ _ h => h) (Or.inl ⟨by rfl, fun w9 hS9 => ?hy53⟩) hHeld ?rest53
          case hy53 =>
            dsimp only at hS9
            obtain ⟨z0, z1, z2, z3, z4, z5, z6, z7, z8⟩ := hS9
            go_simp
            try with_reducible rfl
          try simp only [Act.put, List.setIfInBounds_toArray, List.set_cons_zero, List.set_cons_succ]
          refine wpAnyH_take (i := 8) (v := ?v54) (by simp only [List.getElem?_toArray, List.getElem?_cons_succ, List.getElem?_cons_zero]; rfl) (by kernel_rfl) (by kernel_rfl) (by kernel_rfl) (by exact fun _ _ _ h => h) (Or.inl ⟨by rfl, fun w9 hS9 => ?hy54⟩) hHeld ?rest54
          case hy54 =>
            dsimp only at hS9
            obtain ⟨z0, z1, z2, z3, z4, z5, z6, z7, z8⟩ := hS9
            go_simp
            try with_reducible rfl
          try simp only [Act.put, List.setIfInBounds_toArray, List.set_cons_zero, List.set_cons_succ]
          refine wpAnyH_take (i := 9) (v := ?v55) (by simp only [List.getElem?_toArray, List.getElem?_cons_succ, List.getElem?_cons_zero]; rfl) (by kernel_rfl) (by kernel_rfl) (by kernel_rfl) (by exact fun _ _ _ h => h) (Or.inl ⟨by rfl, fun w9 hS9 => ?hy55⟩) hHeld ?rest55
          case hy55 =>
            dsimp only at hS9
            obtain ⟨z0, z1, z2, z3, z4, z5, z6, z7, z8⟩ := hS9
            go_simp
            try with_reducible rfl
          try simp only [Act.put, List.setIfInBounds_toArray, List.set_cons_zero, List.set_cons_succ]
          refine wpAnyH_take (i := 10) (v := ?v56) (by simp only [List.getElem?_toArray, List.getElem?_cons_succ, List.getElem?_cons_zero]; rfl) (by kernel_rfl) (by kernel_rfl) (by kernel_rfl) (by exact fun _ _ _ h => h) (Or.inl ⟨by rfl, fun w9 hS9 => ?hy56⟩) hHeld ?rest56
          case hy56 =>
            dsimp only at hS9
            obtain ⟨z0, z1, z2, z3, z4, z5, z6, z7, z8⟩ := hS9
            go_simp
            try with_reducible rfl
          try simp only [Act.put, List.setIfInBounds_toArray, List.set_cons_zero, List.set_cons_succ]
          refine wpAnyH_take (i := 11) (v := ?v57) (by simp only [List.getElem?_toArray, List.getElem?_cons_succ, List.getElem?_cons_zero]; rfl) (by kernel_rfl) (by kernel_rfl) (by kernel_rfl) (by exact fun _ _ _ h => h) (Or.inl ⟨by rfl, fun w9 hS9 => ?hy57⟩) hHeld ?rest57
          case hy57 =>
            dsimp only at hS9
            obtain ⟨z0, z1, z2, z3, z4, z5, z6, z7, z8⟩ := hS9
            go_simp
            try with_reducible rfl
          try simp only [Act.put, List.setIfInBounds_toArray, List.set_cons_zero, List.set_cons_succ]
          refine wpAnyH_take (i := 12) (v := ?v58) (by simp only [List.getElem?_toArray, List.getElem?_cons_succ, List.getElem?_cons_zero]; rfl) (by kernel_rfl) (by kernel_rfl) (by kernel_rfl) (by exact fun _ _ _ h => h) (Or.inl ⟨by rfl, fun w9 hS9 => ?hy58⟩) hHeld ?rest58
          case hy58 =>
            dsimp only at hS9
            obtain ⟨z0, z1, z2, z3, z4, z5, z6, z7, z8⟩ := hS9
            go_simp
            try with_reducible rfl
          try simp only [Act.put, List.setIfInBounds_toArray, List.set_cons_zero, List.set_cons_succ]
          refine wpAnyH_take (i := 13) (v := ?v59) (by simp only [List.getElem?_toArray, List.getElem?_cons_succ, List.getElem?_cons_zero]; rfl) (by kernel_rfl) (by kernel_rfl) (by kernel_rfl) (by exact fun _ _ _ h => h) (Or.inl ⟨by rfl, fun w9 hS9 => ?hy59⟩) hHeld ?rest59
          case hy59 =>
            dsimp only at hS9
            obtain ⟨z0, z1, z2, z3, z4, z5, z6, z7, z8⟩ := hS9
            go_simp
            try with_reducible rfl
          try simp only [Act.put, List.setIfInBounds_toArray, List.set_cons_zero, List.set_cons_succ]
          refine wpAnyH_take (i := 14) (v := ?v60) (by simp only [List.getElem?_toArray, List.getElem?_cons_succ, List.getElem?_cons_zero]; rfl) (by kernel_rfl) (by kernel_rfl) (by kernel_rfl) (by exact fun _ _ _ h => h) (Or.inl ⟨by rfl, fun w9 hS9 => ?hy60⟩) hHeld ?rest60
          case hy60 =>
            dsimp only at hS9
            obtain ⟨z0, z1, z2, z3, z4, z5, z6, z7, z8⟩ := hS9
            go_simp
            try with_reducible rfl
          try simp only [Act.put, List.setIfInBounds_toArray, List.set_cons_zero, List.set_cons_succ]
          refine wpAnyH_take (i := 15) (v := ?v61) (by simp only [List.getElem?_toArray, List.getElem?_cons_succ, List.getElem?_cons_zero]; rfl) (by kernel_rfl) (by kernel_rfl) (by kernel_rfl) (by exact fun _ _ _ h => h) (Or.inl ⟨by rfl, fun w9 hS9 => ?hy61⟩) hHeld ?rest61
          case hy61 =>
            dsimp only at hS9
            obtain ⟨z0, z1, z2, z3, z4, z5, z6, z7, z8⟩ := hS9
            go_simp
            try with_reducible rfl
          try simp only [Act.put, List.setIfInBounds_toArray, List.set_cons_zero, List.set_cons_succ]
          refine wpAnyH_take (i := 16) (v := ?v62) (by simp only [List.getElem?_toArray, List.getElem?_cons_succ, List.getElem?_cons_zero]; rfl) (by kernel_rfl) (by kernel_rfl) (by kernel_rfl) (by exact fun _ _ _ h => h) (Or.inl ⟨by rfl, fun w9 hS9 => ?hy62⟩) hHeld ?rest62
          case hy62 =>
            dsimp only at hS9
            obtain ⟨z0, z1, z2, z3, z4, z5, z6, z7, z8⟩ := hS9
            go_simp
            try with_reducible rfl
          try simp only [Act.put, List.setIfInBounds_toArray, List.set_cons_zero, List.set_cons_succ]
          refine wpAnyH_take (i := 17) (v := ?v63) (by simp only [List.getElem?_toArray, List.getElem?_cons_succ, List.getElem?_cons_zero]; rfl) (by kernel_rfl) (by kernel_rfl) (by kernel_rfl) (by exact fun _ _ _ h => h) (Or.inl ⟨by rfl, fun w9 hS9 => ?hy63⟩) hHeld ?rest63
          case hy63 =>
            dsimp only at hS9
            obtain ⟨z0, z1, z2, z3, z4, z5, z6, z7, z8⟩ := hS9
            go_simp
            try with_reducible rfl
          try simp only [Act.put, List.setIfInBounds_toArray, List.set_cons_zero, List.set_cons_succ]
          refine wpAnyH_take (i := 18) (v := ?v64) (by simp only [List.getElem?_toArray, List.getElem?_cons_succ, List.getElem?_cons_zero]; rfl) (by kernel_rfl) (by kernel_rfl) (by kernel_rfl) (by exact fun _ _ _ h => h) (Or.inl ⟨by rfl, fun w9 hS9 => ?hy64⟩) hHeld ?rest64
          case hy64 =>
            dsimp only at hS9
            obtain ⟨z0, z1, z2, z3, z4, z5, z6, z7, z8⟩ := hS9
            go_simp
            try with_reducible rfl
          try simp only [Act.put, List.setIfInBounds_toArray, List.set_cons_zero, List.set_cons_succ]
          refine wpAnyH_take (i := 19) (v := ?v65) (by simp only [List.getElem?_toArray, List.getElem?_cons_succ, List.getElem?_cons_zero]; rfl) (by kernel_rfl) (by kernel_rfl) (by kernel_rfl) (by exact fun _ _ _ h => h) (Or.inl ⟨by rfl, fun w9 hS9 => ?hy65⟩) hHeld ?rest65
          case hy65 =>
            dsimp only at hS9
            obtain ⟨z0, z1, z2, z3, z4, z5, z6, z7, z8⟩ := hS9
            go_simp
            try with_reducible rfl
          try simp only [Act.put, List.setIfInBounds_toArray, List.set_cons_zero, List.set_cons_succ]
          refine wpAnyH_take (i := 20) (v := ?v66) (by simp only [List.getElem?_toArray, List.getElem?_cons_succ, List.getElem?_cons_zero]; rfl) (by kernel_rfl) (by kernel_rfl) (by kernel_rfl) (by exact fun _ _ _ h => h) (Or.inl ⟨by rfl, fun w9 hS9 => ?hy66⟩) hHeld ?rest66
          case hy66 =>
            dsimp only at hS9
            obtain ⟨z0, z1, z2, z3, z4, z5, z6, z7, z8⟩ := hS9
            go_simp
            try with_reducible rfl
          try simp only [Act.put, List.setIfInBounds_toArray, List.set_cons_zero, List.set_cons_succ]
          refine wpAnyH_take (i := 21) (v := ?v67) (by simp only [List.getElem?_toArray, List.getElem?_cons_succ, List.getElem?_cons_zero]; rfl) (by kernel_rfl) (by kernel_rfl) (by kernel_rfl) (by exact fun _ _ _ h => h) (Or.inl ⟨by rfl, fun w9 hS9 => ?hy67⟩) hHeld ?rest67
          case hy67 =>
            dsimp only at hS9
            obtain ⟨z0, z1, z2, z3, z4, z5, z6, z7, z8⟩ := hS9
            go_simp
            try with_reducible rfl
          try simp only [Act.put, List.setIfInBounds_toArray, List.set_cons_zero, List.set_cons_succ]
          refine wpAnyH_take (i := 22) (v := ?v68) (by simp only [List.getElem?_toArray, List.getElem?_cons_succ, List.getElem?_cons_zero]; rfl) (by kernel_rfl) (by kernel_rfl) (by kernel_rfl) (by exact fun _ _ _ h => h) (Or.inl ⟨by rfl, fun w9 hS9 => ?hy68⟩) hHeld ?rest68
          case hy68 =>
            dsimp only at hS9
            obtain ⟨z0, z1, z2, z3, z4, z5, z6, z7, z8⟩ := hS9
            go_simp
            try with_reducible rfl
          try simp only [Act.put, List.setIfInBounds_toArray, List.set_cons_zero, List.set_cons_succ]
          refine wpAnyH_take (i := 23) (v := ?v69) (by simp only [List.getElem?_toArray, List.getElem?_cons_succ, List.getElem?_cons_zero]; rfl) (by kernel_rfl) (by kernel_rfl) (by kernel_rfl) (by exact fun _ _ _ h => h) (Or.inl ⟨by rfl, fun w9 hS9 => ?hy69⟩) hHeld ?rest69
          case hy69 =>
            dsimp only at hS9
            obtain ⟨z0, z1, z2, z3, z4, z5, z6, z7, z8⟩ := hS9
            go_simp
            try with_reducible rfl
          try simp only [Act.put, List.setIfInBounds_toArray, List.set_cons_zero, List.set_cons_succ]
          refine wpAnyH_take (i := 24) (v := ?v70) (by simp only [List.getElem?_toArray, List.getElem?_cons_succ, List.getElem?_cons_zero]; rfl) (by kernel_rfl) (by kernel_rfl) (by kernel_rfl) (by exact fun _ _ _ h => h) (Or.inl ⟨by rfl, fun w9 hS9 => ?hy70⟩) hHeld ?rest70
          case hy70 =>
            dsimp only at hS9
            obtain ⟨z0, z1, z2, z3, z4, z5, z6, z7, z8⟩ := hS9
            go_simp
            try with_reducible rfl
          try simp only [Act.put, List.setIfInBounds_toArray, List.set_cons_zero, List.set_cons_succ]
          refine wpAnyH_take (i := 25) (v := ?v71) (by simp only [List.getElem?_toArray, List.getElem?_cons_succ, List.getElem?_cons_zero]; rfl) (by kernel_rfl) (by kernel_rfl) (by kernel_rfl) (by exact fun _ _ _ h => h) (Or.inl ⟨by rfl, fun w9 hS9 => ?hy71⟩) hHeld ?rest71
          case hy71 =>
            dsimp only at hS9
            obtain ⟨z0, z1, z2, z3, z4, z5, z6, z7, z8⟩ := hS9
            go_simp
            try with_reducible rfl
          try simp only [Act.put, List.setIfInBounds_toArray, List.set_cons_zero, List.set_cons_succ]
          refine wpAnyH_take (i := 26) (v := ?v72) (by simp only [List.getElem?_toArray, List.getElem?_cons_succ, List.getElem?_cons_zero]; rfl) (by kernel_rfl) (by kernel_rfl) (by kernel_rfl) (by exact fun _ _ _ h => h) (Or.inl ⟨by rfl, fun w9 hS9 => ?hy72⟩) hHeld ?rest72
          case hy72 =>
            dsimp only at hS9
            obtain ⟨z0, z1, z2, z3, z4, z5, z6, z7, z8⟩ := hS9
            go_simp
            try with_reducible rfl
          try simp only [Act.put, List.setIfInBounds_toArray, List.set_cons_zero, List.set_cons_succ]
          refine wpAnyH_take (i := 27) (v := ?v73) (by simp only [List.getElem?_toArray, List.getElem?_cons_succ, List.getElem?_cons_zero]; rfl) (by kernel_rfl) (by kernel_rfl) (by kernel_rfl) (by exact fun _ _ _ h => h) (Or.inl ⟨by rfl, fun w9 hS9 => ?hy73⟩) hHeld ?rest73
          case hy73 =>
            dsimp only at hS9
            obtain ⟨z0, z1, z2, z3, z4, z5, z6, z7, z8⟩ := hS9
            go_simp
            try with_reducible rfl
          try simp only [Act.put, List.setIfInBounds_toArray, List.set_cons_zero, List.set_cons_succ]
          refine wpAnyH_ready (rs := [28]) (by kernel_rfl) (by simp) (AllReadyH.cons (by simp only [List.getElem?_toArray, List.getElem?_cons_succ, List.getElem?_cons_zero]; rfl) (fun K hK => ?_) AllReadyH.nil)
          go_simp
          refine (HTR.out s _ (HR7.out.trans (HBd.out.mono HR7.out.size))).mono ?_
          rintro e w1 ⟨rfl, hb1⟩
          have HB1 : Hid (Below wr.heap.size wr w1) := Lib.hid (HBd.out.trans (hb1.mono HBd.out.size))
          clear hb1
          go_wp2_with fail
          refine hK.out _ _ ⟨cell_stay CA9.out.1 HB1.out, cell_stay CA9.out.2.1 HB1.out, cell_stay CA9.out.2.2.1 HB1.out, cell_stay CD9.out.1 HB1.out, cell_stay CD9.out.2.1 HB1.out, cell_stay CD9.out.2.2.1 HB1.out, cell_stay CR9.out.1 HB1.out, cell_stay CR9.out.2.1 HB1.out, cell_stay CR9.out.2.2 HB1.out⟩ (fun hHeld => ?_)
          clear hK K
          try simp only [Act.put, List.setIfInBounds_toArray, List.set_cons_zero, List.set_cons_succ]
          refine wpAnyH_take (i := 29) (v := ?v74) (by simp only [List.getElem?_toArray, List.getElem?_cons_succ, List.getElem?_cons_zero]; rfl) (by kernel_rfl) (by kernel_rfl) (by kernel_rfl) (by exact fun _ _ _ h => h) (Or.inl ⟨by rfl, fun w9 hS9 => ?hy74⟩) hHeld ?rest74
          case hy74 =>
            dsimp only at hS9
            obtain ⟨z0, z1, z2, z3, z4, z5, z6, z7, z8⟩ := hS9
            go_simp
            try with_reducible rfl
          try simp only [Act.put, List.setIfInBounds_toArray, List.set_cons_zero, List.set_cons_succ]
          refine wpAnyH_take (i := 30) (v := ?v75) (by simp only [List.getElem?_toArray, List.getElem?_cons_succ, List.getElem?_cons_zero]; rfl) (by kernel_rfl) (by kernel_rfl) (by kernel_rfl) (by exact fun _ _ _ h => h) (Or.inl ⟨by rfl, fun w9 hS9 => ?hy75⟩) hHeld ?rest75
          case hy75 =>
            dsimp only at hS9
            obtain ⟨z0, z1, z2, z3, z4, z5, z6, z7, z8⟩ := hS9
            go_simp
            try with_reducible rfl
          try simp only [Act.put, List.setIfInBounds_toArray, List.set_cons_zero, List.set_cons_succ]
          refine wpAnyH_done (by kernel_rfl) ?_ _
          obtain ⟨u1, hwv⟩ : ∃ u, u = w1 := ⟨w1, rfl⟩
          subst hwv
          have HU1 := Lib.hid HB1.out
          have HRU : Hid (Below w7.heap.size w7 u1) := Lib.hid (HR.out.trans (HB1.out.mono HR.out.size))
          obtain ⟨x0, x1, x2⟩ : _ ∧ _ ∧ _ := ⟨cell_stay CA9.out.1 HU1.out, cell_stay CA9.out.2.1 HU1.out, cell_stay CA9.out.2.2.1 HU1.out⟩
          obtain ⟨z0, z1, z2⟩ : _ ∧ _ ∧ _ := ⟨cell_stay CD9.out.1 HU1.out, cell_stay CD9.out.2.1 HU1.out, cell_stay CD9.out.2.2.1 HU1.out⟩
          obtain ⟨d0, d1, d2⟩ : _ ∧ _ ∧ _ := ⟨cell_stay CR9.out.1 HU1.out, cell_stay CR9.out.2.1 HU1.out, cell_stay CR9.out.2.2 HU1.out⟩
          go_wp2_with fail
          go_still_tail 14, (by kernel_rfl)
          have H2 : Hid (Below u1.heap.size u1 u1.drew) := Lib.hid (Below.refl _ _).drew
          change wpList _ _ _ _ _ u1.drew
          generalize u1.drew = u2 at H2 ⊢
          clear x0 x1 x2 z0 z1 z2 d0 d1 d2
          have HRU2 : Hid (Below w7.heap.size w7 u2) := Lib.hid (HRU.out.trans (H2.out.mono HRU.out.size))
          go_wp2_with fail
          refine (HNX.out s u2 (HE7.out.trans (HRU2.out.mono h67))).mono ?_
          rintro e u3 ⟨g2, m2, c2, rfl, ho2, hb2⟩
          have hcm2 := ho2.count
          have hlen2 := nextP_len a (dualM a) s s
          have hmva : a.moves.length ≤ 100 := by unfold Mac.parts at hpa; omega
          have hmvd : (dualM a).moves.length ≤ 100 := by unfold Mac.parts at hpd; omega
          have hroom2 := ho2.room
          have HO2 := Lib.hid ho2
          have HRU3 : Hid (Below w7.heap.size w7 u3) := Lib.hid (HRU2.out.trans (hb2.mono HRU2.out.size))
          have hs73 := HRU3.out.size
          clear ho2 hb2
          go_wp2_with fail
          go_loopw [10] (fun i wr => ∃ k : Nat, i = .int .i64 k ∧ k ≤ m2 ∧ Below u3.heap.size u3 wr) (fun i _ => m2 - (intOf i).toNat)
          case atStart => exact ⟨0, rfl, Nat.zero_le _, Below.refl _ _⟩
          case round =>
            obtain ⟨k, rfl, hk, hb3⟩ := hrel
            have HRR := Lib.hid hb3
            clear hb3
            by_cases hlt2 : k < m2
            · obtain ⟨r2, q, hq, hk0, hrow2, v1, v2, v3⟩ := (HO2.out.same HRR.out).at_ hlt2
              have hin := HIN.out q (List.mem_of_getElem? hq)
              have hq1 : decide (q.1 < 0) = false := decide_eq_false (by omega)
              have hq2 : decide (q.1 ≥ a.st) = false := decide_eq_false (by omega)
              have CK := Lib.hid (And.intro (three_cells (((HRU3.out.trans (HRR.out.mono hs73)).block G1 (by omega)).trans HY1.out)).1 (And.intro hk0 (two_cells hrow2).1))
              clear hq hk0 hrow2 hin
              go_wp2_with fail
              have HBd : Hid (Below wr.heap.size wr wr.drew) := Lib.hid (Below.refl _ _).drew
              refine wp_region_held_drew (S := fun w9 => w9.cell? ⟨G1, 0, none⟩ = some (.int .i64 a.st) ∧ w9.cell? ⟨g2, k, none⟩ = some (.slice (some ⟨r2, 0, none⟩) 2 2) ∧ w9.cell? ⟨r2, 0, none⟩ = some (.int .i64 q.1)) (by kernel_rfl) ⟨cell_stay CK.out.1 HBd.out, cell_stay CK.out.2.1 HBd.out, cell_stay CK.out.2.2 HBd.out⟩ (fun hHeld => ?_)
              refine wpAnyH_take (i := 0) (v := ?v28) (by simp only [List.getElem?_toArray, List.getElem?_cons_succ, List.getElem?_cons_zero]; rfl) (by kernel_rfl) (by kernel_rfl) (by kernel_rfl) (by exact fun _ _ _ h => h) (Or.inl ⟨by rfl, fun w9 hS9 => ?hy28⟩) hHeld ?rest28
              case hy28 =>
                dsimp only at hS9
                obtain ⟨z0, z1, z2⟩ := hS9
                go_simp
                try with_reducible rfl
              try simp only [Act.put, List.setIfInBounds_toArray, List.set_cons_zero, List.set_cons_succ]
              refine wpAnyH_take (i := 1) (v := ?v29) (by simp only [List.getElem?_toArray, List.getElem?_cons_succ, List.getElem?_cons_zero]; rfl) (by kernel_rfl) (by kernel_rfl) (by kernel_rfl) (by exact fun _ _ _ h => h) (Or.inl ⟨by rfl, fun w9 hS9 => ?hy29⟩) hHeld ?rest29
              case hy29 =>
                dsimp only at hS9
                obtain ⟨z0, z1, z2⟩ := hS9
                go_simp
                try with_reducible rfl
              try simp only [Act.put, List.setIfInBounds_toArray, List.set_cons_zero, List.set_cons_succ]
              refine wpAnyH_take (i := 2) (v := ?v30) (by simp only [List.getElem?_toArray, List.getElem?_cons_succ, List.getElem?_cons_zero]; rfl) (by kernel_rfl) (by kernel_rfl) (by kernel_rfl) (by exact fun _ _ _ h => h) (Or.inl ⟨by rfl, fun w9 hS9 => ?hy30⟩) hHeld ?rest30
              case hy30 =>
                dsimp only at hS9
                obtain ⟨z0, z1, z2⟩ := hS9
                go_simp
                try with_reducible rfl
              try simp only [Act.put, List.setIfInBounds_toArray, List.set_cons_zero, List.set_cons_succ]
              refine wpAnyH_take (i := 3) (v := ?v31) (by simp only [List.getElem?_toArray, List.getElem?_cons_succ, List.getElem?_cons_zero]; rfl) (by kernel_rfl) (by kernel_rfl) (by kernel_rfl) (by exact fun _ _ _ h => h) (Or.inl ⟨by rfl, fun w9 hS9 => ?hy31⟩) hHeld ?rest31
              case hy31 =>
                dsimp only at hS9
                obtain ⟨z0, z1, z2⟩ := hS9
                go_simp
                try with_reducible rfl
              try simp only [Act.put, List.setIfInBounds_toArray, List.set_cons_zero, List.set_cons_succ]
              refine wpAnyH_take (i := 4) (v := ?v32) (by simp only [List.getElem?_toArray, List.getElem?_cons_succ, List.getElem?_cons_zero]; rfl) (by kernel_rfl) (by kernel_rfl) (by kernel_rfl) (by exact fun _ _ _ h => h) (Or.inl ⟨by rfl, fun w9 hS9 => ?hy32⟩) hHeld ?rest32
              case hy32 =>
                dsimp only at hS9
                obtain ⟨z0, z1, z2⟩ := hS9
                go_simp
                try with_reducible rfl
              try simp only [Act.put, List.setIfInBounds_toArray, List.set_cons_zero, List.set_cons_succ]
              refine wpAnyH_take (i := 5) (v := ?v33) (by simp only [List.getElem?_toArray, List.getElem?_cons_succ, List.getElem?_cons_zero]; rfl) (by kernel_rfl) (by kernel_rfl) (by kernel_rfl) (by exact fun _ _ _ h => h) (Or.inl ⟨by rfl, fun w9 hS9 => ?hy33⟩) hHeld ?rest33
              case hy33 =>
                dsimp only at hS9
                obtain ⟨z0, z1, z2⟩ := hS9
                go_simp
                try with_reducible rfl
              try simp only [Act.put, List.setIfInBounds_toArray, List.set_cons_zero, List.set_cons_succ]
              refine wpAnyH_take (i := 6) (v := ?v34) (by simp only [List.getElem?_toArray, List.getElem?_cons_succ, List.getElem?_cons_zero]; rfl) (by kernel_rfl) (by kernel_rfl) (by kernel_rfl) (by exact fun _ _ _ h => h) (Or.inl ⟨by rfl, fun w9 hS9 => ?hy34⟩) hHeld ?rest34
              case hy34 =>
                dsimp only at hS9
                obtain ⟨z0, z1, z2⟩ := hS9
                go_simp
                try with_reducible rfl
              try simp only [Act.put, List.setIfInBounds_toArray, List.set_cons_zero, List.set_cons_succ]
              refine wpAnyH_take (i := 7) (v := ?v35) (by simp only [List.getElem?_toArray, List.getElem?_cons_succ, List.getElem?_cons_zero]; rfl) (by kernel_rfl) (by kernel_rfl) (by kernel_rfl) (by exact fun _ _ _ h => h) (Or.inl ⟨by rfl, fun w9 hS9 => ?hy35⟩) hHeld ?rest35
              case hy35 =>
                dsimp only at hS9
                obtain ⟨z0, z1, z2⟩ := hS9
                go_simp
                try with_reducible rfl
              try simp only [Act.put, List.setIfInBounds_toArray, List.set_cons_zero, List.set_cons_succ]
              refine wpAnyH_take (i := 8) (v := ?v36) (by simp only [List.getElem?_toArray, List.getElem?_cons_succ, List.getElem?_cons_zero]; rfl) (by kernel_rfl) (by kernel_rfl) (by kernel_rfl) (by exact fun _ _ _ h => h) (Or.inl ⟨by rfl, fun w9 hS9 => ?hy36⟩) hHeld ?rest36
              case hy36 =>
                dsimp only at hS9
                obtain ⟨z0, z1, z2⟩ := hS9
                go_simp
                try with_reducible rfl
              try simp only [Act.put, List.setIfInBounds_toArray, List.set_cons_zero, List.set_cons_succ]
              refine wpAnyH_take (i := 9) (v := ?v37) (by simp only [List.getElem?_toArray, List.getElem?_cons_succ, List.getElem?_cons_zero]; rfl) (by kernel_rfl) (by kernel_rfl) (by kernel_rfl) (by exact fun _ _ _ h => h) (Or.inl ⟨by rfl, fun w9 hS9 => ?hy37⟩) hHeld ?rest37
              case hy37 =>
                dsimp only at hS9
                obtain ⟨z0, z1, z2⟩ := hS9
                go_simp
                try with_reducible rfl
              try simp only [Act.put, List.setIfInBounds_toArray, List.set_cons_zero, List.set_cons_succ]
              refine wpAnyH_take (i := 10) (v := ?v38) (by simp only [List.getElem?_toArray, List.getElem?_cons_succ, List.getElem?_cons_zero]; rfl) (by kernel_rfl) (by kernel_rfl) (by kernel_rfl) (by exact fun _ _ _ h => h) (Or.inl ⟨by rfl, fun w9 hS9 => ?hy38⟩) hHeld ?rest38
              case hy38 =>
                dsimp only at hS9
                obtain ⟨z0, z1, z2⟩ := hS9
                go_simp
                try with_reducible rfl
              try simp only [Act.put, List.setIfInBounds_toArray, List.set_cons_zero, List.set_cons_succ]
              refine wpAnyH_take (i := 11) (v := ?v39) (by simp only [List.getElem?_toArray, List.getElem?_cons_succ, List.getElem?_cons_zero]; rfl) (by kernel_rfl) (by kernel_rfl) (by kernel_rfl) (by exact fun _ _ _ h => h) (Or.inl ⟨by rfl, fun w9 hS9 => ?hy39⟩) hHeld ?rest39
              case hy39 =>
                dsimp only at hS9
                obtain ⟨z0, z1, z2⟩ := hS9
                go_simp
                try with_reducible rfl
              try simp only [Act.put, List.setIfInBounds_toArray, List.set_cons_zero, List.set_cons_succ]
              refine wpAnyH_take (i := 12) (v := ?v40) (by simp only [List.getElem?_toArray, List.getElem?_cons_succ, List.getElem?_cons_zero]; rfl) (by kernel_rfl) (by kernel_rfl) (by kernel_rfl) (by exact fun _ _ _ h => h) (Or.inl ⟨by rfl, fun w9 hS9 => ?hy40⟩) hHeld ?rest40
              case hy40 =>
                dsimp only at hS9
                obtain ⟨z0, z1, z2⟩ := hS9
                go_simp
                try with_reducible rfl
              try simp only [Act.put, List.setIfInBounds_toArray, List.set_cons_zero, List.set_cons_succ]
              refine wpAnyH_take (i := 13) (v := ?v41) (by simp only [List.getElem?_toArray, List.getElem?_cons_succ, List.getElem?_cons_zero]; rfl) (by kernel_rfl) (by kernel_rfl) (by kernel_rfl) (by exact fun _ _ _ h => h) (Or.inl ⟨by rfl, fun w9 hS9 => ?hy41⟩) hHeld ?rest41
              case hy41 =>
                dsimp only at hS9
                obtain ⟨z0, z1, z2⟩ := hS9
                go_simp
                try with_reducible rfl
              try simp only [Act.put, List.setIfInBounds_toArray, List.set_cons_zero, List.set_cons_succ]
              refine wpAnyH_take (i := 14) (v := ?v42) (by simp only [List.getElem?_toArray, List.getElem?_cons_succ, List.getElem?_cons_zero]; rfl) (by kernel_rfl) (by kernel_rfl) (by kernel_rfl) (by exact fun _ _ _ h => h) (Or.inl ⟨by rfl, fun w9 hS9 => ?hy42⟩) hHeld ?rest42
              case hy42 =>
                dsimp only at hS9
                obtain ⟨z0, z1, z2⟩ := hS9
                go_simp
                try with_reducible rfl
              try simp only [Act.put, List.setIfInBounds_toArray, List.set_cons_zero, List.set_cons_succ]
              refine wpAnyH_take (i := 15) (v := ?v43) (by simp only [List.getElem?_toArray, List.getElem?_cons_succ, List.getElem?_cons_zero]; rfl) (by kernel_rfl) (by kernel_rfl) (by kernel_rfl) (by exact fun _ _ _ h => h) (Or.inl ⟨by rfl, fun w9 hS9 => ?hy43⟩) hHeld ?rest43
              case hy43 =>
                dsimp only at hS9
                obtain ⟨z0, z1, z2⟩ := hS9
                go_simp
                try with_reducible rfl
              try simp only [Act.put, List.setIfInBounds_toArray, List.set_cons_zero, List.set_cons_succ]
              refine wpAnyH_take (i := 16) (v := ?v44) (by simp only [List.getElem?_toArray, List.getElem?_cons_succ, List.getElem?_cons_zero]; rfl) (by kernel_rfl) (by kernel_rfl) (by kernel_rfl) (by exact fun _ _ _ h => h) (Or.inl ⟨by rfl, fun w9 hS9 => ?hy44⟩) hHeld ?rest44
              case hy44 =>
                dsimp only at hS9
                obtain ⟨z0, z1, z2⟩ := hS9
                go_simp
                try with_reducible rfl
              try simp only [Act.put, List.setIfInBounds_toArray, List.set_cons_zero, List.set_cons_succ]
              refine wpAnyH_take (i := 17) (v := ?v45) (by simp only [List.getElem?_toArray, List.getElem?_cons_succ, List.getElem?_cons_zero]; rfl) (by kernel_rfl) (by kernel_rfl) (by kernel_rfl) (by exact fun _ _ _ h => h) (Or.inl ⟨by rfl, fun w9 hS9 => ?hy45⟩) hHeld ?rest45
              case hy45 =>
                dsimp only at hS9
                obtain ⟨z0, z1, z2⟩ := hS9
                go_simp
                try with_reducible rfl
              try simp only [Act.put, List.setIfInBounds_toArray, List.set_cons_zero, List.set_cons_succ]
              refine wpAnyH_done (by kernel_rfl) ?_ _
              go_wp2_with fail
              go_roundw
              case rel => exact ⟨k + 1, by go_num, by omega, HRR.out.trans (HBd.out.mono HRR.out.size)⟩
              case measure => simp [intOf]; omega
            · obtain rfl : k = m2 := by omega
              have hs9 := HRR.out.size
              go_wp2_with fail
              go_roundw
              case rel => exact ⟨j + 1, by go_num, by omega, HRU3.out.trans (HRR.out.mono hs73)⟩
              case measure => simp [intOf]; omega

        · obtain rfl : j = m := by omega
          go_wp2_with fail
          go_ret
          exact ⟨rfl, HB7.out.trans (HR.out.mono HB7.out.size)⟩
    | false =>
      have HSF := Lib.hid hsf
      have hturn := safeP_turn a b
      rw [hsf] at hturn
      rw [← hturn] at HS21
      clear hsf hturn
      have CA3 := Lib.hid (three_cells ((HD3.out.block G1 hl1).trans HX1.out))
      have CB3 := Lib.hid (three_cells ((HD3.out.block G2 hl2).trans HX2.out))
      go_wp2_with fail
      have HBd : Hid (Below W3.heap.size W3 W3.drew) := Lib.hid (Below.refl _ _).drew
      refine wp_region_held_drew (S := fun w9 => w9.cell? ⟨G1, 0, none⟩ = some (.int .i64 a.st) ∧ w9.cell? ⟨G1, 1, none⟩ = some (.slice pa ka ra) ∧ w9.cell? ⟨G1, 2, none⟩ = some (.slice qa ma da) ∧ w9.cell? ⟨G2, 0, none⟩ = some (.int .i64 b.st) ∧ w9.cell? ⟨G2, 1, none⟩ = some (.slice pb kb rb) ∧ w9.cell? ⟨G2, 2, none⟩ = some (.slice qb mb db)) (by kernel_rfl) ⟨cell_stay CA3.out.1 HBd.out, cell_stay CA3.out.2.1 HBd.out, cell_stay CA3.out.2.2.1 HBd.out, cell_stay CB3.out.1 HBd.out, cell_stay CB3.out.2.1 HBd.out, cell_stay CB3.out.2.2.1 HBd.out⟩ (fun hHeld => ?_)
      refine wpAnyH_take (i := 0) (v := ?v76) (by simp only [List.getElem?_toArray, List.getElem?_cons_succ, List.getElem?_cons_zero]; rfl) (by kernel_rfl) (by kernel_rfl) (by kernel_rfl) (by exact fun _ _ _ h => h) (Or.inl ⟨by rfl, fun w9 hS9 => ?hy76⟩) hHeld ?rest76
      case hy76 =>
        dsimp only at hS9
        obtain ⟨z0, z1, z2, z3, z4, z5⟩ := hS9
        go_simp
        try with_reducible rfl
      try simp only [Act.put, List.setIfInBounds_toArray, List.set_cons_zero, List.set_cons_succ]
      refine wpAnyH_take (i := 1) (v := ?v77) (by simp only [List.getElem?_toArray, List.getElem?_cons_succ, List.getElem?_cons_zero]; rfl) (by kernel_rfl) (by kernel_rfl) (by kernel_rfl) (by exact fun _ _ _ h => h) (Or.inl ⟨by rfl, fun w9 hS9 => ?hy77⟩) hHeld ?rest77
      case hy77 =>
        dsimp only at hS9
        obtain ⟨z0, z1, z2, z3, z4, z5⟩ := hS9
        go_simp
        try with_reducible rfl
      try simp only [Act.put, List.setIfInBounds_toArray, List.set_cons_zero, List.set_cons_succ]
      refine wpAnyH_take (i := 2) (v := ?v78) (by simp only [List.getElem?_toArray, List.getElem?_cons_succ, List.getElem?_cons_zero]; rfl) (by kernel_rfl) (by kernel_rfl) (by kernel_rfl) (by exact fun _ _ _ h => h) (Or.inl ⟨by rfl, fun w9 hS9 => ?hy78⟩) hHeld ?rest78
      case hy78 =>
        dsimp only at hS9
        obtain ⟨z0, z1, z2, z3, z4, z5⟩ := hS9
        go_simp
        try with_reducible rfl
      try simp only [Act.put, List.setIfInBounds_toArray, List.set_cons_zero, List.set_cons_succ]
      refine wpAnyH_ready (rs := [3]) (by kernel_rfl) (by simp) (AllReadyH.cons (by simp only [List.getElem?_toArray, List.getElem?_cons_succ, List.getElem?_cons_zero]; rfl) (fun K hK => ?_) AllReadyH.nil)
      go_simp
      refine (HS21.out _ (HD3.out.trans (HBd.out.mono HD3.out.size))).mono ?_
      rintro e w1 ⟨rfl, hb1⟩
      have HB1 : Hid (Below W3.heap.size W3 w1) := Lib.hid (HBd.out.trans (hb1.mono HBd.out.size))
      clear hb1
      go_wp2_with fail
      refine hK.out _ _ ⟨cell_stay CA3.out.1 HB1.out, cell_stay CA3.out.2.1 HB1.out, cell_stay CA3.out.2.2.1 HB1.out, cell_stay CB3.out.1 HB1.out, cell_stay CB3.out.2.1 HB1.out, cell_stay CB3.out.2.2.1 HB1.out⟩ (fun hHeld => ?_)
      clear hK K
      try simp only [Act.put, List.setIfInBounds_toArray, List.set_cons_zero, List.set_cons_succ]
      refine wpAnyH_take (i := 4) (v := ?v79) (by simp only [List.getElem?_toArray, List.getElem?_cons_succ, List.getElem?_cons_zero]; rfl) (by kernel_rfl) (by kernel_rfl) (by kernel_rfl) (by exact fun _ _ _ h => h) (Or.inl ⟨by rfl, fun w9 hS9 => ?hy79⟩) hHeld ?rest79
      case hy79 =>
        dsimp only at hS9
        obtain ⟨z0, z1, z2, z3, z4, z5⟩ := hS9
        go_simp
        try with_reducible rfl
      try simp only [Act.put, List.setIfInBounds_toArray, List.set_cons_zero, List.set_cons_succ]
      refine wpAnyH_take (i := 5) (v := ?v80) (by simp only [List.getElem?_toArray, List.getElem?_cons_succ, List.getElem?_cons_zero]; rfl) (by kernel_rfl) (by kernel_rfl) (by kernel_rfl) (by exact fun _ _ _ h => h) (Or.inl ⟨by rfl, fun w9 hS9 => ?hy80⟩) hHeld ?rest80
      case hy80 =>
        dsimp only at hS9
        obtain ⟨z0, z1, z2, z3, z4, z5⟩ := hS9
        go_simp
        try with_reducible rfl
      try simp only [Act.put, List.setIfInBounds_toArray, List.set_cons_zero, List.set_cons_succ]
      refine wpAnyH_take (i := 6) (v := ?v81) (by simp only [List.getElem?_toArray, List.getElem?_cons_succ, List.getElem?_cons_zero]; rfl) (by kernel_rfl) (by kernel_rfl) (by kernel_rfl) (by exact fun _ _ _ h => h) (Or.inl ⟨by rfl, fun w9 hS9 => ?hy81⟩) hHeld ?rest81
      case hy81 =>
        dsimp only at hS9
        obtain ⟨z0, z1, z2, z3, z4, z5⟩ := hS9
        go_simp
        try with_reducible rfl
      try simp only [Act.put, List.setIfInBounds_toArray, List.set_cons_zero, List.set_cons_succ]
      refine wpAnyH_take (i := 7) (v := ?v82) (by simp only [List.getElem?_toArray, List.getElem?_cons_succ, List.getElem?_cons_zero]; rfl) (by kernel_rfl) (by kernel_rfl) (by kernel_rfl) (by exact fun _ _ _ h => h) (Or.inl ⟨by rfl, fun w9 hS9 => ?hy82⟩) hHeld ?rest82
      case hy82 =>
        dsimp only at hS9
        obtain ⟨z0, z1, z2, z3, z4, z5⟩ := hS9
        go_simp
        try with_reducible rfl
      try simp only [Act.put, List.setIfInBounds_toArray, List.set_cons_zero, List.set_cons_succ]
      refine wpAnyH_take (i := 8) (v := undef) (by simp only [List.getElem?_toArray, List.getElem?_cons_succ, List.getElem?_cons_zero]; rfl) (by kernel_rfl) (by kernel_rfl) (by kernel_rfl) (by exact fun _ _ _ h => h) (Or.inr ⟨by rfl, rfl⟩) hHeld ?_
      try simp only [Act.put, List.setIfInBounds_toArray, List.set_cons_zero, List.set_cons_succ]
      refine wpAnyH_take (i := 9) (v := undef) (by simp only [List.getElem?_toArray, List.getElem?_cons_succ, List.getElem?_cons_zero]; rfl) (by kernel_rfl) (by kernel_rfl) (by kernel_rfl) (by exact fun _ _ _ h => h) (Or.inr ⟨by rfl, rfl⟩) hHeld ?_
      try simp only [Act.put, List.setIfInBounds_toArray, List.set_cons_zero, List.set_cons_succ]
      refine wpAnyH_take (i := 10) (v := undef) (by simp only [List.getElem?_toArray, List.getElem?_cons_succ, List.getElem?_cons_zero]; rfl) (by kernel_rfl) (by kernel_rfl) (by kernel_rfl) (by exact fun _ _ _ h => h) (Or.inr ⟨by rfl, rfl⟩) hHeld ?_
      try simp only [Act.put, List.setIfInBounds_toArray, List.set_cons_zero, List.set_cons_succ]
      refine wpAnyH_take (i := 11) (v := undef) (by simp only [List.getElem?_toArray, List.getElem?_cons_succ, List.getElem?_cons_zero]; rfl) (by kernel_rfl) (by kernel_rfl) (by kernel_rfl) (by exact fun _ _ _ h => h) (Or.inr ⟨by rfl, rfl⟩) hHeld ?_
      try simp only [Act.put, List.setIfInBounds_toArray, List.set_cons_zero, List.set_cons_succ]
      refine wpAnyH_take (i := 12) (v := undef) (by simp only [List.getElem?_toArray, List.getElem?_cons_succ, List.getElem?_cons_zero]; rfl) (by kernel_rfl) (by kernel_rfl) (by kernel_rfl) (by exact fun _ _ _ h => h) (Or.inr ⟨by rfl, rfl⟩) hHeld ?_
      try simp only [Act.put, List.setIfInBounds_toArray, List.set_cons_zero, List.set_cons_succ]
      refine wpAnyH_take (i := 13) (v := ?v88) (by simp only [List.getElem?_toArray, List.getElem?_cons_succ, List.getElem?_cons_zero]; rfl) (by kernel_rfl) (by kernel_rfl) (by kernel_rfl) (by exact fun _ _ _ h => h) (Or.inl ⟨by rfl, fun w9 hS9 => ?hy88⟩) hHeld ?rest88
      case hy88 =>
        dsimp only at hS9
        obtain ⟨z0, z1, z2, z3, z4, z5⟩ := hS9
        go_simp
        try with_reducible rfl
      try simp only [Act.put, List.setIfInBounds_toArray, List.set_cons_zero, List.set_cons_succ]
      refine wpAnyH_take (i := 14) (v := ?v89) (by simp only [List.getElem?_toArray, List.getElem?_cons_succ, List.getElem?_cons_zero]; rfl) (by kernel_rfl) (by kernel_rfl) (by kernel_rfl) (by exact fun _ _ _ h => h) (Or.inl ⟨by rfl, fun w9 hS9 => ?hy89⟩) hHeld ?rest89
      case hy89 =>
        dsimp only at hS9
        obtain ⟨z0, z1, z2, z3, z4, z5⟩ := hS9
        go_simp
        try with_reducible rfl
      try simp only [Act.put, List.setIfInBounds_toArray, List.set_cons_zero, List.set_cons_succ]
      refine wpAnyH_take (i := 15) (v := ?v90) (by simp only [List.getElem?_toArray, List.getElem?_cons_succ, List.getElem?_cons_zero]; rfl) (by kernel_rfl) (by kernel_rfl) (by kernel_rfl) (by exact fun _ _ _ h => h) (Or.inl ⟨by rfl, fun w9 hS9 => ?hy90⟩) hHeld ?rest90
      case hy90 =>
        dsimp only at hS9
        obtain ⟨z0, z1, z2, z3, z4, z5⟩ := hS9
        go_simp
        try with_reducible rfl
      try simp only [Act.put, List.setIfInBounds_toArray, List.set_cons_zero, List.set_cons_succ]
      refine wpAnyH_take (i := 16) (v := ?v91) (by simp only [List.getElem?_toArray, List.getElem?_cons_succ, List.getElem?_cons_zero]; rfl) (by kernel_rfl) (by kernel_rfl) (by kernel_rfl) (by exact fun _ _ _ h => h) (Or.inl ⟨by rfl, fun w9 hS9 => ?hy91⟩) hHeld ?rest91
      case hy91 =>
        dsimp only at hS9
        obtain ⟨z0, z1, z2, z3, z4, z5⟩ := hS9
        go_simp
        try with_reducible rfl
      try simp only [Act.put, List.setIfInBounds_toArray, List.set_cons_zero, List.set_cons_succ]
      refine wpAnyH_take (i := 17) (v := ?v92) (by simp only [List.getElem?_toArray, List.getElem?_cons_succ, List.getElem?_cons_zero]; rfl) (by kernel_rfl) (by kernel_rfl) (by kernel_rfl) (by exact fun _ _ _ h => h) (Or.inl ⟨by rfl, fun w9 hS9 => ?hy92⟩) hHeld ?rest92
      case hy92 =>
        dsimp only at hS9
        obtain ⟨z0, z1, z2, z3, z4, z5⟩ := hS9
        go_simp
        try with_reducible rfl
      try simp only [Act.put, List.setIfInBounds_toArray, List.set_cons_zero, List.set_cons_succ]
      refine wpAnyH_take (i := 20) (v := ?v93) (by simp only [List.getElem?_toArray, List.getElem?_cons_succ, List.getElem?_cons_zero]; rfl) (by kernel_rfl) (by kernel_rfl) (by kernel_rfl) (by exact fun _ _ _ h => h) (Or.inl ⟨by rfl, fun w9 hS9 => ?hy93⟩) hHeld ?rest93
      case hy93 =>
        dsimp only at hS9
        obtain ⟨z0, z1, z2, z3, z4, z5⟩ := hS9
        go_simp
        try with_reducible rfl
      try simp only [Act.put, List.setIfInBounds_toArray, List.set_cons_zero, List.set_cons_succ]
      refine wpAnyH_take (i := 21) (v := ?v94) (by simp only [List.getElem?_toArray, List.getElem?_cons_succ, List.getElem?_cons_zero]; rfl) (by kernel_rfl) (by kernel_rfl) (by kernel_rfl) (by exact fun _ _ _ h => h) (Or.inl ⟨by rfl, fun w9 hS9 => ?hy94⟩) hHeld ?rest94
      case hy94 =>
        dsimp only at hS9
        obtain ⟨z0, z1, z2, z3, z4, z5⟩ := hS9
        go_simp
        try with_reducible rfl
      try simp only [Act.put, List.setIfInBounds_toArray, List.set_cons_zero, List.set_cons_succ]
      refine wpAnyH_ready (rs := [18]) (by kernel_rfl) (by simp) (AllReadyH.cons (by simp only [List.getElem?_toArray, List.getElem?_cons_succ, List.getElem?_cons_zero]; rfl) (fun K hK => ?_) AllReadyH.nil)
      go_simp
      refine (HP12.out _ (HD3.out.trans (HB1.out.mono HD3.out.size))).mono ?_
      rintro e w2 ⟨g8, n8, c8, rfl, ho2, hb2⟩
      have HB2 : Hid (Below W3.heap.size W3 w2) := Lib.hid (HB1.out.trans (hb2.mono HB1.out.size))
      have HC8 := Lib.hid ho2.count
      clear ho2
      clear hb2
      go_wp2_with fail
      refine hK.out _ _ ⟨cell_stay CA3.out.1 HB2.out, cell_stay CA3.out.2.1 HB2.out, cell_stay CA3.out.2.2.1 HB2.out, cell_stay CB3.out.1 HB2.out, cell_stay CB3.out.2.1 HB2.out, cell_stay CB3.out.2.2.1 HB2.out⟩ (fun hHeld => ?_)
      clear hK K
      try simp only [Act.put, List.setIfInBounds_toArray, List.set_cons_zero, List.set_cons_succ]
      refine wpAnyH_take (i := 19) (v := ?v95) (by simp only [List.getElem?_toArray, List.getElem?_cons_succ, List.getElem?_cons_zero]; rfl) (by kernel_rfl) (by kernel_rfl) (by kernel_rfl) (by exact fun _ _ _ h => h) (Or.inl ⟨by rfl, fun w9 hS9 => ?hy95⟩) hHeld ?rest95
      case hy95 =>
        dsimp only at hS9
        obtain ⟨z0, z1, z2, z3, z4, z5⟩ := hS9
        go_simp
        try with_reducible rfl
      try simp only [Act.put, List.setIfInBounds_toArray, List.set_cons_zero, List.set_cons_succ]
      refine wpAnyH_ready (rs := [22]) (by kernel_rfl) (by simp) (AllReadyH.cons (by simp only [List.getElem?_toArray, List.getElem?_cons_succ, List.getElem?_cons_zero]; rfl) (fun K hK => ?_) AllReadyH.nil)
      go_simp
      refine (HP21.out _ (HD3.out.trans (HB2.out.mono HD3.out.size))).mono ?_
      rintro e w3 ⟨g9, n9, c9, rfl, ho3, hb3⟩
      have HB3 : Hid (Below W3.heap.size W3 w3) := Lib.hid (HB2.out.trans (hb3.mono HB2.out.size))
      obtain rfl : n9 = n8 := by rw [← ho3.count, ← HC8.out]; exact pairsP_turn b a
      clear ho3 HC8
      clear hb3
      go_wp2_with fail
      refine hK.out _ _ ⟨cell_stay CA3.out.1 HB3.out, cell_stay CA3.out.2.1 HB3.out, cell_stay CA3.out.2.2.1 HB3.out, cell_stay CB3.out.1 HB3.out, cell_stay CB3.out.2.1 HB3.out, cell_stay CB3.out.2.2.1 HB3.out⟩ (fun hHeld => ?_)
      clear hK K
      try simp only [Act.put, List.setIfInBounds_toArray, List.set_cons_zero, List.set_cons_succ]
      refine wpAnyH_take (i := 23) (v := ?v96) (by simp only [List.getElem?_toArray, List.getElem?_cons_succ, List.getElem?_cons_zero]; rfl) (by kernel_rfl) (by kernel_rfl) (by kernel_rfl) (by exact fun _ _ _ h => h) (Or.inl ⟨by rfl, fun w9 hS9 => ?hy96⟩) hHeld ?rest96
      case hy96 =>
        dsimp only at hS9
        obtain ⟨z0, z1, z2, z3, z4, z5⟩ := hS9
        go_simp
        try with_reducible rfl
      try simp only [Act.put, List.setIfInBounds_toArray, List.set_cons_zero, List.set_cons_succ]
      refine wpAnyH_take (i := 24) (v := .bool false) (by simp only [List.getElem?_toArray, List.getElem?_cons_succ, List.getElem?_cons_zero]; rfl) (by kernel_rfl) (by kernel_rfl) (by kernel_rfl) (by exact fun _ _ _ h => h) (Or.inl ⟨by rfl, fun w9 hS9 => ?hy97⟩) hHeld ?rest97
      case hy97 =>
        dsimp only at hS9
        obtain ⟨z0, z1, z2, z3, z4, z5⟩ := hS9
        go_simp
        (try simp)
      try simp only [Act.put, List.setIfInBounds_toArray, List.set_cons_zero, List.set_cons_succ]
      refine wpAnyH_take (i := 25) (v := ?v98) (by simp only [List.getElem?_toArray, List.getElem?_cons_succ, List.getElem?_cons_zero]; rfl) (by kernel_rfl) (by kernel_rfl) (by kernel_rfl) (by exact fun _ _ _ h => h) (Or.inl ⟨by rfl, fun w9 hS9 => ?hy98⟩) hHeld ?rest98
      case hy98 =>
        dsimp only at hS9
        obtain ⟨z0, z1, z2, z3, z4, z5⟩ := hS9
        go_simp
        try with_reducible rfl
      try simp only [Act.put, List.setIfInBounds_toArray, List.set_cons_zero, List.set_cons_succ]
      refine wpAnyH_take (i := 26) (v := ?v99) (by simp only [List.getElem?_toArray, List.getElem?_cons_succ, List.getElem?_cons_zero]; rfl) (by kernel_rfl) (by kernel_rfl) (by kernel_rfl) (by exact fun _ _ _ h => h) (Or.inl ⟨by rfl, fun w9 hS9 => ?hy99⟩) hHeld ?rest99
      case hy99 =>
        dsimp only at hS9
        obtain ⟨z0, z1, z2, z3, z4, z5⟩ := hS9
        go_simp
        try with_reducible rfl
      try simp only [Act.put, List.setIfInBounds_toArray, List.set_cons_zero, List.set_cons_succ]
      refine wpAnyH_take (i := 27) (v := ?v100) (by simp only [List.getElem?_toArray, List.getElem?_cons_succ, List.getElem?_cons_zero]; rfl) (by kernel_rfl) (by kernel_rfl) (by kernel_rfl) (by exact fun _ _ _ h => h) (Or.inl ⟨by rfl, fun w9 hS9 => ?hy100⟩) hHeld ?rest100
      case hy100 =>
        dsimp only at hS9
        obtain ⟨z0, z1, z2, z3, z4, z5⟩ := hS9
        go_simp
        try with_reducible rfl
      try simp only [Act.put, List.setIfInBounds_toArray, List.set_cons_zero, List.set_cons_succ]
      refine wpAnyH_take (i := 29) (v := ?v101) (by simp only [List.getElem?_toArray, List.getElem?_cons_succ, List.getElem?_cons_zero]; rfl) (by kernel_rfl) (by kernel_rfl) (by kernel_rfl) (by exact fun _ _ _ h => h) (Or.inl ⟨by rfl, fun w9 hS9 => ?hy101⟩) hHeld ?rest101
      case hy101 =>
        dsimp only at hS9
        obtain ⟨z0, z1, z2, z3, z4, z5⟩ := hS9
        go_simp
        try with_reducible rfl
      try simp only [Act.put, List.setIfInBounds_toArray, List.set_cons_zero, List.set_cons_succ]
      refine wpAnyH_ready (rs := [28]) (by kernel_rfl) (by simp) (AllReadyH.cons (by simp only [List.getElem?_toArray, List.getElem?_cons_succ, List.getElem?_cons_zero]; rfl) (fun K hK => ?_) AllReadyH.nil)
      go_simp
      refine (HIA.out _ (HD3.out.trans (HB3.out.mono HD3.out.size))).mono ?_
      rintro e w4 ⟨rfl, hb4⟩
      have HB4 : Hid (Below W3.heap.size W3 w4) := Lib.hid (HB3.out.trans (hb4.mono HB3.out.size))
      clear hb4
      go_wp2_with fail
      refine hK.out _ _ ⟨cell_stay CA3.out.1 HB4.out, cell_stay CA3.out.2.1 HB4.out, cell_stay CA3.out.2.2.1 HB4.out, cell_stay CB3.out.1 HB4.out, cell_stay CB3.out.2.1 HB4.out, cell_stay CB3.out.2.2.1 HB4.out⟩ (fun hHeld => ?_)
      clear hK K
      try simp only [Act.put, List.setIfInBounds_toArray, List.set_cons_zero, List.set_cons_succ]
      refine wpAnyH_ready (rs := [30]) (by kernel_rfl) (by simp) (AllReadyH.cons (by simp only [List.getElem?_toArray, List.getElem?_cons_succ, List.getElem?_cons_zero]; rfl) (fun K hK => ?_) AllReadyH.nil)
      go_simp
      refine (HSA.out _ (HD3.out.trans (HB4.out.mono HD3.out.size))).mono ?_
      rintro e w5 ⟨rfl, hb5⟩
      have HB5 : Hid (Below W3.heap.size W3 w5) := Lib.hid (HB4.out.trans (hb5.mono HB4.out.size))
      clear hb5
      go_wp2_with fail
      refine hK.out _ _ ⟨cell_stay CA3.out.1 HB5.out, cell_stay CA3.out.2.1 HB5.out, cell_stay CA3.out.2.2.1 HB5.out, cell_stay CB3.out.1 HB5.out, cell_stay CB3.out.2.1 HB5.out, cell_stay CB3.out.2.2.1 HB5.out⟩ (fun hHeld => ?_)
      clear hK K
      try simp only [Act.put, List.setIfInBounds_toArray, List.set_cons_zero, List.set_cons_succ]
      refine wpAnyH_take (i := 31) (v := .bool false) (by simp only [List.getElem?_toArray, List.getElem?_cons_succ, List.getElem?_cons_zero]; rfl) (by kernel_rfl) (by kernel_rfl) (by kernel_rfl) (by exact fun _ _ _ h => h) (Or.inl ⟨by rfl, fun w9 hS9 => ?hy102⟩) hHeld ?rest102
      case hy102 =>
        dsimp only at hS9
        obtain ⟨z0, z1, z2, z3, z4, z5⟩ := hS9
        go_simp
        (try simp)
      try simp only [Act.put, List.setIfInBounds_toArray, List.set_cons_zero, List.set_cons_succ]
      refine wpAnyH_take (i := 32) (v := ?v103) (by simp only [List.getElem?_toArray, List.getElem?_cons_succ, List.getElem?_cons_zero]; rfl) (by kernel_rfl) (by kernel_rfl) (by kernel_rfl) (by exact fun _ _ _ h => h) (Or.inl ⟨by rfl, fun w9 hS9 => ?hy103⟩) hHeld ?rest103
      case hy103 =>
        dsimp only at hS9
        obtain ⟨z0, z1, z2, z3, z4, z5⟩ := hS9
        go_simp
        try with_reducible rfl
      try simp only [Act.put, List.setIfInBounds_toArray, List.set_cons_zero, List.set_cons_succ]
      refine wpAnyH_done (by kernel_rfl) ?_ _
      obtain ⟨w4, hwv⟩ : ∃ u, u = w5 := ⟨w5, rfl⟩
      subst hwv
      have HD4 := Lib.hid (HD3.out.trans (HB5.out.mono HD3.out.size))
      clear CA3 CB3
      obtain ⟨x0, x1, x2, -⟩ := three_cells ((HD4.out.block G1 hl1).trans HX1.out)
      go_wp2_with fail
      clear x0 x1 x2
      refine (dualOf_any (HM.out.same HD4.out) (by omega)).mono ?_
      rintro e w5 ⟨vd, rfl, hod, hz⟩
      obtain ⟨pd, kd, rd, qd, md, dd, rfl⟩ := hod.shape
      have HAL := Lib.hid (alloc_same w5 (.cells #[.int .i64 (dualM a).st, .slice pd kd rd, .slice qd md dd] 27))
      have HX3 := Lib.hid (heap_alloc_new w5 (.cells #[.int .i64 (dualM a).st, .slice pd kd rd, .slice qd md dd] 27 (0, 0)))
      change Hid ((w5.alloc (.cells #[.int .i64 (dualM a).st, .slice pd kd rd, .slice qd md dd] 27)).heap[w5.heap.size]? = _) at HX3
      have HMD := Lib.hid (hod.mac.same HAL.out)
      have HD6 : Hid (Below W2.heap.size W2 (w5.alloc (.cells #[.int .i64 (dualM a).st, .slice pd kd rd, .slice qd md dd] 27))) := Lib.hid ((HD4.out.trans (hz.mono HD4.out.size)).trans (HAL.out.mono (Nat.le_trans HD4.out.size hz.size)))
      clear hod hz HAL
      obtain ⟨x0, x1, x2, -⟩ := three_cells ((HD6.out.block G1 hl1).trans HX1.out)
      obtain ⟨z0, z1, z2, -⟩ := three_cells HX3.out
      go_wp2_with fail
      clear x0 x1 x2 z0 z1 z2
      obtain ⟨G3, hG3⟩ : ∃ u, u = w5.heap.size := ⟨_, rfl⟩
      rw [← hG3] at HX3
      rw [← hG3]
      clear hG3
      generalize w5.alloc (.cells #[.int .i64 (dualM a).st, .slice pd kd rd, .slice qd md dd] 27) = W6 at *
      have hl3 : G3 < W6.heap.size := (Array.getElem?_eq_some_iff.1 HX3.out).1
      have h26 : W2.heap.size ≤ W6.heap.size := HD6.out.size
      have HTR := Lib.hid (fun (s : Int) W' (h : Below W6.heap.size W6 W') => troubleAt_any s s (HM.out.same (HD6.out.trans (h.mono h26))) (HMD.out.same h) HW.out.1 HWD.out (by omega) (by omega))
      have HNX := Lib.hid (fun (s : Int) W' (h : Below W6.heap.size W6 W') => nextPairs_any s s (HM.out.same (HD6.out.trans (h.mono h26))) (HMD.out.same h) HW.out.1 HWD.out (by omega) (by omega))
      refine (pairsOf_any (HM.out.same HD6.out) HMD.out HW.out.1 HWD.out (by omega) (by omega)).mono ?_
      rintro e w7 ⟨g, m, cc, rfl, ho, hz⟩
      have hcm := ho.count
      have hm36 := pairsP_len a (dualM a)
      have hroom := ho.room
      have HO := Lib.hid ho
      have HE7 := Lib.hid hz
      have h67 : W6.heap.size ≤ w7.heap.size := hz.size
      have HY1 := Lib.hid (((HD6.out.trans (hz.mono h26)).block G1 hl1).trans HX1.out)
      have HY2 := Lib.hid (((HD6.out.trans (hz.mono h26)).block G2 hl2).trans HX2.out)
      have HY3 := Lib.hid ((hz.block G3 hl3).trans HX3.out)
      have HB7 : Hid (Below w.heap.size w w7) := Lib.hid (HB.out.trans ((HD6.out.trans (hz.mono h26)).mono HB.out.size))
      have HD7 : Hid (Below W2.heap.size W2 w7) := Lib.hid (HD6.out.trans (hz.mono h26))
      clear ho hz HX1 HX2 HX3 HD3 HD4
      go_wp2_with fail
      go_loopw [8] (fun i wr => ∃ j : Nat, i = .int .i64 j ∧ j ≤ m ∧ Below w7.heap.size w7 wr) (fun i _ => m - (intOf i).toNat)
      case atStart => exact ⟨0, rfl, Nat.zero_le _, Below.refl _ _⟩
      case round =>
        obtain ⟨j, rfl, hj, hb⟩ := hrel
        have HR := Lib.hid hb
        have HR7 : Hid (Below W6.heap.size W6 wr) := Lib.hid (HE7.out.trans (hb.mono h67))
        clear hb
        by_cases hlt : j < m
        · obtain ⟨r, pr, hpr, hc0, hrow, o1, o2, o3⟩ := (HO.out.same HR.out).at_ hlt
          obtain ⟨e1, e2, e3⟩ := pairs_dual (List.mem_of_getElem? hpr)
          obtain ⟨s, s2⟩ := pr
          dsimp only at e1 e2 e3
          subst e1
          have HIN := Lib.hid e3
          have hne1 : (troubleP a (dualM a) s s == 1) = false := beq_eq_false_iff_ne.2 e2
          obtain ⟨d0, d1⟩ := two_cells hrow
          have CR9 := Lib.hid (And.intro hc0 (And.intro d0 d1))
          have CA9 := Lib.hid (three_cells ((HR.out.block G1 (by omega)).trans HY1.out))
          have CD9 := Lib.hid (three_cells ((HR.out.block G3 (by omega)).trans HY3.out))
          clear hpr hc0 hrow d0 d1 e2 e3
          go_wp2_with fail
          have HBd : Hid (Below wr.heap.size wr wr.drew) := Lib.hid (Below.refl _ _).drew
          refine wp_region_held_drew (S := fun w9 => w9.cell? ⟨G1, 0, none⟩ = some (.int .i64 a.st) ∧ w9.cell? ⟨G1, 1, none⟩ = some (.slice pa ka ra) ∧ w9.cell? ⟨G1, 2, none⟩ = some (.slice qa ma da) ∧ w9.cell? ⟨G3, 0, none⟩ = some (.int .i64 (dualM a).st) ∧ w9.cell? ⟨G3, 1, none⟩ = some (.slice pd kd rd) ∧ w9.cell? ⟨G3, 2, none⟩ = some (.slice qd md dd) ∧ w9.cell? ⟨g, j, none⟩ = some (.slice (some ⟨r, 0, none⟩) 2 2) ∧ w9.cell? ⟨r, 0, none⟩ = some (.int .i64 s) ∧ w9.cell? ⟨r, 1, none⟩ = some (.int .i64 s)) (by kernel_rfl) ⟨cell_stay CA9.out.1 HBd.out, cell_stay CA9.out.2.1 HBd.out, cell_stay CA9.out.2.2.1 HBd.out, cell_stay CD9.out.1 HBd.out, cell_stay CD9.out.2.1 HBd.out, cell_stay CD9.out.2.2.1 HBd.out, cell_stay CR9.out.1 HBd.out, cell_stay CR9.out.2.1 HBd.out, cell_stay CR9.out.2.2 HBd.out⟩ (fun hHeld => ?_)
          refine wpAnyH_take (i := 0) (v := ?v122) (by simp only [List.getElem?_toArray, List.getElem?_cons_succ, List.getElem?_cons_zero]; rfl) (by kernel_rfl) (by kernel_rfl) (by kernel_rfl) (by exact fun _ _ _ h => h) (Or.inl ⟨by rfl, fun w9 hS9 => ?hy122⟩) hHeld ?rest122
          case hy122 =>
            dsimp only at hS9
            obtain ⟨z0, z1, z2, z3, z4, z5, z6, z7, z8⟩ := hS9
            go_simp
            try with_reducible rfl
          try simp only [Act.put, List.setIfInBounds_toArray, List.set_cons_zero, List.set_cons_succ]
          refine wpAnyH_take (i := 1) (v := ?v123) (by simp only [List.getElem?_toArray, List.getElem?_cons_succ, List.getElem?_cons_zero]; rfl) (by kernel_rfl) (by kernel_rfl) (by kernel_rfl) (by exact fun _ _ _ h => h) (Or.inl ⟨by rfl, fun w9 hS9 => ?hy123⟩) hHeld ?rest123
          case hy123 =>
            dsimp only at hS9
            obtain ⟨z0, z1, z2, z3, z4, z5, z6, z7, z8⟩ := hS9
            go_simp
            try with_reducible rfl
          try simp only [Act.put, List.setIfInBounds_toArray, List.set_cons_zero, List.set_cons_succ]
          refine wpAnyH_take (i := 2) (v := ?v124) (by simp only [List.getElem?_toArray, List.getElem?_cons_succ, List.getElem?_cons_zero]; rfl) (by kernel_rfl) (by kernel_rfl) (by kernel_rfl) (by exact fun _ _ _ h => h) (Or.inl ⟨by rfl, fun w9 hS9 => ?hy124⟩) hHeld ?rest124
          case hy124 =>
            dsimp only at hS9
            obtain ⟨z0, z1, z2, z3, z4, z5, z6, z7, z8⟩ := hS9
            go_simp
            try with_reducible rfl
          try simp only [Act.put, List.setIfInBounds_toArray, List.set_cons_zero, List.set_cons_succ]
          refine wpAnyH_take (i := 3) (v := ?v125) (by simp only [List.getElem?_toArray, List.getElem?_cons_succ, List.getElem?_cons_zero]; rfl) (by kernel_rfl) (by kernel_rfl) (by kernel_rfl) (by exact fun _ _ _ h => h) (Or.inl ⟨by rfl, fun w9 hS9 => ?hy125⟩) hHeld ?rest125
          case hy125 =>
            dsimp only at hS9
            obtain ⟨z0, z1, z2, z3, z4, z5, z6, z7, z8⟩ := hS9
            go_simp
            try with_reducible rfl
          try simp only [Act.put, List.setIfInBounds_toArray, List.set_cons_zero, List.set_cons_succ]
          refine wpAnyH_take (i := 4) (v := ?v126) (by simp only [List.getElem?_toArray, List.getElem?_cons_succ, List.getElem?_cons_zero]; rfl) (by kernel_rfl) (by kernel_rfl) (by kernel_rfl) (by exact fun _ _ _ h => h) (Or.inl ⟨by rfl, fun w9 hS9 => ?hy126⟩) hHeld ?rest126
          case hy126 =>
            dsimp only at hS9
            obtain ⟨z0, z1, z2, z3, z4, z5, z6, z7, z8⟩ := hS9
            go_simp
            try with_reducible rfl
          try simp only [Act.put, List.setIfInBounds_toArray, List.set_cons_zero, List.set_cons_succ]
          refine wpAnyH_take (i := 5) (v := ?v127) (by simp only [List.getElem?_toArray, List.getElem?_cons_succ, List.getElem?_cons_zero]; rfl) (by kernel_rfl) (by kernel_rfl) (by kernel_rfl) (by exact fun _ _ _ h => h) (Or.inl ⟨by rfl, fun w9 hS9 => ?hy127⟩) hHeld ?rest127
          case hy127 =>
            dsimp only at hS9
            obtain ⟨z0, z1, z2, z3, z4, z5, z6, z7, z8⟩ := hS9
            go_simp
            try with_reducible rfl
          try simp only [Act.put, List.setIfInBounds_toArray, List.set_cons_zero, List.set_cons_succ]
          refine wpAnyH_take (i := 6) (v := ?v128) (by simp only [List.getElem?_toArray, List.getElem?_cons_succ, List.getElem?_cons_zero]; rfl) (by kernel_rfl) (by kernel_rfl) (by kernel_rfl) (by exact fun _ _ _ h => h) (Or.inl ⟨by rfl, fun w9 hS9 => ?hy128⟩) hHeld ?rest128
          case hy128 =>
            dsimp only at hS9
            obtain ⟨z0, z1, z2, z3, z4, z5, z6, z7, z8⟩ := hS9
            go_simp
            try with_reducible rfl
          try simp only [Act.put, List.setIfInBounds_toArray, List.set_cons_zero, List.set_cons_succ]
          refine wpAnyH_take (i := 7) (v := ?v129) (by simp only [List.getElem?_toArray, List.getElem?_cons_succ, List.getElem?_cons_zero]; rfl) (by kernel_rfl) (by kernel_rfl) (by kernel_rfl) (by exact fun _ _ _ h => h) (Or.inl ⟨by rfl, fun w9 hS9 => ?hy129⟩) hHeld ?rest129
          case hy129 =>
            dsimp only at hS9
            obtain ⟨z0, z1, z2, z3, z4, z5, z6, z7, z8⟩ := hS9
            go_simp
            try with_reducible rfl
          try simp only [Act.put, List.setIfInBounds_toArray, List.set_cons_zero, List.set_cons_succ]
          refine wpAnyH_take (i := 8) (v := ?v130) (by simp only [List.getElem?_toArray, List.getElem?_cons_succ, List.getElem?_cons_zero]; rfl) (by kernel_rfl) (by kernel_rfl) (by kernel_rfl) (by exact fun _ _ _ h => h) (Or.inl ⟨by rfl, fun w9 hS9 => ?hy130⟩) hHeld ?rest130
          case hy130 =>
            dsimp only at hS9
            obtain ⟨z0, z1, z2, z3, z4, z5, z6, z7, z8⟩ := hS9
            go_simp
            try with_reducible rfl
          try simp only [Act.put, List.setIfInBounds_toArray, List.set_cons_zero, List.set_cons_succ]
          refine wpAnyH_take (i := 9) (v := ?v131) (by simp only [List.getElem?_toArray, List.getElem?_cons_succ, List.getElem?_cons_zero]; rfl) (by kernel_rfl) (by kernel_rfl) (by kernel_rfl) (by exact fun _ _ _ h => h) (Or.inl ⟨by rfl, fun w9 hS9 => ?hy131⟩) hHeld ?rest131
          case hy131 =>
            dsimp only at hS9
            obtain ⟨z0, z1, z2, z3, z4, z5, z6, z7, z8⟩ := hS9
            go_simp
            try with_reducible rfl
          try simp only [Act.put, List.setIfInBounds_toArray, List.set_cons_zero, List.set_cons_succ]
          refine wpAnyH_take (i := 10) (v := ?v132) (by simp only [List.getElem?_toArray, List.getElem?_cons_succ, List.getElem?_cons_zero]; rfl) (by kernel_rfl) (by kernel_rfl) (by kernel_rfl) (by exact fun _ _ _ h => h) (Or.inl ⟨by rfl, fun w9 hS9 => ?hy132⟩) hHeld ?rest132
          case hy132 =>
            dsimp only at hS9
            obtain ⟨z0, z1, z2, z3, z4, z5, z6, z7, z8⟩ := hS9
            go_simp
            try with_reducible rfl
          try simp only [Act.put, List.setIfInBounds_toArray, List.set_cons_zero, List.set_cons_succ]
          refine wpAnyH_take (i := 11) (v := ?v133) (by simp only [List.getElem?_toArray, List.getElem?_cons_succ, List.getElem?_cons_zero]; rfl) (by kernel_rfl) (by kernel_rfl) (by kernel_rfl) (by exact fun _ _ _ h => h) (Or.inl ⟨by rfl, fun w9 hS9 => ?hy133⟩) hHeld ?rest133
          case hy133 =>
            dsimp only at hS9
            obtain ⟨z0, z1, z2, z3, z4, z5, z6, z7, z8⟩ := hS9
            go_simp
            try with_reducible rfl
          try simp only [Act.put, List.setIfInBounds_toArray, List.set_cons_zero, List.set_cons_succ]
          refine wpAnyH_take (i := 12) (v := ?v134) (by simp only [List.getElem?_toArray, List.getElem?_cons_succ, List.getElem?_cons_zero]; rfl) (by kernel_rfl) (by kernel_rfl) (by kernel_rfl) (by exact fun _ _ _ h => h) (Or.inl ⟨by rfl, fun w9 hS9 => ?hy134⟩) hHeld ?rest134
          case hy134 =>
            dsimp only at hS9
            obtain ⟨z0, z1, z2, z3, z4, z5, z6, z7, z8⟩ := hS9
            go_simp
            try with_reducible rfl
          try simp only [Act.put, List.setIfInBounds_toArray, List.set_cons_zero, List.set_cons_succ]
          refine wpAnyH_take (i := 13) (v := ?v135) (by simp only [List.getElem?_toArray, List.getElem?_cons_succ, List.getElem?_cons_zero]; rfl) (by kernel_rfl) (by kernel_rfl) (by kernel_rfl) (by exact fun _ _ _ h => h) (Or.inl ⟨by rfl, fun w9 hS9 => ?hy135⟩) hHeld ?rest135
          case hy135 =>
            dsimp only at hS9
            obtain ⟨z0, z1, z2, z3, z4, z5, z6, z7, z8⟩ := hS9
            go_simp
            try with_reducible rfl
          try simp only [Act.put, List.setIfInBounds_toArray, List.set_cons_zero, List.set_cons_succ]
          refine wpAnyH_take (i := 14) (v := ?v136) (by simp only [List.getElem?_toArray, List.getElem?_cons_succ, List.getElem?_cons_zero]; rfl) (by kernel_rfl) (by kernel_rfl) (by kernel_rfl) (by exact fun _ _ _ h => h) (Or.inl ⟨by rfl, fun w9 hS9 => ?hy136⟩) hHeld ?rest136
          case hy136 =>
            dsimp only at hS9
            obtain ⟨z0, z1, z2, z3, z4, z5, z6, z7, z8⟩ := hS9
            go_simp
            try with_reducible rfl
          try simp only [Act.put, List.setIfInBounds_toArray, List.set_cons_zero, List.set_cons_succ]
          refine wpAnyH_take (i := 15) (v := ?v137) (by simp only [List.getElem?_toArray, List.getElem?_cons_succ, List.getElem?_cons_zero]; rfl) (by kernel_rfl) (by kernel_rfl) (by kernel_rfl) (by exact fun _ _ _ h => h) (Or.inl ⟨by rfl, fun w9 hS9 => ?hy137⟩) hHeld ?rest137
          case hy137 =>
            dsimp only at hS9
            obtain ⟨z0, z1, z2, z3, z4, z5, z6, z7, z8⟩ := hS9
            go_simp
            try with_reducible rfl
          try simp only [Act.put, List.setIfInBounds_toArray, List.set_cons_zero, List.set_cons_succ]
          refine wpAnyH_take (i := 16) (v := ?v138) (by simp only [List.getElem?_toArray, List.getElem?_cons_succ, List.getElem?_cons_zero]; rfl) (by kernel_rfl) (by kernel_rfl) (by kernel_rfl) (by exact fun _ _ _ h => h) (Or.inl ⟨by rfl, fun w9 hS9 => ?hy138⟩) hHeld ?rest138
          case hy138 =>
            dsimp only at hS9
            obtain ⟨z0, z1, z2, z3, z4, z5, z6, z7, z8⟩ := hS9
            go_simp
            try with_reducible rfl
          try simp only [Act.put, List.setIfInBounds_toArray, List.set_cons_zero, List.set_cons_succ]
          refine wpAnyH_take (i := 17) (v := ?v139) (by simp only [List.getElem?_toArray, List.getElem?_cons_succ, List.getElem?_cons_zero]; rfl) (by kernel_rfl) (by kernel_rfl) (by kernel_rfl) (by exact fun _ _ _ h => h) (Or.inl ⟨by rfl, fun w9 hS9 => ?hy139⟩) hHeld ?rest139
          case hy139 =>
            dsimp only at hS9
            obtain ⟨z0, z1, z2, z3, z4, z5, z6, z7, z8⟩ := hS9
            go_simp
            try with_reducible rfl
          try simp only [Act.put, List.setIfInBounds_toArray, List.set_cons_zero, List.set_cons_succ]
          refine wpAnyH_take (i := 18) (v := ?v140) (by simp only [List.getElem?_toArray, List.getElem?_cons_succ, List.getElem?_cons_zero]; rfl) (by kernel_rfl) (by kernel_rfl) (by kernel_rfl) (by exact fun _ _ _ h => h) (Or.inl ⟨by rfl, fun w9 hS9 => ?hy140⟩) hHeld ?rest140
          case hy140 =>
            dsimp only at hS9
            obtain ⟨z0, z1, z2, z3, z4, z5, z6, z7, z8⟩ := hS9
            go_simp
            try with_reducible rfl
          try simp only [Act.put, List.setIfInBounds_toArray, List.set_cons_zero, List.set_cons_succ]
          refine wpAnyH_take (i := 19) (v := ?v141) (by simp only [List.getElem?_toArray, List.getElem?_cons_succ, List.getElem?_cons_zero]; rfl) (by kernel_rfl) (by kernel_rfl) (by kernel_rfl) (by exact fun _ _ _ h => h) (Or.inl ⟨by rfl, fun w9 hS9 => ?hy141⟩) hHeld ?rest141
          case hy141 =>
            dsimp only at hS9
            obtain ⟨z0, z1, z2, z3, z4, z5, z6, z7, z8⟩ := hS9
            go_simp
            try with_reducible rfl
          try simp only [Act.put, List.setIfInBounds_toArray, List.set_cons_zero, List.set_cons_succ]
          refine wpAnyH_take (i := 20) (v := ?v142) (by simp only [List.getElem?_toArray, List.getElem?_cons_succ, List.getElem?_cons_zero]; rfl) (by kernel_rfl) (by kernel_rfl) (by kernel_rfl) (by exact fun _ _ _ h => h) (Or.inl ⟨by rfl, fun w9 hS9 => ?hy142⟩) hHeld ?rest142
          case hy142 =>
            dsimp only at hS9
            obtain ⟨z0, z1, z2, z3, z4, z5, z6, z7, z8⟩ := hS9
            go_simp
            try with_reducible rfl
          try simp only [Act.put, List.setIfInBounds_toArray, List.set_cons_zero, List.set_cons_succ]
          refine wpAnyH_take (i := 21) (v := ?v143) (by simp only [List.getElem?_toArray, List.getElem?_cons_succ, List.getElem?_cons_zero]; rfl) (by kernel_rfl) (by kernel_rfl) (by kernel_rfl) (by exact fun _ _ _ h => h) (Or.inl ⟨by rfl, fun w9 hS9 => ?hy143⟩) hHeld ?rest143
          case hy143 =>
            dsimp only at hS9
            obtain ⟨z0, z1, z2, z3, z4, z5, z6, z7, z8⟩ := hS9
            go_simp
            try with_reducible rfl
          try simp only [Act.put, List.setIfInBounds_toArray, List.set_cons_zero, List.set_cons_succ]
          refine wpAnyH_take (i := 22) (v := ?v144) (by simp only [List.getElem?_toArray, List.getElem?_cons_succ, List.getElem?_cons_zero]; rfl) (by kernel_rfl) (by kernel_rfl) (by kernel_rfl) (by exact fun _ _ _ h => h) (Or.inl ⟨by rfl, fun w9 hS9 => ?hy144⟩) hHeld ?rest144
          case hy144 =>
            dsimp only at hS9
            obtain ⟨z0, z1, z2, z3, z4, z5, z6, z7, z8⟩ := hS9
            go_simp
            try with_reducible rfl
          try simp only [Act.put, List.setIfInBounds_toArray, List.set_cons_zero, List.set_cons_succ]
          refine wpAnyH_take (i := 23) (v := ?v145) (by simp only [List.getElem?_toArray, List.getElem?_cons_succ, List.getElem?_cons_zero]; rfl) (by kernel_rfl) (by kernel_rfl) (by kernel_rfl) (by exact fun _ _ _ h => h) (Or.inl ⟨by rfl, fun w9 hS9 => ?hy145⟩) hHeld ?rest145
          case hy145 =>
            dsimp only at hS9
            obtain ⟨z0, z1, z2, z3, z4, z5, z6, z7, z8⟩ := hS9
            go_simp
            try with_reducible rfl
          try simp only [Act.put, List.setIfInBounds_toArray, List.set_cons_zero, List.set_cons_succ]
          refine wpAnyH_take (i := 24) (v := ?v146) (by simp only [List.getElem?_toArray, List.getElem?_cons_succ, List.getElem?_cons_zero]; rfl) (by kernel_rfl) (by kernel_rfl) (by kernel_rfl) (by exact fun _ _ _ h => h) (Or.inl ⟨by rfl, fun w9 hS9 => ?hy146⟩) hHeld ?rest146
          case hy146 =>
            dsimp only at hS9
            obtain ⟨z0, z1, z2, z3, z4, z5, z6, z7, z8⟩ := hS9
            go_simp
            try with_reducible rfl
          try simp only [Act.put, List.setIfInBounds_toArray, List.set_cons_zero, List.set_cons_succ]
          refine wpAnyH_take (i := 25) (v := ?v147) (by simp only [List.getElem?_toArray, List.getElem?_cons_succ, List.getElem?_cons_zero]; rfl) (by kernel_rfl) (by kernel_rfl) (by kernel_rfl) (by exact fun _ _ _ h => h) (Or.inl ⟨by rfl, fun w9 hS9 => ?hy147⟩) hHeld ?rest147
          case hy147 =>
            dsimp only at hS9
            obtain ⟨z0, z1, z2, z3, z4, z5, z6, z7, z8⟩ := hS9
            go_simp
            try with_reducible rfl
          try simp only [Act.put, List.setIfInBounds_toArray, List.set_cons_zero, List.set_cons_succ]
          refine wpAnyH_take (i := 26) (v := ?v148) (by simp only [List.getElem?_toArray, List.getElem?_cons_succ, List.getElem?_cons_zero]; rfl) (by kernel_rfl) (by kernel_rfl) (by kernel_rfl) (by exact fun _ _ _ h => h) (Or.inl ⟨by rfl, fun w9 hS9 => ?hy148⟩) hHeld ?rest148
          case hy148 =>
            dsimp only at hS9
            obtain ⟨z0, z1, z2, z3, z4, z5, z6, z7, z8⟩ := hS9
            go_simp
            try with_reducible rfl
          try simp only [Act.put, List.setIfInBounds_toArray, List.set_cons_zero, List.set_cons_succ]
          refine wpAnyH_take (i := 27) (v := ?v149) (by simp only [List.getElem?_toArray, List.getElem?_cons_succ, List.getElem?_cons_zero]; rfl) (by kernel_rfl) (by kernel_rfl) (by kernel_rfl) (by exact fun _ _ _ h => h) (Or.inl ⟨by rfl, fun w9 hS9 => ?hy149⟩) hHeld ?rest149
          case hy149 =>
            dsimp only at hS9
            obtain ⟨z0, z1, z2, z3, z4, z5, z6, z7, z8⟩ := hS9
            go_simp
            try with_reducible rfl
          try simp only [Act.put, List.setIfInBounds_toArray, List.set_cons_zero, List.set_cons_succ]
          refine wpAnyH_ready (rs := [28]) (by kernel_rfl) (by simp) (AllReadyH.cons (by simp only [List.getElem?_toArray, List.getElem?_cons_succ, List.getElem?_cons_zero]; rfl) (fun K hK => ?_) AllReadyH.nil)
          go_simp
          refine (HTR.out s _ (HR7.out.trans (HBd.out.mono HR7.out.size))).mono ?_
          rintro e w1 ⟨rfl, hb1⟩
          have HB1 : Hid (Below wr.heap.size wr w1) := Lib.hid (HBd.out.trans (hb1.mono HBd.out.size))
          clear hb1
          go_wp2_with fail
          refine hK.out _ _ ⟨cell_stay CA9.out.1 HB1.out, cell_stay CA9.out.2.1 HB1.out, cell_stay CA9.out.2.2.1 HB1.out, cell_stay CD9.out.1 HB1.out, cell_stay CD9.out.2.1 HB1.out, cell_stay CD9.out.2.2.1 HB1.out, cell_stay CR9.out.1 HB1.out, cell_stay CR9.out.2.1 HB1.out, cell_stay CR9.out.2.2 HB1.out⟩ (fun hHeld => ?_)
          clear hK K
          try simp only [Act.put, List.setIfInBounds_toArray, List.set_cons_zero, List.set_cons_succ]
          refine wpAnyH_take (i := 29) (v := ?v150) (by simp only [List.getElem?_toArray, List.getElem?_cons_succ, List.getElem?_cons_zero]; rfl) (by kernel_rfl) (by kernel_rfl) (by kernel_rfl) (by exact fun _ _ _ h => h) (Or.inl ⟨by rfl, fun w9 hS9 => ?hy150⟩) hHeld ?rest150
          case hy150 =>
            dsimp only at hS9
            obtain ⟨z0, z1, z2, z3, z4, z5, z6, z7, z8⟩ := hS9
            go_simp
            try with_reducible rfl
          try simp only [Act.put, List.setIfInBounds_toArray, List.set_cons_zero, List.set_cons_succ]
          refine wpAnyH_take (i := 30) (v := ?v151) (by simp only [List.getElem?_toArray, List.getElem?_cons_succ, List.getElem?_cons_zero]; rfl) (by kernel_rfl) (by kernel_rfl) (by kernel_rfl) (by exact fun _ _ _ h => h) (Or.inl ⟨by rfl, fun w9 hS9 => ?hy151⟩) hHeld ?rest151
          case hy151 =>
            dsimp only at hS9
            obtain ⟨z0, z1, z2, z3, z4, z5, z6, z7, z8⟩ := hS9
            go_simp
            try with_reducible rfl
          try simp only [Act.put, List.setIfInBounds_toArray, List.set_cons_zero, List.set_cons_succ]
          refine wpAnyH_done (by kernel_rfl) ?_ _
          obtain ⟨u1, hwv⟩ : ∃ u, u = w1 := ⟨w1, rfl⟩
          subst hwv
          have HU1 := Lib.hid HB1.out
          have HRU : Hid (Below w7.heap.size w7 u1) := Lib.hid (HR.out.trans (HB1.out.mono HR.out.size))
          obtain ⟨x0, x1, x2⟩ : _ ∧ _ ∧ _ := ⟨cell_stay CA9.out.1 HU1.out, cell_stay CA9.out.2.1 HU1.out, cell_stay CA9.out.2.2.1 HU1.out⟩
          obtain ⟨z0, z1, z2⟩ : _ ∧ _ ∧ _ := ⟨cell_stay CD9.out.1 HU1.out, cell_stay CD9.out.2.1 HU1.out, cell_stay CD9.out.2.2.1 HU1.out⟩
          obtain ⟨d0, d1, d2⟩ : _ ∧ _ ∧ _ := ⟨cell_stay CR9.out.1 HU1.out, cell_stay CR9.out.2.1 HU1.out, cell_stay CR9.out.2.2 HU1.out⟩
          go_wp2_with fail
          go_still_tail 14, (by kernel_rfl)
          have H2 : Hid (Below u1.heap.size u1 u1.drew) := Lib.hid (Below.refl _ _).drew
          change wpList _ _ _ _ _ u1.drew
          generalize u1.drew = u2 at H2 ⊢
          clear x0 x1 x2 z0 z1 z2 d0 d1 d2
          have HRU2 : Hid (Below w7.heap.size w7 u2) := Lib.hid (HRU.out.trans (H2.out.mono HRU.out.size))
          go_wp2_with fail
          refine (HNX.out s u2 (HE7.out.trans (HRU2.out.mono h67))).mono ?_
          rintro e u3 ⟨g2, m2, c2, rfl, ho2, hb2⟩
          have hcm2 := ho2.count
          have hlen2 := nextP_len a (dualM a) s s
          have hmva : a.moves.length ≤ 100 := by unfold Mac.parts at hpa; omega
          have hmvd : (dualM a).moves.length ≤ 100 := by unfold Mac.parts at hpd; omega
          have hroom2 := ho2.room
          have HO2 := Lib.hid ho2
          have HRU3 : Hid (Below w7.heap.size w7 u3) := Lib.hid (HRU2.out.trans (hb2.mono HRU2.out.size))
          have hs73 := HRU3.out.size
          clear ho2 hb2
          go_wp2_with fail
          go_loopw [10] (fun i wr => ∃ k : Nat, i = .int .i64 k ∧ k ≤ m2 ∧ Below u3.heap.size u3 wr) (fun i _ => m2 - (intOf i).toNat)
          case atStart => exact ⟨0, rfl, Nat.zero_le _, Below.refl _ _⟩
          case round =>
            obtain ⟨k, rfl, hk, hb3⟩ := hrel
            have HRR := Lib.hid hb3
            clear hb3
            by_cases hlt2 : k < m2
            · obtain ⟨r2, q, hq, hk0, hrow2, v1, v2, v3⟩ := (HO2.out.same HRR.out).at_ hlt2
              have hin := HIN.out q (List.mem_of_getElem? hq)
              have hq1 : decide (q.1 < 0) = false := decide_eq_false (by omega)
              have hq2 : decide (q.1 ≥ a.st) = false := decide_eq_false (by omega)
              have CK := Lib.hid (And.intro (three_cells (((HRU3.out.trans (HRR.out.mono hs73)).block G1 (by omega)).trans HY1.out)).1 (And.intro hk0 (two_cells hrow2).1))
              clear hq hk0 hrow2 hin
              go_wp2_with fail
              have HBd : Hid (Below wr.heap.size wr wr.drew) := Lib.hid (Below.refl _ _).drew
              refine wp_region_held_drew (S := fun w9 => w9.cell? ⟨G1, 0, none⟩ = some (.int .i64 a.st) ∧ w9.cell? ⟨g2, k, none⟩ = some (.slice (some ⟨r2, 0, none⟩) 2 2) ∧ w9.cell? ⟨r2, 0, none⟩ = some (.int .i64 q.1)) (by kernel_rfl) ⟨cell_stay CK.out.1 HBd.out, cell_stay CK.out.2.1 HBd.out, cell_stay CK.out.2.2 HBd.out⟩ (fun hHeld => ?_)
              refine wpAnyH_take (i := 0) (v := ?v104) (by simp only [List.getElem?_toArray, List.getElem?_cons_succ, List.getElem?_cons_zero]; rfl) (by kernel_rfl) (by kernel_rfl) (by kernel_rfl) (by exact fun _ _ _ h => h) (Or.inl ⟨by rfl, fun w9 hS9 => ?hy104⟩) hHeld ?rest104
              case hy104 =>
                dsimp only at hS9
                obtain ⟨z0, z1, z2⟩ := hS9
                go_simp
                try with_reducible rfl
              try simp only [Act.put, List.setIfInBounds_toArray, List.set_cons_zero, List.set_cons_succ]
              refine wpAnyH_take (i := 1) (v := ?v105) (by simp only [List.getElem?_toArray, List.getElem?_cons_succ, List.getElem?_cons_zero]; rfl) (by kernel_rfl) (by kernel_rfl) (by kernel_rfl) (by exact fun _ _ _ h => h) (Or.inl ⟨by rfl, fun w9 hS9 => ?hy105⟩) hHeld ?rest105
              case hy105 =>
                dsimp only at hS9
                obtain ⟨z0, z1, z2⟩ := hS9
                go_simp
                try with_reducible rfl
              try simp only [Act.put, List.setIfInBounds_toArray, List.set_cons_zero, List.set_cons_succ]
              refine wpAnyH_take (i := 2) (v := ?v106) (by simp only [List.getElem?_toArray, List.getElem?_cons_succ, List.getElem?_cons_zero]; rfl) (by kernel_rfl) (by kernel_rfl) (by kernel_rfl) (by exact fun _ _ _ h => h) (Or.inl ⟨by rfl, fun w9 hS9 => ?hy106⟩) hHeld ?rest106
              case hy106 =>
                dsimp only at hS9
                obtain ⟨z0, z1, z2⟩ := hS9
                go_simp
                try with_reducible rfl
              try simp only [Act.put, List.setIfInBounds_toArray, List.set_cons_zero, List.set_cons_succ]
              refine wpAnyH_take (i := 3) (v := ?v107) (by simp only [List.getElem?_toArray, List.getElem?_cons_succ, List.getElem?_cons_zero]; rfl) (by kernel_rfl) (by kernel_rfl) (by kernel_rfl) (by exact fun _ _ _ h => h) (Or.inl ⟨by rfl, fun w9 hS9 => ?hy107⟩) hHeld ?rest107
              case hy107 =>
                dsimp only at hS9
                obtain ⟨z0, z1, z2⟩ := hS9
                go_simp
                try with_reducible rfl
              try simp only [Act.put, List.setIfInBounds_toArray, List.set_cons_zero, List.set_cons_succ]
              refine wpAnyH_take (i := 4) (v := ?v108) (by simp only [List.getElem?_toArray, List.getElem?_cons_succ, List.getElem?_cons_zero]; rfl) (by kernel_rfl) (by kernel_rfl) (by kernel_rfl) (by exact fun _ _ _ h => h) (Or.inl ⟨by rfl, fun w9 hS9 => ?hy108⟩) hHeld ?rest108
              case hy108 =>
                dsimp only at hS9
                obtain ⟨z0, z1, z2⟩ := hS9
                go_simp
                try with_reducible rfl
              try simp only [Act.put, List.setIfInBounds_toArray, List.set_cons_zero, List.set_cons_succ]
              refine wpAnyH_take (i := 5) (v := ?v109) (by simp only [List.getElem?_toArray, List.getElem?_cons_succ, List.getElem?_cons_zero]; rfl) (by kernel_rfl) (by kernel_rfl) (by kernel_rfl) (by exact fun _ _ _ h => h) (Or.inl ⟨by rfl, fun w9 hS9 => ?hy109⟩) hHeld ?rest109
              case hy109 =>
                dsimp only at hS9
                obtain ⟨z0, z1, z2⟩ := hS9
                go_simp
                try with_reducible rfl
              try simp only [Act.put, List.setIfInBounds_toArray, List.set_cons_zero, List.set_cons_succ]
              refine wpAnyH_take (i := 6) (v := ?v110) (by simp only [List.getElem?_toArray, List.getElem?_cons_succ, List.getElem?_cons_zero]; rfl) (by kernel_rfl) (by kernel_rfl) (by kernel_rfl) (by exact fun _ _ _ h => h) (Or.inl ⟨by rfl, fun w9 hS9 => ?hy110⟩) hHeld ?rest110
              case hy110 =>
                dsimp only at hS9
                obtain ⟨z0, z1, z2⟩ := hS9
                go_simp
                try with_reducible rfl
              try simp only [Act.put, List.setIfInBounds_toArray, List.set_cons_zero, List.set_cons_succ]
              refine wpAnyH_take (i := 7) (v := ?v111) (by simp only [List.getElem?_toArray, List.getElem?_cons_succ, List.getElem?_cons_zero]; rfl) (by kernel_rfl) (by kernel_rfl) (by kernel_rfl) (by exact fun _ _ _ h => h) (Or.inl ⟨by rfl, fun w9 hS9 => ?hy111⟩) hHeld ?rest111
              case hy111 =>
                dsimp only at hS9
                obtain ⟨z0, z1, z2⟩ := hS9
                go_simp
                try with_reducible rfl
              try simp only [Act.put, List.setIfInBounds_toArray, List.set_cons_zero, List.set_cons_succ]
              refine wpAnyH_take (i := 8) (v := ?v112) (by simp only [List.getElem?_toArray, List.getElem?_cons_succ, List.getElem?_cons_zero]; rfl) (by kernel_rfl) (by kernel_rfl) (by kernel_rfl) (by exact fun _ _ _ h => h) (Or.inl ⟨by rfl, fun w9 hS9 => ?hy112⟩) hHeld ?rest112
              case hy112 =>
                dsimp only at hS9
                obtain ⟨z0, z1, z2⟩ := hS9
                go_simp
                try with_reducible rfl
              try simp only [Act.put, List.setIfInBounds_toArray, List.set_cons_zero, List.set_cons_succ]
              refine wpAnyH_take (i := 9) (v := ?v113) (by simp only [List.getElem?_toArray, List.getElem?_cons_succ, List.getElem?_cons_zero]; rfl) (by kernel_rfl) (by kernel_rfl) (by kernel_rfl) (by exact fun _ _ _ h => h) (Or.inl ⟨by rfl, fun w9 hS9 => ?hy113⟩) hHeld ?rest113
              case hy113 =>
                dsimp only at hS9
                obtain ⟨z0, z1, z2⟩ := hS9
                go_simp
                try with_reducible rfl
              try simp only [Act.put, List.setIfInBounds_toArray, List.set_cons_zero, List.set_cons_succ]
              refine wpAnyH_take (i := 10) (v := ?v114) (by simp only [List.getElem?_toArray, List.getElem?_cons_succ, List.getElem?_cons_zero]; rfl) (by kernel_rfl) (by kernel_rfl) (by kernel_rfl) (by exact fun _ _ _ h => h) (Or.inl ⟨by rfl, fun w9 hS9 => ?hy114⟩) hHeld ?rest114
              case hy114 =>
                dsimp only at hS9
                obtain ⟨z0, z1, z2⟩ := hS9
                go_simp
                try with_reducible rfl
              try simp only [Act.put, List.setIfInBounds_toArray, List.set_cons_zero, List.set_cons_succ]
              refine wpAnyH_take (i := 11) (v := ?v115) (by simp only [List.getElem?_toArray, List.getElem?_cons_succ, List.getElem?_cons_zero]; rfl) (by kernel_rfl) (by kernel_rfl) (by kernel_rfl) (by exact fun _ _ _ h => h) (Or.inl ⟨by rfl, fun w9 hS9 => ?hy115⟩) hHeld ?rest115
              case hy115 =>
                dsimp only at hS9
                obtain ⟨z0, z1, z2⟩ := hS9
                go_simp
                try with_reducible rfl
              try simp only [Act.put, List.setIfInBounds_toArray, List.set_cons_zero, List.set_cons_succ]
              refine wpAnyH_take (i := 12) (v := ?v116) (by simp only [List.getElem?_toArray, List.getElem?_cons_succ, List.getElem?_cons_zero]; rfl) (by kernel_rfl) (by kernel_rfl) (by kernel_rfl) (by exact fun _ _ _ h => h) (Or.inl ⟨by rfl, fun w9 hS9 => ?hy116⟩) hHeld ?rest116
              case hy116 =>
                dsimp only at hS9
                obtain ⟨z0, z1, z2⟩ := hS9
                go_simp
                try with_reducible rfl
              try simp only [Act.put, List.setIfInBounds_toArray, List.set_cons_zero, List.set_cons_succ]
              refine wpAnyH_take (i := 13) (v := ?v117) (by simp only [List.getElem?_toArray, List.getElem?_cons_succ, List.getElem?_cons_zero]; rfl) (by kernel_rfl) (by kernel_rfl) (by kernel_rfl) (by exact fun _ _ _ h => h) (Or.inl ⟨by rfl, fun w9 hS9 => ?hy117⟩) hHeld ?rest117
              case hy117 =>
                dsimp only at hS9
                obtain ⟨z0, z1, z2⟩ := hS9
                go_simp
                try with_reducible rfl
              try simp only [Act.put, List.setIfInBounds_toArray, List.set_cons_zero, List.set_cons_succ]
              refine wpAnyH_take (i := 14) (v := ?v118) (by simp only [List.getElem?_toArray, List.getElem?_cons_succ, List.getElem?_cons_zero]; rfl) (by kernel_rfl) (by kernel_rfl) (by kernel_rfl) (by exact fun _ _ _ h => h) (Or.inl ⟨by rfl, fun w9 hS9 => ?hy118⟩) hHeld ?rest118
              case hy118 =>
                dsimp only at hS9
                obtain ⟨z0, z1, z2⟩ := hS9
                go_simp
                try with_reducible rfl
              try simp only [Act.put, List.setIfInBounds_toArray, List.set_cons_zero, List.set_cons_succ]
              refine wpAnyH_take (i := 15) (v := ?v119) (by simp only [List.getElem?_toArray, List.getElem?_cons_succ, List.getElem?_cons_zero]; rfl) (by kernel_rfl) (by kernel_rfl) (by kernel_rfl) (by exact fun _ _ _ h => h) (Or.inl ⟨by rfl, fun w9 hS9 => ?hy119⟩) hHeld ?rest119
              case hy119 =>
                dsimp only at hS9
                obtain ⟨z0, z1, z2⟩ := hS9
                go_simp
                try with_reducible rfl
              try simp only [Act.put, List.setIfInBounds_toArray, List.set_cons_zero, List.set_cons_succ]
              refine wpAnyH_take (i := 16) (v := ?v120) (by simp only [List.getElem?_toArray, List.getElem?_cons_succ, List.getElem?_cons_zero]; rfl) (by kernel_rfl) (by kernel_rfl) (by kernel_rfl) (by exact fun _ _ _ h => h) (Or.inl ⟨by rfl, fun w9 hS9 => ?hy120⟩) hHeld ?rest120
              case hy120 =>
                dsimp only at hS9
                obtain ⟨z0, z1, z2⟩ := hS9
                go_simp
                try with_reducible rfl
              try simp only [Act.put, List.setIfInBounds_toArray, List.set_cons_zero, List.set_cons_succ]
              refine wpAnyH_take (i := 17) (v := ?v121) (by simp only [List.getElem?_toArray, List.getElem?_cons_succ, List.getElem?_cons_zero]; rfl) (by kernel_rfl) (by kernel_rfl) (by kernel_rfl) (by exact fun _ _ _ h => h) (Or.inl ⟨by rfl, fun w9 hS9 => ?hy121⟩) hHeld ?rest121
              case hy121 =>
                dsimp only at hS9
                obtain ⟨z0, z1, z2⟩ := hS9
                go_simp
                try with_reducible rfl
              try simp only [Act.put, List.setIfInBounds_toArray, List.set_cons_zero, List.set_cons_succ]
              refine wpAnyH_done (by kernel_rfl) ?_ _
              go_wp2_with fail
              go_roundw
              case rel => exact ⟨k + 1, by go_num, by omega, HRR.out.trans (HBd.out.mono HRR.out.size)⟩
              case measure => simp [intOf]; omega
            · obtain rfl : k = m2 := by omega
              have hs9 := HRR.out.size
              go_wp2_with fail
              go_roundw
              case rel => exact ⟨j + 1, by go_num, by omega, HRU3.out.trans (HRR.out.mono hs73)⟩
              case measure => simp [intOf]; omega

        · obtain rfl : j = m := by omega
          have HR2 : Hid (Below W2.heap.size W2 wr) := Lib.hid (HD7.out.trans (HR.out.mono HD7.out.size))
          have HBR : Hid (Below w.heap.size w wr) := Lib.hid (HB7.out.trans (HR.out.mono HB7.out.size))
          obtain ⟨x0, x1, x2, -⟩ := three_cells ((HR.out.block G1 (by omega)).trans HY1.out)
          go_wp2_with fail
          clear x0 x1 x2
          refine (HIA.out wr HR2.out).mono ?_
          rintro e v1 ⟨rfl, hz⟩
          have HV1 := Lib.hid (HR2.out.trans (hz.mono HR2.out.size))
          have HW1 := Lib.hid (HBR.out.trans (hz.mono HBR.out.size))
          have HZ1 := Lib.hid hz
          clear hz
          cases qa9 : isMac a with
          | false =>
            go_wp2_with fail
            go_ret
            exact ⟨rfl, HW1.out⟩
          | true =>
            obtain ⟨y0, y1, y2, -⟩ := three_cells ((HZ1.out.block G2 (by have := HR.out.size; omega)).trans ((HR.out.block G2 (by omega)).trans HY2.out))
            go_wp2_with fail
            clear y0 y1 y2
            refine (HIB.out v1 HV1.out).mono ?_
            rintro e v2 ⟨rfl, hz⟩
            have HV2 := Lib.hid (HV1.out.trans (hz.mono HV1.out.size))
            have HW2 := Lib.hid (HW1.out.trans (hz.mono HW1.out.size))
            have HZ2 := Lib.hid (HZ1.out.trans (hz.mono HZ1.out.size))
            clear hz
            cases qb9 : isMac b with
            | false =>
              go_wp2_with fail
              go_ret
              exact ⟨rfl, HW2.out⟩
            | true =>
              have HROW := Lib.hid (unsafe_row HSF.out qa9 qb9)
              obtain ⟨x0, x1, x2, -⟩ := three_cells ((HZ2.out.block G1 (by have := HR.out.size; omega)).trans ((HR.out.block G1 (by omega)).trans HY1.out))
              obtain ⟨y0, y1, y2, -⟩ := three_cells ((HZ2.out.block G2 (by have := HR.out.size; omega)).trans ((HR.out.block G2 (by omega)).trans HY2.out))
              go_wp2_with fail
              clear x0 x1 x2 y0 y1 y2
              refine (HFT.out v2 HV2.out).mono ?_
              rintro e v3 ⟨a9, n9, c9, rfl, ho9, hz⟩
              obtain rfl : n9 = 2 := by rw [← ho9.len]; exact HROW.out
              have HW3 := Lib.hid (HW2.out.trans (hz.mono HW2.out.size))
              clear ho9 hz
              go_wp2_with fail
              go_ret
              exact ⟨rfl, HW3.out⟩

set_option maxRecDepth 100000 in
theorem lifted (os : Os) (started : os.Started) (H : Type) (enc : TypeId × Value → H) :
    ReturnsInHanded {} Try.checked os 3 .any (Rows.fnPairsSpec.pre6 enc Try.prog Try.f3 Rows.fnPairsRow.domain false) (Rows.fnPairsSpec.post enc Try.prog Try.f3 false true false false) := by
  refine returnsInHanded_of_change (C := Try.checked) own started (by kernel_rfl) Try.func3
    (ChangeSpec.witness6 (enc := enc) (C := Try.checked) false ⟨#[], #[.slice none 0 0], []⟩ 8 (by kernel_rfl) (by kernel_rfl) (by kernel_rfl) (by kernel_rfl)) ?_
  intro W base args ds gs before hval0 hW hcnd _
  have hval : ∀ (j : Nat) t v, Try.f3.params[j]? = some t → args[j]? = some v → Value.okWide Try.prog W .any base t v := hval0
  have hW' := hW
  obtain ⟨p, q, hA0, hV, rfl, hfz, hnd⟩ := hW
  have hA : DataW.TrodAll enc Try.prog W 0 (fun _ => true) true Try.f3.params.toList args.toList ds p := hA0
  rw [Try.params3] at hA hval
  obtain ⟨v0, vs0, d0, ds0, p0, q0, hargs, rfl, rfl, h0, r0⟩ := trodAll_cons hA
  obtain ⟨rfl, rfl, rfl⟩ := trodAll_nil r0
  obtain rfl : args = #[v0] := by cases args; simp_all
  obtain ⟨rfl, rfl⟩ := trodVars_none hV
  have h0k := h0
  have hlt0 : ∀ x ∈ p0, x.block < W.heap.size := fun x hx => by simpa using hW'.lt x (by simp [hx])
  obtain ⟨a0, n0, c0, l0, rfl, K0, F0, R0⟩ := open_nums Try.underlying22 Try.underlying5 byte_cells (hval 0 22 v0 rfl rfl) h0
  clear hA0 hval0
  simp only [List.append_nil] at hW'
  refine (walk a0 n0 c0 l0 W K0 F0 R0).mono fun e W' ⟨he, hb⟩ => ?_
  subst he
  exact ⟨_, rfl, ⟨_, _, _, [], _, [], hW', (trodAll_cons_mk (shut_bool Try.underlying4 _) trodAll_mk0), (trodAll_cons_mk (Below.trod laidOut (by kernel_rfl) (of_decide_eq_true (by kernel_rfl)) h0k hb hlt0) trodAll_mk0), rfl, hb.frame _, fun h => by cases h⟩⟩

theorem over : Rows.fnPairsRow.holds Try.pinned (OpenSpec.ofChange Rows.fnPairsSpec) :=
  OpenClaim.holds_of_wide 3 Try.f3 rfl rfl rfl rfl rfl rfl rfl ⟨rfl, rfl, rfl, rfl, rfl⟩ rfl rfl rfl rfl rfl (by kernel_rfl) Try.func3 (by kernel_rfl)
    (of_decide_eq_true (by kernel_rfl)) (by unfold Func.isWrapper; first | (rw [if_pos (by decide +kernel)]; kernel_rfl) | (rw [if_neg (by decide +kernel)]; exact ⟨rfl, rfl⟩))
    (fun os started H enc _ => lifted os started H enc)

theorem proved : Rows.FnPairsSaid :=
  over
end Go.Proofs.Ytckmgbobkffabaa.fnPairs
