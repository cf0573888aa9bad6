/- For every input of bytes: a hello is read as it was written, what is read is written so again, and an answer has the greatest common version and only tags that were offered and asked for, none of them reserved. -/
import Derived.Test.YtcpnchjgklemgaaG2
import Derived.Test.YtcpnchjgklemgaaG21
import Derived.Test.YtcpnchjgklemgaaG22
import Derived.Test.YtcpnchjgklemgaaG24
import Derived.Test.YtcpnchjgklemgaaG1
import Derived.WalkKit
import Derived.Deep.RegionHeld3
import Derived.ProofKit
import Derived.OpenShut
namespace Go.Proofs.Ytcpnchjgklemgaa.fnHellos
open Go.ChangeShapes Go.WideShapes Go.ChangeAt Go.RowKit Go.Lib
open Go.ChangeMaps (open_string shut_string)
set_option linter.unusedVariables false

theorem own : ownKnob Try.prog.godebug = none := by kernel_rfl
set_option linter.unusedSimpArgs false
theorem eqH_self {x : Hel} : eqH x x = true := by unfold eqH; rw [eqD_yes rfl, eqD_yes rfl]; rfl
theorem read_none {x : Hel} (h : isH x = false) : rdHel (helB x) = ⟨[], []⟩ ∧ rdOk (helB x) = false := by
  rw [helB_no h]
  exact rdH_none rfl
theorem rd_back {y : List Int} (h : rdOk y = true) : helB (rdHel y) = y := by
  unfold rdOk at h
  cases e : rdH y with
  | none => rw [e] at h; cases h
  | some x =>
    rw [(rdH_some e).1]
    obtain ⟨h1, h2⟩ := rdH_iff.1 e
    rw [helB_yes h1, h2]
theorem told_true {f : Nat} {args : Array Value} {b : Bool} {w : World} (hb : b = true) (h : Calls Try.prog f args w (Told (.bool b) w)) : Calls Try.prog f args w (Told (.bool true) w) := hb ▸ h
theorem told_num {f : Nat} {args : Array Value} {k B : Nat} {w : World} (hb : k = B) (h : Calls Try.prog f args w fun e w' => e = .returned (.int .i64 (k : Int)) ∧ w = w') : Calls Try.prog f args w (Told (.int .i64 (B : Int)) w) := hb ▸ told_is h

set_option maxHeartbeats 40000000 in
set_option maxRecDepth 100000 in
theorem walk (a0 : Option Addr) (n0 c0 : Nat) (l0 : List Int) (w : World) (K0 : Nums .u8 w a0 n0 l0) (F0 : ∀ x ∈ l0, (Lit.int .u8 x).wf = true) (R0 : n0 ≤ c0 ∧ (c0 : Int) ≤ 9223372036854775807) :
    Calls Try.prog 3 #[.slice a0 n0 c0] w fun e w' => e = .returned (.bool true) ∧ Below w.heap.size w w' := by
  have HK0 := Lib.hid K0
  have HF := Lib.hid (bs_of_wf F0)
  have hfit := K0.fits
  clear K0 F0 R0
  by_cases hbig : 1048576 < n0
  · go_enter Try.func3, Try.ntmps3
    go_wp2_with fail
    refine (big_yes a0 n0 c0 hfit hbig _).mono ?_
    rintro e w1 ⟨rfl, rfl⟩
    go_wp2_with fail
    go_ret
    exact ⟨rfl, Below.refl _ _⟩
  have HC := Lib.hid (code_of HK0.out HF.out)
  have HB := Lib.hid (Below.refl w.heap.size w)
  go_enter Try.func3, Try.ntmps3
  go_wp2_with fail
  refine (big_no a0 n0 c0 hfit hbig _).mono ?_
  rintro e w1 ⟨rfl, rfl⟩
  clear hfit hbig HK0 HF
  go_wp2_with fail
  have hcall := drawHelloBytes_any a0 n0 c0 _ HC.out
  unfold DrawnH at hcall
  refine hcall.mono ?_
  rintro e w_1 ⟨v20, x, rfl, ho, hb⟩
  clear hcall
  have hs1 : w.heap.size ≤ w_1.heap.size := hb.size
  replace HC := Lib.hid (HC.out.same hb)
  replace HB := Lib.hid (HB.out.trans (hb.mono HB.out.size))
  have HN20 := Lib.hid ho
  clear ho
  clear hb
  have HO20 := HN20
  clear HN20
  obtain ⟨a20, n20, c20, b20, m20, d20, rfl⟩ := HO20.out.shape
  rcases (isH x).eq_false_or_eq_true with hx | hx
  · have HE := Lib.hid (rdH_some (rdH_iff.2 ⟨hx, helB_yes hx⟩))
    have HX9 := Lib.hid hx
    clear hx
    have HAL := Lib.hid (alloc_same w_1 (.cells #[.slice a20 n20 c20, .slice b20 m20 d20] 27))
    have HX20 := Lib.hid (heap_alloc_new w_1 (.cells #[.slice a20 n20 c20, .slice b20 m20 d20] 27 (0, 0)))
    change Hid ((World.alloc w_1 (.cells #[.slice a20 n20 c20, .slice b20 m20 d20] 27)).heap[w_1.heap.size]? = _) at HX20
    replace HO20 := Lib.hid (HO20.out.same HAL.out)
    replace HC := Lib.hid (HC.out.same HAL.out)
    replace HB := Lib.hid (HB.out.trans (HAL.out.mono HB.out.size))
    have hs2 : w_1.heap.size < (World.alloc w_1 (.cells #[.slice a20 n20 c20, .slice b20 m20 d20] 27)).heap.size := by simp
    obtain ⟨ea20, eb20, -⟩ := two_cells HX20.out
    clear HAL
    go_wp2_with fail
    clear ea20 eb20
    generalize hgen : World.alloc w_1 (.cells #[.slice a20 n20 c20, .slice b20 m20 d20] 27) = w_2 at *
    clear hgen
    have hcall := helloBytes_any HO20.out.hel
    refine hcall.mono ?_
    rintro e w_3 ⟨b21, m21, d21, rfl, ho, hb⟩
    clear hcall
    have hm21 : m21 ≤ 1000000000 := by have hl := ho.len; have := helB_few x; omega
    have HN21 := Lib.hid ho
    have HS21 := Lib.hid ho.span
    have hs3 : w_2.heap.size ≤ w_3.heap.size := hb.size
    replace HO20 := Lib.hid (HO20.out.same hb)
    replace HX20 := Lib.hid (((hb).block _ (by omega)).trans HX20.out)
    replace HC := Lib.hid (HC.out.same hb)
    replace HB := Lib.hid (HB.out.trans (hb.mono HB.out.size))
    clear ho
    clear hb
    have HO21 := HN21
    clear HN21
    obtain ⟨ea20, eb20, -⟩ := two_cells HX20.out
    go_wp2_with fail
    clear ea20 eb20
    have hcall := readHello_any HO21.out.nums HO21.out.room (by omega)
    rw [HE.out.1, HE.out.2] at hcall
    refine hcall.mono ?_
    rintro e w_4 ⟨v22, rfl, ho, hb⟩
    clear hcall
    have HN22 := Lib.hid ho
    have hs4 : w_3.heap.size ≤ w_4.heap.size := hb.size
    replace HO20 := Lib.hid (HO20.out.same hb)
    replace HO21 := Lib.hid (HO21.out.same hb)
    replace HX20 := Lib.hid (((hb).block _ (by omega)).trans HX20.out)
    replace HC := Lib.hid (HC.out.same hb)
    replace HB := Lib.hid (HB.out.trans (hb.mono HB.out.size))
    clear ho
    clear hb
    have HO22 := HN22
    clear HN22
    obtain ⟨a22, n22, c22, b22, m22, d22, rfl⟩ := HO22.out.shape
    have HAL := Lib.hid (alloc_same w_4 (.cells #[.slice a22 n22 c22, .slice b22 m22 d22] 27))
    have HX22 := Lib.hid (heap_alloc_new w_4 (.cells #[.slice a22 n22 c22, .slice b22 m22 d22] 27 (0, 0)))
    change Hid ((World.alloc w_4 (.cells #[.slice a22 n22 c22, .slice b22 m22 d22] 27)).heap[w_4.heap.size]? = _) at HX22
    replace HO20 := Lib.hid (HO20.out.same HAL.out)
    replace HO21 := Lib.hid (HO21.out.same HAL.out)
    replace HO22 := Lib.hid (HO22.out.same HAL.out)
    replace HX20 := Lib.hid (((HAL.out).block _ (by omega)).trans HX20.out)
    replace HC := Lib.hid (HC.out.same HAL.out)
    replace HB := Lib.hid (HB.out.trans (HAL.out.mono HB.out.size))
    have hs5 : w_4.heap.size < (World.alloc w_4 (.cells #[.slice a22 n22 c22, .slice b22 m22 d22] 27)).heap.size := by simp
    obtain ⟨ea20, eb20, -⟩ := two_cells HX20.out
    obtain ⟨ea22, eb22, -⟩ := two_cells HX22.out
    clear HAL
    go_wp2_with fail
    clear ea20 eb20 ea22 eb22
    generalize hgen : World.alloc w_4 (.cells #[.slice a22 n22 c22, .slice b22 m22 d22] 27) = w_5 at *
    clear hgen
    have hcall := isHello_any HO20.out.hel
    rw [HX9.out] at hcall
    refine hcall.mono ?_
    rintro e w_6 ⟨rfl, hb⟩
    clear hcall
    have hs6 : w_5.heap.size ≤ w_6.heap.size := hb.size
    replace HO20 := Lib.hid (HO20.out.same hb)
    replace HO21 := Lib.hid (HO21.out.same hb)
    replace HO22 := Lib.hid (HO22.out.same hb)
    replace HX20 := Lib.hid (((hb).block _ (by omega)).trans HX20.out)
    replace HX22 := Lib.hid (((hb).block _ (by omega)).trans HX22.out)
    replace HC := Lib.hid (HC.out.same hb)
    replace HB := Lib.hid (HB.out.trans (hb.mono HB.out.size))
    clear hb
    obtain ⟨ea20, eb20, -⟩ := two_cells HX20.out
    obtain ⟨ea22, eb22, -⟩ := two_cells HX22.out
    go_wp2_with fail
    clear ea20 eb20 ea22 eb22
    have hcall := specIsHello_any HO20.out.hel
    rw [HX9.out] at hcall
    refine hcall.mono ?_
    rintro e w_7 ⟨rfl, hb⟩
    clear hcall
    have hs7 : w_6.heap.size ≤ w_7.heap.size := hb.size
    replace HO20 := Lib.hid (HO20.out.same hb)
    replace HO21 := Lib.hid (HO21.out.same hb)
    replace HO22 := Lib.hid (HO22.out.same hb)
    replace HX20 := Lib.hid (((hb).block _ (by omega)).trans HX20.out)
    replace HX22 := Lib.hid (((hb).block _ (by omega)).trans HX22.out)
    replace HC := Lib.hid (HC.out.same hb)
    replace HB := Lib.hid (HB.out.trans (hb.mono HB.out.size))
    clear hb
    obtain ⟨ea20, eb20, -⟩ := two_cells HX20.out
    obtain ⟨ea22, eb22, -⟩ := two_cells HX22.out
    go_wp2_with fail
    clear ea20 eb20 ea22 eb22
    have hcall := equalHellos_any HO22.out.hel HO20.out.hel
    rw [eqH_self] at hcall
    refine hcall.mono ?_
    rintro e w_8 ⟨rfl, hb⟩
    clear hcall
    have hs8 : w_7.heap.size ≤ w_8.heap.size := hb.size
    replace HO20 := Lib.hid (HO20.out.same hb)
    replace HO21 := Lib.hid (HO21.out.same hb)
    replace HO22 := Lib.hid (HO22.out.same hb)
    replace HX20 := Lib.hid (((hb).block _ (by omega)).trans HX20.out)
    replace HX22 := Lib.hid (((hb).block _ (by omega)).trans HX22.out)
    replace HC := Lib.hid (HC.out.same hb)
    replace HB := Lib.hid (HB.out.trans (hb.mono HB.out.size))
    clear hb
    clear HO21 HO22 HO20 HE HX9
    obtain ⟨ea20, eb20, -⟩ := two_cells HX20.out
    obtain ⟨ea22, eb22, -⟩ := two_cells HX22.out
    go_wp2_with fail
    clear ea20 eb20 ea22 eb22
    have hcall := drawReadHello_any a0 n0 c0 _ HC.out
    refine hcall.mono ?_
    rintro e w_9 ⟨q2, m2, d2, y, rfl, hy, hm60, hb⟩
    clear hcall
    have hs9 : w_8.heap.size ≤ w_9.heap.size := hb.size
    replace HX20 := Lib.hid (((hb).block _ (by omega)).trans HX20.out)
    replace HX22 := Lib.hid (((hb).block _ (by omega)).trans HX22.out)
    replace HC := Lib.hid (HC.out.same hb)
    replace HB := Lib.hid (HB.out.trans (hb.mono HB.out.size))
    have HY := Lib.hid hy.nums
    have hroom := hy.room
    clear hy
    clear hb
    rcases (rdOk y).eq_false_or_eq_true with hok | hok
    · have HR := Lib.hid (rd_back hok)
      obtain ⟨ea20, eb20, -⟩ := two_cells HX20.out
      obtain ⟨ea22, eb22, -⟩ := two_cells HX22.out
      go_wp2_with fail
      clear ea20 eb20 ea22 eb22
      have hcall := readHello_any HY.out hroom (by omega)
      rw [hok] at hcall
      refine hcall.mono ?_
      rintro e w_10 ⟨v23, rfl, ho, hb⟩
      clear hcall
      have HN23 := Lib.hid ho
      have hs10 : w_9.heap.size ≤ w_10.heap.size := hb.size
      replace HX20 := Lib.hid (((hb).block _ (by omega)).trans HX20.out)
      replace HX22 := Lib.hid (((hb).block _ (by omega)).trans HX22.out)
      replace HC := Lib.hid (HC.out.same hb)
      replace HY := Lib.hid (HY.out.same hb)
      replace HB := Lib.hid (HB.out.trans (hb.mono HB.out.size))
      clear ho
      clear hb
      have HO23 := HN23
      clear HN23
      obtain ⟨a23, n23, c23, b23, m23, d23, rfl⟩ := HO23.out.shape
      have HAL := Lib.hid (alloc_same w_10 (.cells #[.slice a23 n23 c23, .slice b23 m23 d23] 27))
      have HX23 := Lib.hid (heap_alloc_new w_10 (.cells #[.slice a23 n23 c23, .slice b23 m23 d23] 27 (0, 0)))
      change Hid ((World.alloc w_10 (.cells #[.slice a23 n23 c23, .slice b23 m23 d23] 27)).heap[w_10.heap.size]? = _) at HX23
      replace HO23 := Lib.hid (HO23.out.same HAL.out)
      replace HX20 := Lib.hid (((HAL.out).block _ (by omega)).trans HX20.out)
      replace HX22 := Lib.hid (((HAL.out).block _ (by omega)).trans HX22.out)
      replace HC := Lib.hid (HC.out.same HAL.out)
      replace HY := Lib.hid (HY.out.same HAL.out)
      replace HB := Lib.hid (HB.out.trans (HAL.out.mono HB.out.size))
      have hs11 : w_10.heap.size < (World.alloc w_10 (.cells #[.slice a23 n23 c23, .slice b23 m23 d23] 27)).heap.size := by simp
      obtain ⟨ea20, eb20, -⟩ := two_cells HX20.out
      obtain ⟨ea22, eb22, -⟩ := two_cells HX22.out
      obtain ⟨ea23, eb23, -⟩ := two_cells HX23.out
      clear HAL
      go_wp2_with fail
      clear ea20 eb20 ea22 eb22 ea23 eb23
      generalize hgen : World.alloc w_10 (.cells #[.slice a23 n23 c23, .slice b23 m23 d23] 27) = w_11 at *
      clear hgen
      have hcall := helloBytes_any HO23.out.hel
      rw [HR.out] at hcall
      refine hcall.mono ?_
      rintro e w_12 ⟨b24, m24, d24, rfl, ho, hb⟩
      clear hcall
      have hm24 : m24 ≤ 1000000000 := by have hl := ho.len; have := HY.out.len; omega
      have HN24 := Lib.hid ho
      have HS24 := Lib.hid ho.span
      have hs12 : w_11.heap.size ≤ w_12.heap.size := hb.size
      replace HO23 := Lib.hid (HO23.out.same hb)
      replace HX20 := Lib.hid (((hb).block _ (by omega)).trans HX20.out)
      replace HX22 := Lib.hid (((hb).block _ (by omega)).trans HX22.out)
      replace HX23 := Lib.hid (((hb).block _ (by omega)).trans HX23.out)
      replace HC := Lib.hid (HC.out.same hb)
      replace HY := Lib.hid (HY.out.same hb)
      replace HB := Lib.hid (HB.out.trans (hb.mono HB.out.size))
      clear ho
      clear hb
      have HO24 := HN24
      clear HN24
      obtain ⟨ea20, eb20, -⟩ := two_cells HX20.out
      obtain ⟨ea22, eb22, -⟩ := two_cells HX22.out
      obtain ⟨ea23, eb23, -⟩ := two_cells HX23.out
      go_wp2_with fail
      clear ea20 eb20 ea22 eb22 ea23 eb23
      have hcall := equalInts_yes (c := d24) (d := d2) HO24.out.nums HY.out
      refine hcall.mono ?_
      rintro e w_13 ⟨rfl, hb⟩
      clear hcall
      have hs13 : w_12.heap.size ≤ w_13.heap.size := hb.size
      replace HO23 := Lib.hid (HO23.out.same hb)
      replace HO24 := Lib.hid (HO24.out.same hb)
      replace HX20 := Lib.hid (((hb).block _ (by omega)).trans HX20.out)
      replace HX22 := Lib.hid (((hb).block _ (by omega)).trans HX22.out)
      replace HX23 := Lib.hid (((hb).block _ (by omega)).trans HX23.out)
      replace HC := Lib.hid (HC.out.same hb)
      replace HY := Lib.hid (HY.out.same hb)
      replace HB := Lib.hid (HB.out.trans (hb.mono HB.out.size))
      clear hb
      clear HO23 HO24 HR hok
      obtain ⟨ea20, eb20, -⟩ := two_cells HX20.out
      obtain ⟨ea22, eb22, -⟩ := two_cells HX22.out
      obtain ⟨ea23, eb23, -⟩ := two_cells HX23.out
      go_wp2_with fail
      clear ea20 eb20 ea22 eb22 ea23 eb23
      have hcall := drawChooseAnswer_any a0 n0 c0 _ HC.out
      refine hcall.mono ?_
      rintro e w_14 ⟨p1, k1, r1, vs, q1, t1, d1, ts, v90, z, rfl, hvs, hk6, hts, ht4, htw, hz, hb⟩
      clear hcall
      have hs14 : w_13.heap.size ≤ w_14.heap.size := hb.size
      replace HX20 := Lib.hid (((hb).block _ (by omega)).trans HX20.out)
      replace HX22 := Lib.hid (((hb).block _ (by omega)).trans HX22.out)
      replace HX23 := Lib.hid (((hb).block _ (by omega)).trans HX23.out)
      replace HC := Lib.hid (HC.out.same hb)
      replace HY := Lib.hid (HY.out.same hb)
      replace HB := Lib.hid (HB.out.trans (hb.mono HB.out.size))
      have HV := Lib.hid hvs
      have HT := Lib.hid hts
      have HW := Lib.hid htw
      have HZ := Lib.hid hz
      clear hvs hts htw hz
      clear hb
      obtain ⟨a90, n90, c90, b90, m90, d90, rfl⟩ := HZ.out.shape
      obtain ⟨o, hch⟩ : ∃ o, chA vs ts z = o := ⟨_, rfl⟩
      cases o with
      | none =>
        obtain ⟨A, hA⟩ : ∃ A : Ans, A = ⟨0, []⟩ := ⟨_, rfl⟩
        skip
        have HE := Lib.hid (chA_none hch)
        clear hch
        have HAL := Lib.hid (alloc_same w_14 (.cells #[.slice a90 n90 c90, .slice b90 m90 d90] 27))
        have HXz := Lib.hid (heap_alloc_new w_14 (.cells #[.slice a90 n90 c90, .slice b90 m90 d90] 27 (0, 0)))
        change Hid ((World.alloc w_14 (.cells #[.slice a90 n90 c90, .slice b90 m90 d90] 27)).heap[w_14.heap.size]? = _) at HXz
        replace HX20 := Lib.hid (((HAL.out).block _ (by omega)).trans HX20.out)
        replace HX22 := Lib.hid (((HAL.out).block _ (by omega)).trans HX22.out)
        replace HX23 := Lib.hid (((HAL.out).block _ (by omega)).trans HX23.out)
        replace HC := Lib.hid (HC.out.same HAL.out)
        replace HY := Lib.hid (HY.out.same HAL.out)
        replace HV := Lib.hid (HV.out.same HAL.out)
        replace HT := Lib.hid (HT.out.same HAL.out)
        replace HZ := Lib.hid (HZ.out.same HAL.out)
        replace HB := Lib.hid (HB.out.trans (HAL.out.mono HB.out.size))
        have hs15 : w_14.heap.size < (World.alloc w_14 (.cells #[.slice a90 n90 c90, .slice b90 m90 d90] 27)).heap.size := by simp
        obtain ⟨ea20, eb20, -⟩ := two_cells HX20.out
        obtain ⟨ea22, eb22, -⟩ := two_cells HX22.out
        obtain ⟨ea23, eb23, -⟩ := two_cells HX23.out
        obtain ⟨eaz, ebz, -⟩ := two_cells HXz.out
        clear HAL
        go_wp2_with fail
        clear ea20 eb20 ea22 eb22 ea23 eb23 eaz ebz
        generalize hgen : World.alloc w_14 (.cells #[.slice a90 n90 c90, .slice b90 m90 d90] 27) = w_15 at *
        clear hgen
        have hcall := chooseAnswer_any (c := r1) (d := d1) HV.out HT.out HZ.out HW.out (by omega) (by omega)
        rw [HE.out.1, HE.out.2, ← hA] at hcall
        refine hcall.mono ?_
        rintro e w_16 ⟨v25, rfl, ho, hb⟩
        clear hcall
        have HN25 := Lib.hid ho
        have hs16 : w_15.heap.size ≤ w_16.heap.size := hb.size
        replace HX20 := Lib.hid (((hb).block _ (by omega)).trans HX20.out)
        replace HX22 := Lib.hid (((hb).block _ (by omega)).trans HX22.out)
        replace HX23 := Lib.hid (((hb).block _ (by omega)).trans HX23.out)
        replace HXz := Lib.hid (((hb).block _ (by omega)).trans HXz.out)
        replace HC := Lib.hid (HC.out.same hb)
        replace HY := Lib.hid (HY.out.same hb)
        replace HV := Lib.hid (HV.out.same hb)
        replace HT := Lib.hid (HT.out.same hb)
        replace HZ := Lib.hid (HZ.out.same hb)
        replace HB := Lib.hid (HB.out.trans (hb.mono HB.out.size))
        clear ho
        clear hb
        have HO25 := HN25
        clear HN25
        obtain ⟨b25, m25, d25, rfl⟩ := HO25.out.shape
        have hver : (A.ver == 0) = true := by rw [hA]; rfl
        have hlen : ((m25 : Int) == 0) = true := by
          have h9 := HO25.out.ans
          obtain ⟨b9, m9, d9, e9, h9, -⟩ := h9
          have h8 := h9.len
          rw [hA] at h8
          injection e9 with e9
          have h7 : Value.slice b25 m25 d25 = .slice b9 m9 d9 := by simpa using e9
          injection h7 with _ h6 _
          rw [h6, ← h8]
          rfl
        clear hA HE
        have HAL := Lib.hid (alloc_same w_16 (.cells #[.int .i64 A.ver, .slice b25 m25 d25] 39))
        have HX25 := Lib.hid (heap_alloc_new w_16 (.cells #[.int .i64 A.ver, .slice b25 m25 d25] 39 (0, 0)))
        change Hid ((World.alloc w_16 (.cells #[.int .i64 A.ver, .slice b25 m25 d25] 39)).heap[w_16.heap.size]? = _) at HX25
        replace HO25 := Lib.hid (HO25.out.same HAL.out)
        replace HX20 := Lib.hid (((HAL.out).block _ (by omega)).trans HX20.out)
        replace HX22 := Lib.hid (((HAL.out).block _ (by omega)).trans HX22.out)
        replace HX23 := Lib.hid (((HAL.out).block _ (by omega)).trans HX23.out)
        replace HXz := Lib.hid (((HAL.out).block _ (by omega)).trans HXz.out)
        replace HC := Lib.hid (HC.out.same HAL.out)
        replace HY := Lib.hid (HY.out.same HAL.out)
        replace HV := Lib.hid (HV.out.same HAL.out)
        replace HT := Lib.hid (HT.out.same HAL.out)
        replace HZ := Lib.hid (HZ.out.same HAL.out)
        replace HB := Lib.hid (HB.out.trans (HAL.out.mono HB.out.size))
        have hs17 : w_16.heap.size < (World.alloc w_16 (.cells #[.int .i64 A.ver, .slice b25 m25 d25] 39)).heap.size := by simp
        obtain ⟨ea20, eb20, -⟩ := two_cells HX20.out
        obtain ⟨ea22, eb22, -⟩ := two_cells HX22.out
        obtain ⟨ea23, eb23, -⟩ := two_cells HX23.out
        obtain ⟨eaz, ebz, -⟩ := two_cells HXz.out
        obtain ⟨ea25, eb25, -⟩ := two_cells HX25.out
        clear HAL
        go_wp2_with fail
        clear ea20 eb20 ea22 eb22 ea23 eb23 eaz ebz ea25 eb25
        generalize hgen : World.alloc w_16 (.cells #[.int .i64 A.ver, .slice b25 m25 d25] 39) = w_17 at *
        clear hgen
        go_ret
        exact ⟨rfl, HB.out⟩
      | some A =>
        skip
        have HE := Lib.hid (chA_some hch)
        obtain ⟨hf1, hf2, hf3, hf4⟩ := ch_fits hch
        have HF4 := Lib.hid hf4
        have HF3 := Lib.hid hf3
        have HF1 := Lib.hid hf1
        have hfew := chAns_few vs ts z
        rw [HE.out.1] at hfew
        clear hch hf1 hf3 hf4
        obtain ⟨B, hB⟩ : ∃ B : Nat, best vs z.vers = B := ⟨_, rfl⟩
        rw [hB] at hf2
        have HBE := Lib.hid (And.intro hB hf2)
        clear hB hf2
        have HAL := Lib.hid (alloc_same w_14 (.cells #[.slice a90 n90 c90, .slice b90 m90 d90] 27))
        have HXz := Lib.hid (heap_alloc_new w_14 (.cells #[.slice a90 n90 c90, .slice b90 m90 d90] 27 (0, 0)))
        change Hid ((World.alloc w_14 (.cells #[.slice a90 n90 c90, .slice b90 m90 d90] 27)).heap[w_14.heap.size]? = _) at HXz
        replace HX20 := Lib.hid (((HAL.out).block _ (by omega)).trans HX20.out)
        replace HX22 := Lib.hid (((HAL.out).block _ (by omega)).trans HX22.out)
        replace HX23 := Lib.hid (((HAL.out).block _ (by omega)).trans HX23.out)
        replace HC := Lib.hid (HC.out.same HAL.out)
        replace HY := Lib.hid (HY.out.same HAL.out)
        replace HV := Lib.hid (HV.out.same HAL.out)
        replace HT := Lib.hid (HT.out.same HAL.out)
        replace HZ := Lib.hid (HZ.out.same HAL.out)
        replace HB := Lib.hid (HB.out.trans (HAL.out.mono HB.out.size))
        have hs15 : w_14.heap.size < (World.alloc w_14 (.cells #[.slice a90 n90 c90, .slice b90 m90 d90] 27)).heap.size := by simp
        obtain ⟨ea20, eb20, -⟩ := two_cells HX20.out
        obtain ⟨ea22, eb22, -⟩ := two_cells HX22.out
        obtain ⟨ea23, eb23, -⟩ := two_cells HX23.out
        obtain ⟨eaz, ebz, -⟩ := two_cells HXz.out
        clear HAL
        go_wp2_with fail
        clear ea20 eb20 ea22 eb22 ea23 eb23 eaz ebz
        generalize hgen : World.alloc w_14 (.cells #[.slice a90 n90 c90, .slice b90 m90 d90] 27) = w_15 at *
        clear hgen
        have hcall := chooseAnswer_any (c := r1) (d := d1) HV.out HT.out HZ.out HW.out (by omega) (by omega)
        rw [HE.out.1, HE.out.2] at hcall
        refine hcall.mono ?_
        rintro e w_16 ⟨v25, rfl, ho, hb⟩
        clear hcall
        have HN25 := Lib.hid ho
        have hs16 : w_15.heap.size ≤ w_16.heap.size := hb.size
        replace HX20 := Lib.hid (((hb).block _ (by omega)).trans HX20.out)
        replace HX22 := Lib.hid (((hb).block _ (by omega)).trans HX22.out)
        replace HX23 := Lib.hid (((hb).block _ (by omega)).trans HX23.out)
        replace HXz := Lib.hid (((hb).block _ (by omega)).trans HXz.out)
        replace HC := Lib.hid (HC.out.same hb)
        replace HY := Lib.hid (HY.out.same hb)
        replace HV := Lib.hid (HV.out.same hb)
        replace HT := Lib.hid (HT.out.same hb)
        replace HZ := Lib.hid (HZ.out.same hb)
        replace HB := Lib.hid (HB.out.trans (hb.mono HB.out.size))
        clear ho
        clear hb
        have HO25 := HN25
        clear HN25
        obtain ⟨b25, m25, d25, rfl⟩ := HO25.out.shape
        have KP := HO25.out.ans
        obtain ⟨b9, m9, d9, e9, h9, -⟩ := KP
        have h8 := h9.len
        injection e9 with e9
        have h7 : Value.slice b25 m25 d25 = .slice b9 m9 d9 := by simpa using e9
        injection h7 with h71 h72 h73
        subst h71 h72 h73
        have HAV := Lib.hid h9
        have hmA : m25 ≤ 1048576000 := by omega
        clear h9 h8 e9
        obtain ⟨zv, zn, zc, zx, zm, zd, e9, hzv, -⟩ := HZ.out.parts
        have h7 : Value.slice a90 n90 c90 = .slice zv zn zc ∧ Value.slice b90 m90 d90 = .slice zx zm zd := by simpa using e9
        obtain ⟨h71, -⟩ := h7
        injection h71 with h71 h72 h73
        subst h71 h72 h73
        have HZV := Lib.hid hzv.1
        clear hzv e9
        have HVER := Lib.hid HBE.out.2
        have HBB := Lib.hid HBE.out.1
        clear HBE
        have HAL := Lib.hid (alloc_same w_16 (.cells #[.int .i64 A.ver, .slice b25 m25 d25] 39))
        have HX25 := Lib.hid (heap_alloc_new w_16 (.cells #[.int .i64 A.ver, .slice b25 m25 d25] 39 (0, 0)))
        change Hid ((World.alloc w_16 (.cells #[.int .i64 A.ver, .slice b25 m25 d25] 39)).heap[w_16.heap.size]? = _) at HX25
        replace HO25 := Lib.hid (HO25.out.same HAL.out)
        replace HX20 := Lib.hid (((HAL.out).block _ (by omega)).trans HX20.out)
        replace HX22 := Lib.hid (((HAL.out).block _ (by omega)).trans HX22.out)
        replace HX23 := Lib.hid (((HAL.out).block _ (by omega)).trans HX23.out)
        replace HXz := Lib.hid (((HAL.out).block _ (by omega)).trans HXz.out)
        replace HC := Lib.hid (HC.out.same HAL.out)
        replace HY := Lib.hid (HY.out.same HAL.out)
        replace HV := Lib.hid (HV.out.same HAL.out)
        replace HT := Lib.hid (HT.out.same HAL.out)
        replace HZ := Lib.hid (HZ.out.same HAL.out)
        replace HAV := Lib.hid (HAV.out.same HAL.out)
        replace HZV := Lib.hid (HZV.out.same HAL.out)
        replace HB := Lib.hid (HB.out.trans (HAL.out.mono HB.out.size))
        have hs17 : w_16.heap.size < (World.alloc w_16 (.cells #[.int .i64 A.ver, .slice b25 m25 d25] 39)).heap.size := by simp
        obtain ⟨ea20, eb20, -⟩ := two_cells HX20.out
        obtain ⟨ea22, eb22, -⟩ := two_cells HX22.out
        obtain ⟨ea23, eb23, -⟩ := two_cells HX23.out
        obtain ⟨eaz, ebz, -⟩ := two_cells HXz.out
        obtain ⟨ea25, eb25, -⟩ := two_cells HX25.out
        clear HAL
        go_wp2_with fail
        clear ea20 eb20 ea22 eb22 ea23 eb23 eaz ebz ea25 eb25
        generalize hgen : World.alloc w_16 (.cells #[.int .i64 A.ver, .slice b25 m25 d25] 39) = w_17 at *
        clear hgen
        have CXz := Lib.hid (two_cells HXz.out)
        have CX25 := Lib.hid (two_cells HX25.out)
        clear hs1 hs2 hs3 hs4 hs5 hs6 hs7 hs8 hs9 hs10 hs11 hs12 hs13 hs14 hs15 hs16 hs17 HX20 HX22 HX23 HXz HX25
        have HBd : Hid (Below w_17.heap.size w_17 w_17.drew) := Lib.hid (Below.refl _ _).drew
        refine wp_region_held_drew (S := fun w9 => w9.cell? ⟨w_14.heap.size, 0, none⟩ = some (.slice a90 n90 c90) ∧ w9.cell? ⟨w_14.heap.size, 1, none⟩ = some (.slice b90 m90 d90) ∧ w9.cell? ⟨w_16.heap.size, 0, none⟩ = some (.int .i64 A.ver) ∧ w9.cell? ⟨w_16.heap.size, 1, none⟩ = some (.slice b25 m25 d25)) (by kernel_rfl) ⟨cell_stay CXz.out.1 HBd.out, cell_stay CXz.out.2.1 HBd.out, cell_stay CX25.out.1 HBd.out, cell_stay CX25.out.2.1 HBd.out⟩ (fun hHeld => ?_)
        refine wpAnyH_take (i := 0) (v := ?v2001) (by simp only [List.getElem?_toArray, List.getElem?_cons_succ, List.getElem?_cons_zero]; rfl) (by kernel_rfl) (by kernel_rfl) (by kernel_rfl) (by exact fun _ _ _ h => h) (Or.inl ⟨by rfl, fun w9 hS9 => ?hy2001⟩) hHeld ?rest2001
        case hy2001 =>
          dsimp only at hS9
          obtain ⟨y0, y1, y2, y3⟩ := hS9
          go_simp
          try with_reducible rfl
        try simp only [Act.put, List.setIfInBounds_toArray, List.set_cons_zero, List.set_cons_succ]
        refine wpAnyH_take (i := 1) (v := ?v2002) (by simp only [List.getElem?_toArray, List.getElem?_cons_succ, List.getElem?_cons_zero]; rfl) (by kernel_rfl) (by kernel_rfl) (by kernel_rfl) (by exact fun _ _ _ h => h) (Or.inl ⟨by rfl, fun w9 hS9 => ?hy2002⟩) hHeld ?rest2002
        case hy2002 =>
          dsimp only at hS9
          obtain ⟨y0, y1, y2, y3⟩ := hS9
          go_simp
          try with_reducible rfl
        try simp only [Act.put, List.setIfInBounds_toArray, List.set_cons_zero, List.set_cons_succ]
        refine wpAnyH_ready (rs := [2]) (by kernel_rfl) (by simp) (AllReadyH.cons (by simp only [List.getElem?_toArray, List.getElem?_cons_succ, List.getElem?_cons_zero]; rfl) (fun K hK => ?_) AllReadyH.nil)
        go_simp
        refine ((told_true (by exact HF1.out) (fitsHello_any (HZ.out.same HBd.out) (HO25.out.ans.same HBd.out)))).mono ?_
        rintro e w1 ⟨rfl, hb1⟩
        have HB1 : Hid (Below w_17.heap.size w_17 w1) := Lib.hid (HBd.out.trans (hb1.mono HBd.out.size))
        clear hb1
        go_wp2_with fail
        refine hK.out _ _ ⟨cell_stay CXz.out.1 HB1.out, cell_stay CXz.out.2.1 HB1.out, cell_stay CX25.out.1 HB1.out, cell_stay CX25.out.2.1 HB1.out⟩ (fun hHeld => ?_)
        clear hK K
        try simp only [Act.put, List.setIfInBounds_toArray, List.set_cons_zero, List.set_cons_succ]
        refine wpAnyH_take (i := 3) (v := ?v2003) (by simp only [List.getElem?_toArray, List.getElem?_cons_succ, List.getElem?_cons_zero]; rfl) (by kernel_rfl) (by kernel_rfl) (by kernel_rfl) (by exact fun _ _ _ h => h) (Or.inl ⟨by rfl, fun w9 hS9 => ?hy2003⟩) hHeld ?rest2003
        case hy2003 =>
          dsimp only at hS9
          obtain ⟨y0, y1, y2, y3⟩ := hS9
          go_simp
          try with_reducible rfl
        try simp only [Act.put, List.setIfInBounds_toArray, List.set_cons_zero, List.set_cons_succ]
        refine wpAnyH_take (i := 4) (v := ?v2004) (by simp only [List.getElem?_toArray, List.getElem?_cons_succ, List.getElem?_cons_zero]; rfl) (by kernel_rfl) (by kernel_rfl) (by kernel_rfl) (by exact fun _ _ _ h => h) (Or.inl ⟨by rfl, fun w9 hS9 => ?hy2004⟩) hHeld ?rest2004
        case hy2004 =>
          dsimp only at hS9
          obtain ⟨y0, y1, y2, y3⟩ := hS9
          go_simp
          try with_reducible rfl
        try simp only [Act.put, List.setIfInBounds_toArray, List.set_cons_zero, List.set_cons_succ]
        refine wpAnyH_take (i := 5) (v := ?v2005) (by simp only [List.getElem?_toArray, List.getElem?_cons_succ, List.getElem?_cons_zero]; rfl) (by kernel_rfl) (by kernel_rfl) (by kernel_rfl) (by exact fun _ _ _ h => h) (Or.inl ⟨by rfl, fun w9 hS9 => ?hy2005⟩) hHeld ?rest2005
        case hy2005 =>
          dsimp only at hS9
          obtain ⟨y0, y1, y2, y3⟩ := hS9
          go_simp
          try with_reducible rfl
        try simp only [Act.put, List.setIfInBounds_toArray, List.set_cons_zero, List.set_cons_succ]
        refine wpAnyH_take (i := 6) (v := ?v2006) (by simp only [List.getElem?_toArray, List.getElem?_cons_succ, List.getElem?_cons_zero]; rfl) (by kernel_rfl) (by kernel_rfl) (by kernel_rfl) (by exact fun _ _ _ h => h) (Or.inl ⟨by rfl, fun w9 hS9 => ?hy2006⟩) hHeld ?rest2006
        case hy2006 =>
          dsimp only at hS9
          obtain ⟨y0, y1, y2, y3⟩ := hS9
          go_simp
          try with_reducible rfl
        try simp only [Act.put, List.setIfInBounds_toArray, List.set_cons_zero, List.set_cons_succ]
        refine wpAnyH_take (i := 7) (v := ?v2007) (by simp only [List.getElem?_toArray, List.getElem?_cons_succ, List.getElem?_cons_zero]; rfl) (by kernel_rfl) (by kernel_rfl) (by kernel_rfl) (by exact fun _ _ _ h => h) (Or.inl ⟨by rfl, fun w9 hS9 => ?hy2007⟩) hHeld ?rest2007
        case hy2007 =>
          dsimp only at hS9
          obtain ⟨y0, y1, y2, y3⟩ := hS9
          go_simp
          try with_reducible rfl
        try simp only [Act.put, List.setIfInBounds_toArray, List.set_cons_zero, List.set_cons_succ]
        refine wpAnyH_take (i := 8) (v := ?v2008) (by simp only [List.getElem?_toArray, List.getElem?_cons_succ, List.getElem?_cons_zero]; rfl) (by kernel_rfl) (by kernel_rfl) (by kernel_rfl) (by exact fun _ _ _ h => h) (Or.inl ⟨by rfl, fun w9 hS9 => ?hy2008⟩) hHeld ?rest2008
        case hy2008 =>
          dsimp only at hS9
          obtain ⟨y0, y1, y2, y3⟩ := hS9
          go_simp
          try with_reducible rfl
        try simp only [Act.put, List.setIfInBounds_toArray, List.set_cons_zero, List.set_cons_succ]
        refine wpAnyH_ready (rs := [9]) (by kernel_rfl) (by simp) (AllReadyH.cons (by simp only [List.getElem?_toArray, List.getElem?_cons_succ, List.getElem?_cons_zero]; rfl) (fun K hK => ?_) AllReadyH.nil)
        go_simp
        refine ((told_num HBB.out (bestCommon_any (c := r1) (d := c90) (HV.out.same HB1.out) (HZV.out.same HB1.out)))).mono ?_
        rintro e w2 ⟨rfl, hb2⟩
        have HB2 : Hid (Below w_17.heap.size w_17 w2) := Lib.hid (HB1.out.trans (hb2.mono HB1.out.size))
        clear hb2
        go_wp2_with fail
        refine hK.out _ _ ⟨cell_stay CXz.out.1 HB2.out, cell_stay CXz.out.2.1 HB2.out, cell_stay CX25.out.1 HB2.out, cell_stay CX25.out.2.1 HB2.out⟩ (fun hHeld => ?_)
        clear hK K
        try simp only [Act.put, List.setIfInBounds_toArray, List.set_cons_zero, List.set_cons_succ]
        refine wpAnyH_take (i := 10) (v := .bool true) (by simp only [List.getElem?_toArray, List.getElem?_cons_succ, List.getElem?_cons_zero]; rfl) (by kernel_rfl) (by kernel_rfl) (by kernel_rfl) (by exact fun _ _ _ h => h) (Or.inl ⟨by rfl, fun w9 hS9 => ?hy2009⟩) hHeld ?rest2009
        case hy2009 =>
          dsimp only at hS9
          obtain ⟨y0, y1, y2, y3⟩ := hS9
          go_simp
          (rw [HVER.out]; try simp)
        try simp only [Act.put, List.setIfInBounds_toArray, List.set_cons_zero, List.set_cons_succ]
        refine wpAnyH_take (i := 11) (v := ?v2010) (by simp only [List.getElem?_toArray, List.getElem?_cons_succ, List.getElem?_cons_zero]; rfl) (by kernel_rfl) (by kernel_rfl) (by kernel_rfl) (by exact fun _ _ _ h => h) (Or.inl ⟨by rfl, fun w9 hS9 => ?hy2010⟩) hHeld ?rest2010
        case hy2010 =>
          dsimp only at hS9
          obtain ⟨y0, y1, y2, y3⟩ := hS9
          go_simp
          try with_reducible rfl
        try simp only [Act.put, List.setIfInBounds_toArray, List.set_cons_zero, List.set_cons_succ]
        refine wpAnyH_take (i := 12) (v := ?v2011) (by simp only [List.getElem?_toArray, List.getElem?_cons_succ, List.getElem?_cons_zero]; rfl) (by kernel_rfl) (by kernel_rfl) (by kernel_rfl) (by exact fun _ _ _ h => h) (Or.inl ⟨by rfl, fun w9 hS9 => ?hy2011⟩) hHeld ?rest2011
        case hy2011 =>
          dsimp only at hS9
          obtain ⟨y0, y1, y2, y3⟩ := hS9
          go_simp
          try with_reducible rfl
        try simp only [Act.put, List.setIfInBounds_toArray, List.set_cons_zero, List.set_cons_succ]
        refine wpAnyH_take (i := 13) (v := ?v2012) (by simp only [List.getElem?_toArray, List.getElem?_cons_succ, List.getElem?_cons_zero]; rfl) (by kernel_rfl) (by kernel_rfl) (by kernel_rfl) (by exact fun _ _ _ h => h) (Or.inl ⟨by rfl, fun w9 hS9 => ?hy2012⟩) hHeld ?rest2012
        case hy2012 =>
          dsimp only at hS9
          obtain ⟨y0, y1, y2, y3⟩ := hS9
          go_simp
          try with_reducible rfl
        try simp only [Act.put, List.setIfInBounds_toArray, List.set_cons_zero, List.set_cons_succ]
        refine wpAnyH_take (i := 14) (v := ?v2013) (by simp only [List.getElem?_toArray, List.getElem?_cons_succ, List.getElem?_cons_zero]; rfl) (by kernel_rfl) (by kernel_rfl) (by kernel_rfl) (by exact fun _ _ _ h => h) (Or.inl ⟨by rfl, fun w9 hS9 => ?hy2013⟩) hHeld ?rest2013
        case hy2013 =>
          dsimp only at hS9
          obtain ⟨y0, y1, y2, y3⟩ := hS9
          go_simp
          try with_reducible rfl
        try simp only [Act.put, List.setIfInBounds_toArray, List.set_cons_zero, List.set_cons_succ]
        refine wpAnyH_take (i := 16) (v := ?v2014) (by simp only [List.getElem?_toArray, List.getElem?_cons_succ, List.getElem?_cons_zero]; rfl) (by kernel_rfl) (by kernel_rfl) (by kernel_rfl) (by exact fun _ _ _ h => h) (Or.inl ⟨by rfl, fun w9 hS9 => ?hy2014⟩) hHeld ?rest2014
        case hy2014 =>
          dsimp only at hS9
          obtain ⟨y0, y1, y2, y3⟩ := hS9
          go_simp
          try with_reducible rfl
        try simp only [Act.put, List.setIfInBounds_toArray, List.set_cons_zero, List.set_cons_succ]
        refine wpAnyH_ready (rs := [15]) (by kernel_rfl) (by simp) (AllReadyH.cons (by simp only [List.getElem?_toArray, List.getElem?_cons_succ, List.getElem?_cons_zero]; rfl) (fun K hK => ?_) AllReadyH.nil)
        go_simp
        refine (tagsOf_any (c := d25) (HAV.out.same HB2.out) hmA).mono ?_
        rintro e w3 ⟨bt, mt, dt, rfl, ho3, hb3⟩
        have HB3 : Hid (Below w_17.heap.size w_17 w3) := Lib.hid (HB2.out.trans (hb3.mono HB2.out.size))
        have HTA := Lib.hid ho3.nums
        clear ho3
        clear hb3
        go_wp2_with fail
        refine hK.out _ _ ⟨cell_stay CXz.out.1 HB3.out, cell_stay CXz.out.2.1 HB3.out, cell_stay CX25.out.1 HB3.out, cell_stay CX25.out.2.1 HB3.out⟩ (fun hHeld => ?_)
        clear hK K
        try simp only [Act.put, List.setIfInBounds_toArray, List.set_cons_zero, List.set_cons_succ]
        refine wpAnyH_ready (rs := [17]) (by kernel_rfl) (by simp) (AllReadyH.cons (by simp only [List.getElem?_toArray, List.getElem?_cons_succ, List.getElem?_cons_zero]; rfl) (fun K hK => ?_) AllReadyH.nil)
        go_simp
        refine (within_yes (c := dt) (d := d1) HTA.out (HT.out.same HB3.out) HF3.out).mono ?_
        rintro e w4 ⟨rfl, hb4⟩
        have HB4 : Hid (Below w_17.heap.size w_17 w4) := Lib.hid (HB3.out.trans (hb4.mono HB3.out.size))
        clear hb4
        go_wp2_with fail
        refine hK.out _ _ ⟨cell_stay CXz.out.1 HB4.out, cell_stay CXz.out.2.1 HB4.out, cell_stay CX25.out.1 HB4.out, cell_stay CX25.out.2.1 HB4.out⟩ (fun hHeld => ?_)
        clear hK K
        try simp only [Act.put, List.setIfInBounds_toArray, List.set_cons_zero, List.set_cons_succ]
        refine wpAnyH_take (i := 18) (v := ?v2015) (by simp only [List.getElem?_toArray, List.getElem?_cons_succ, List.getElem?_cons_zero]; rfl) (by kernel_rfl) (by kernel_rfl) (by kernel_rfl) (by exact fun _ _ _ h => h) (Or.inl ⟨by rfl, fun w9 hS9 => ?hy2015⟩) hHeld ?rest2015
        case hy2015 =>
          dsimp only at hS9
          obtain ⟨y0, y1, y2, y3⟩ := hS9
          go_simp
          try with_reducible rfl
        try simp only [Act.put, List.setIfInBounds_toArray, List.set_cons_zero, List.set_cons_succ]
        refine wpAnyH_take (i := 19) (v := ?v2016) (by simp only [List.getElem?_toArray, List.getElem?_cons_succ, List.getElem?_cons_zero]; rfl) (by kernel_rfl) (by kernel_rfl) (by kernel_rfl) (by exact fun _ _ _ h => h) (Or.inl ⟨by rfl, fun w9 hS9 => ?hy2016⟩) hHeld ?rest2016
        case hy2016 =>
          dsimp only at hS9
          obtain ⟨y0, y1, y2, y3⟩ := hS9
          go_simp
          try with_reducible rfl
        try simp only [Act.put, List.setIfInBounds_toArray, List.set_cons_zero, List.set_cons_succ]
        refine wpAnyH_take (i := 20) (v := ?v2017) (by simp only [List.getElem?_toArray, List.getElem?_cons_succ, List.getElem?_cons_zero]; rfl) (by kernel_rfl) (by kernel_rfl) (by kernel_rfl) (by exact fun _ _ _ h => h) (Or.inl ⟨by rfl, fun w9 hS9 => ?hy2017⟩) hHeld ?rest2017
        case hy2017 =>
          dsimp only at hS9
          obtain ⟨y0, y1, y2, y3⟩ := hS9
          go_simp
          try with_reducible rfl
        try simp only [Act.put, List.setIfInBounds_toArray, List.set_cons_zero, List.set_cons_succ]
        refine wpAnyH_ready (rs := [21]) (by kernel_rfl) (by simp) (AllReadyH.cons (by simp only [List.getElem?_toArray, List.getElem?_cons_succ, List.getElem?_cons_zero]; rfl) (fun K hK => ?_) AllReadyH.nil)
        go_simp
        refine (answerBytes_any (HO25.out.ans.same HB4.out)).mono ?_
        rintro e w5 ⟨bz, mz, dz, rfl, ho5, hb5⟩
        have HB5 : Hid (Below w_17.heap.size w_17 w5) := Lib.hid (HB4.out.trans (hb5.mono HB4.out.size))
        have hpos : 0 < mz := by have h1 := ho5.len; have h2 := HF4.out; omega
        clear ho5
        clear hb5
        go_wp2_with fail
        refine hK.out _ _ ⟨cell_stay CXz.out.1 HB5.out, cell_stay CXz.out.2.1 HB5.out, cell_stay CX25.out.1 HB5.out, cell_stay CX25.out.2.1 HB5.out⟩ (fun hHeld => ?_)
        clear hK K
        try simp only [Act.put, List.setIfInBounds_toArray, List.set_cons_zero, List.set_cons_succ]
        refine wpAnyH_take (i := 22) (v := ?v2018) (by simp only [List.getElem?_toArray, List.getElem?_cons_succ, List.getElem?_cons_zero]; rfl) (by kernel_rfl) (by kernel_rfl) (by kernel_rfl) (by exact fun _ _ _ h => h) (Or.inl ⟨by rfl, fun w9 hS9 => ?hy2018⟩) hHeld ?rest2018
        case hy2018 =>
          dsimp only at hS9
          obtain ⟨y0, y1, y2, y3⟩ := hS9
          go_simp
          try with_reducible rfl
        try simp only [Act.put, List.setIfInBounds_toArray, List.set_cons_zero, List.set_cons_succ]
        refine wpAnyH_take (i := 23) (v := ?v2019) (by simp only [List.getElem?_toArray, List.getElem?_cons_succ, List.getElem?_cons_zero]; rfl) (by kernel_rfl) (by kernel_rfl) (by kernel_rfl) (by exact fun _ _ _ h => h) (Or.inl ⟨by rfl, fun w9 hS9 => ?hy2019⟩) hHeld ?rest2019
        case hy2019 =>
          dsimp only at hS9
          obtain ⟨y0, y1, y2, y3⟩ := hS9
          go_simp
          try with_reducible rfl
        try simp only [Act.put, List.setIfInBounds_toArray, List.set_cons_zero, List.set_cons_succ]
        refine wpAnyH_take (i := 24) (v := ?v2020) (by simp only [List.getElem?_toArray, List.getElem?_cons_succ, List.getElem?_cons_zero]; rfl) (by kernel_rfl) (by kernel_rfl) (by kernel_rfl) (by exact fun _ _ _ h => h) (Or.inl ⟨by rfl, fun w9 hS9 => ?hy2020⟩) hHeld ?rest2020
        case hy2020 =>
          dsimp only at hS9
          obtain ⟨y0, y1, y2, y3⟩ := hS9
          go_simp
          try with_reducible rfl
        try simp only [Act.put, List.setIfInBounds_toArray, List.set_cons_zero, List.set_cons_succ]
        refine wpAnyH_take (i := 25) (v := ?v2021) (by simp only [List.getElem?_toArray, List.getElem?_cons_succ, List.getElem?_cons_zero]; rfl) (by kernel_rfl) (by kernel_rfl) (by kernel_rfl) (by exact fun _ _ _ h => h) (Or.inl ⟨by rfl, fun w9 hS9 => ?hy2021⟩) hHeld ?rest2021
        case hy2021 =>
          dsimp only at hS9
          obtain ⟨y0, y1, y2, y3⟩ := hS9
          go_simp
          try with_reducible rfl
        try simp only [Act.put, List.setIfInBounds_toArray, List.set_cons_zero, List.set_cons_succ]
        refine wpAnyH_done (by kernel_rfl) ?_ _
        replace HB := Lib.hid (HB.out.trans (HB5.out.mono HB.out.size))
        go_wp2_with fail
        go_ret
        exact ⟨rfl, HB.out⟩
    · skip
      obtain ⟨ea20, eb20, -⟩ := two_cells HX20.out
      obtain ⟨ea22, eb22, -⟩ := two_cells HX22.out
      go_wp2_with fail
      clear ea20 eb20 ea22 eb22
      have hcall := readHello_any HY.out hroom (by omega)
      rw [hok] at hcall
      refine hcall.mono ?_
      rintro e w_10 ⟨v23, rfl, ho, hb⟩
      clear hcall
      have HN23 := Lib.hid ho
      have hs10 : w_9.heap.size ≤ w_10.heap.size := hb.size
      replace HX20 := Lib.hid (((hb).block _ (by omega)).trans HX20.out)
      replace HX22 := Lib.hid (((hb).block _ (by omega)).trans HX22.out)
      replace HC := Lib.hid (HC.out.same hb)
      replace HY := Lib.hid (HY.out.same hb)
      replace HB := Lib.hid (HB.out.trans (hb.mono HB.out.size))
      clear ho
      clear hb
      have HO23 := HN23
      clear HN23
      obtain ⟨a23, n23, c23, b23, m23, d23, rfl⟩ := HO23.out.shape
      clear hok
      clear HO23
      have HAL := Lib.hid (alloc_same w_10 (.cells #[.slice a23 n23 c23, .slice b23 m23 d23] 27))
      have HX23 := Lib.hid (heap_alloc_new w_10 (.cells #[.slice a23 n23 c23, .slice b23 m23 d23] 27 (0, 0)))
      change Hid ((World.alloc w_10 (.cells #[.slice a23 n23 c23, .slice b23 m23 d23] 27)).heap[w_10.heap.size]? = _) at HX23
      replace HX20 := Lib.hid (((HAL.out).block _ (by omega)).trans HX20.out)
      replace HX22 := Lib.hid (((HAL.out).block _ (by omega)).trans HX22.out)
      replace HC := Lib.hid (HC.out.same HAL.out)
      replace HY := Lib.hid (HY.out.same HAL.out)
      replace HB := Lib.hid (HB.out.trans (HAL.out.mono HB.out.size))
      have hs11 : w_10.heap.size < (World.alloc w_10 (.cells #[.slice a23 n23 c23, .slice b23 m23 d23] 27)).heap.size := by simp
      obtain ⟨ea20, eb20, -⟩ := two_cells HX20.out
      obtain ⟨ea22, eb22, -⟩ := two_cells HX22.out
      obtain ⟨ea23, eb23, -⟩ := two_cells HX23.out
      clear HAL
      go_wp2_with fail
      clear ea20 eb20 ea22 eb22 ea23 eb23
      generalize hgen : World.alloc w_10 (.cells #[.slice a23 n23 c23, .slice b23 m23 d23] 27) = w_11 at *
      clear hgen
      have hcall := drawChooseAnswer_any a0 n0 c0 _ HC.out
      refine hcall.mono ?_
      rintro e w_12 ⟨p1, k1, r1, vs, q1, t1, d1, ts, v90, z, rfl, hvs, hk6, hts, ht4, htw, hz, hb⟩
      clear hcall
      have hs12 : w_11.heap.size ≤ w_12.heap.size := hb.size
      replace HX20 := Lib.hid (((hb).block _ (by omega)).trans HX20.out)
      replace HX22 := Lib.hid (((hb).block _ (by omega)).trans HX22.out)
      replace HX23 := Lib.hid (((hb).block _ (by omega)).trans HX23.out)
      replace HC := Lib.hid (HC.out.same hb)
      replace HY := Lib.hid (HY.out.same hb)
      replace HB := Lib.hid (HB.out.trans (hb.mono HB.out.size))
      have HV := Lib.hid hvs
      have HT := Lib.hid hts
      have HW := Lib.hid htw
      have HZ := Lib.hid hz
      clear hvs hts htw hz
      clear hb
      obtain ⟨a90, n90, c90, b90, m90, d90, rfl⟩ := HZ.out.shape
      obtain ⟨o, hch⟩ : ∃ o, chA vs ts z = o := ⟨_, rfl⟩
      cases o with
      | none =>
        obtain ⟨A, hA⟩ : ∃ A : Ans, A = ⟨0, []⟩ := ⟨_, rfl⟩
        skip
        have HE := Lib.hid (chA_none hch)
        clear hch
        have HAL := Lib.hid (alloc_same w_12 (.cells #[.slice a90 n90 c90, .slice b90 m90 d90] 27))
        have HXz := Lib.hid (heap_alloc_new w_12 (.cells #[.slice a90 n90 c90, .slice b90 m90 d90] 27 (0, 0)))
        change Hid ((World.alloc w_12 (.cells #[.slice a90 n90 c90, .slice b90 m90 d90] 27)).heap[w_12.heap.size]? = _) at HXz
        replace HX20 := Lib.hid (((HAL.out).block _ (by omega)).trans HX20.out)
        replace HX22 := Lib.hid (((HAL.out).block _ (by omega)).trans HX22.out)
        replace HX23 := Lib.hid (((HAL.out).block _ (by omega)).trans HX23.out)
        replace HC := Lib.hid (HC.out.same HAL.out)
        replace HY := Lib.hid (HY.out.same HAL.out)
        replace HV := Lib.hid (HV.out.same HAL.out)
        replace HT := Lib.hid (HT.out.same HAL.out)
        replace HZ := Lib.hid (HZ.out.same HAL.out)
        replace HB := Lib.hid (HB.out.trans (HAL.out.mono HB.out.size))
        have hs13 : w_12.heap.size < (World.alloc w_12 (.cells #[.slice a90 n90 c90, .slice b90 m90 d90] 27)).heap.size := by simp
        obtain ⟨ea20, eb20, -⟩ := two_cells HX20.out
        obtain ⟨ea22, eb22, -⟩ := two_cells HX22.out
        obtain ⟨ea23, eb23, -⟩ := two_cells HX23.out
        obtain ⟨eaz, ebz, -⟩ := two_cells HXz.out
        clear HAL
        go_wp2_with fail
        clear ea20 eb20 ea22 eb22 ea23 eb23 eaz ebz
        generalize hgen : World.alloc w_12 (.cells #[.slice a90 n90 c90, .slice b90 m90 d90] 27) = w_13 at *
        clear hgen
        have hcall := chooseAnswer_any (c := r1) (d := d1) HV.out HT.out HZ.out HW.out (by omega) (by omega)
        rw [HE.out.1, HE.out.2, ← hA] at hcall
        refine hcall.mono ?_
        rintro e w_14 ⟨v24, rfl, ho, hb⟩
        clear hcall
        have HN24 := Lib.hid ho
        have hs14 : w_13.heap.size ≤ w_14.heap.size := hb.size
        replace HX20 := Lib.hid (((hb).block _ (by omega)).trans HX20.out)
        replace HX22 := Lib.hid (((hb).block _ (by omega)).trans HX22.out)
        replace HX23 := Lib.hid (((hb).block _ (by omega)).trans HX23.out)
        replace HXz := Lib.hid (((hb).block _ (by omega)).trans HXz.out)
        replace HC := Lib.hid (HC.out.same hb)
        replace HY := Lib.hid (HY.out.same hb)
        replace HV := Lib.hid (HV.out.same hb)
        replace HT := Lib.hid (HT.out.same hb)
        replace HZ := Lib.hid (HZ.out.same hb)
        replace HB := Lib.hid (HB.out.trans (hb.mono HB.out.size))
        clear ho
        clear hb
        have HO24 := HN24
        clear HN24
        obtain ⟨b24, m24, d24, rfl⟩ := HO24.out.shape
        have hver : (A.ver == 0) = true := by rw [hA]; rfl
        have hlen : ((m24 : Int) == 0) = true := by
          have h9 := HO24.out.ans
          obtain ⟨b9, m9, d9, e9, h9, -⟩ := h9
          have h8 := h9.len
          rw [hA] at h8
          injection e9 with e9
          have h7 : Value.slice b24 m24 d24 = .slice b9 m9 d9 := by simpa using e9
          injection h7 with _ h6 _
          rw [h6, ← h8]
          rfl
        clear hA HE
        have HAL := Lib.hid (alloc_same w_14 (.cells #[.int .i64 A.ver, .slice b24 m24 d24] 39))
        have HX24 := Lib.hid (heap_alloc_new w_14 (.cells #[.int .i64 A.ver, .slice b24 m24 d24] 39 (0, 0)))
        change Hid ((World.alloc w_14 (.cells #[.int .i64 A.ver, .slice b24 m24 d24] 39)).heap[w_14.heap.size]? = _) at HX24
        replace HO24 := Lib.hid (HO24.out.same HAL.out)
        replace HX20 := Lib.hid (((HAL.out).block _ (by omega)).trans HX20.out)
        replace HX22 := Lib.hid (((HAL.out).block _ (by omega)).trans HX22.out)
        replace HX23 := Lib.hid (((HAL.out).block _ (by omega)).trans HX23.out)
        replace HXz := Lib.hid (((HAL.out).block _ (by omega)).trans HXz.out)
        replace HC := Lib.hid (HC.out.same HAL.out)
        replace HY := Lib.hid (HY.out.same HAL.out)
        replace HV := Lib.hid (HV.out.same HAL.out)
        replace HT := Lib.hid (HT.out.same HAL.out)
        replace HZ := Lib.hid (HZ.out.same HAL.out)
        replace HB := Lib.hid (HB.out.trans (HAL.out.mono HB.out.size))
        have hs15 : w_14.heap.size < (World.alloc w_14 (.cells #[.int .i64 A.ver, .slice b24 m24 d24] 39)).heap.size := by simp
        obtain ⟨ea20, eb20, -⟩ := two_cells HX20.out
        obtain ⟨ea22, eb22, -⟩ := two_cells HX22.out
        obtain ⟨ea23, eb23, -⟩ := two_cells HX23.out
        obtain ⟨eaz, ebz, -⟩ := two_cells HXz.out
        obtain ⟨ea24, eb24, -⟩ := two_cells HX24.out
        clear HAL
        go_wp2_with fail
        clear ea20 eb20 ea22 eb22 ea23 eb23 eaz ebz ea24 eb24
        generalize hgen : World.alloc w_14 (.cells #[.int .i64 A.ver, .slice b24 m24 d24] 39) = w_15 at *
        clear hgen
        go_ret
        exact ⟨rfl, HB.out⟩
      | some A =>
        skip
        have HE := Lib.hid (chA_some hch)
        obtain ⟨hf1, hf2, hf3, hf4⟩ := ch_fits hch
        have HF4 := Lib.hid hf4
        have HF3 := Lib.hid hf3
        have HF1 := Lib.hid hf1
        have hfew := chAns_few vs ts z
        rw [HE.out.1] at hfew
        clear hch hf1 hf3 hf4
        obtain ⟨B, hB⟩ : ∃ B : Nat, best vs z.vers = B := ⟨_, rfl⟩
        rw [hB] at hf2
        have HBE := Lib.hid (And.intro hB hf2)
        clear hB hf2
        have HAL := Lib.hid (alloc_same w_12 (.cells #[.slice a90 n90 c90, .slice b90 m90 d90] 27))
        have HXz := Lib.hid (heap_alloc_new w_12 (.cells #[.slice a90 n90 c90, .slice b90 m90 d90] 27 (0, 0)))
        change Hid ((World.alloc w_12 (.cells #[.slice a90 n90 c90, .slice b90 m90 d90] 27)).heap[w_12.heap.size]? = _) at HXz
        replace HX20 := Lib.hid (((HAL.out).block _ (by omega)).trans HX20.out)
        replace HX22 := Lib.hid (((HAL.out).block _ (by omega)).trans HX22.out)
        replace HX23 := Lib.hid (((HAL.out).block _ (by omega)).trans HX23.out)
        replace HC := Lib.hid (HC.out.same HAL.out)
        replace HY := Lib.hid (HY.out.same HAL.out)
        replace HV := Lib.hid (HV.out.same HAL.out)
        replace HT := Lib.hid (HT.out.same HAL.out)
        replace HZ := Lib.hid (HZ.out.same HAL.out)
        replace HB := Lib.hid (HB.out.trans (HAL.out.mono HB.out.size))
        have hs13 : w_12.heap.size < (World.alloc w_12 (.cells #[.slice a90 n90 c90, .slice b90 m90 d90] 27)).heap.size := by simp
        obtain ⟨ea20, eb20, -⟩ := two_cells HX20.out
        obtain ⟨ea22, eb22, -⟩ := two_cells HX22.out
        obtain ⟨ea23, eb23, -⟩ := two_cells HX23.out
        obtain ⟨eaz, ebz, -⟩ := two_cells HXz.out
        clear HAL
        go_wp2_with fail
        clear ea20 eb20 ea22 eb22 ea23 eb23 eaz ebz
        generalize hgen : World.alloc w_12 (.cells #[.slice a90 n90 c90, .slice b90 m90 d90] 27) = w_13 at *
        clear hgen
        have hcall := chooseAnswer_any (c := r1) (d := d1) HV.out HT.out HZ.out HW.out (by omega) (by omega)
        rw [HE.out.1, HE.out.2] at hcall
        refine hcall.mono ?_
        rintro e w_14 ⟨v24, rfl, ho, hb⟩
        clear hcall
        have HN24 := Lib.hid ho
        have hs14 : w_13.heap.size ≤ w_14.heap.size := hb.size
        replace HX20 := Lib.hid (((hb).block _ (by omega)).trans HX20.out)
        replace HX22 := Lib.hid (((hb).block _ (by omega)).trans HX22.out)
        replace HX23 := Lib.hid (((hb).block _ (by omega)).trans HX23.out)
        replace HXz := Lib.hid (((hb).block _ (by omega)).trans HXz.out)
        replace HC := Lib.hid (HC.out.same hb)
        replace HY := Lib.hid (HY.out.same hb)
        replace HV := Lib.hid (HV.out.same hb)
        replace HT := Lib.hid (HT.out.same hb)
        replace HZ := Lib.hid (HZ.out.same hb)
        replace HB := Lib.hid (HB.out.trans (hb.mono HB.out.size))
        clear ho
        clear hb
        have HO24 := HN24
        clear HN24
        obtain ⟨b24, m24, d24, rfl⟩ := HO24.out.shape
        have KP := HO24.out.ans
        obtain ⟨b9, m9, d9, e9, h9, -⟩ := KP
        have h8 := h9.len
        injection e9 with e9
        have h7 : Value.slice b24 m24 d24 = .slice b9 m9 d9 := by simpa using e9
        injection h7 with h71 h72 h73
        subst h71 h72 h73
        have HAV := Lib.hid h9
        have hmA : m24 ≤ 1048576000 := by omega
        clear h9 h8 e9
        obtain ⟨zv, zn, zc, zx, zm, zd, e9, hzv, -⟩ := HZ.out.parts
        have h7 : Value.slice a90 n90 c90 = .slice zv zn zc ∧ Value.slice b90 m90 d90 = .slice zx zm zd := by simpa using e9
        obtain ⟨h71, -⟩ := h7
        injection h71 with h71 h72 h73
        subst h71 h72 h73
        have HZV := Lib.hid hzv.1
        clear hzv e9
        have HVER := Lib.hid HBE.out.2
        have HBB := Lib.hid HBE.out.1
        clear HBE
        have HAL := Lib.hid (alloc_same w_14 (.cells #[.int .i64 A.ver, .slice b24 m24 d24] 39))
        have HX24 := Lib.hid (heap_alloc_new w_14 (.cells #[.int .i64 A.ver, .slice b24 m24 d24] 39 (0, 0)))
        change Hid ((World.alloc w_14 (.cells #[.int .i64 A.ver, .slice b24 m24 d24] 39)).heap[w_14.heap.size]? = _) at HX24
        replace HO24 := Lib.hid (HO24.out.same HAL.out)
        replace HX20 := Lib.hid (((HAL.out).block _ (by omega)).trans HX20.out)
        replace HX22 := Lib.hid (((HAL.out).block _ (by omega)).trans HX22.out)
        replace HX23 := Lib.hid (((HAL.out).block _ (by omega)).trans HX23.out)
        replace HXz := Lib.hid (((HAL.out).block _ (by omega)).trans HXz.out)
        replace HC := Lib.hid (HC.out.same HAL.out)
        replace HY := Lib.hid (HY.out.same HAL.out)
        replace HV := Lib.hid (HV.out.same HAL.out)
        replace HT := Lib.hid (HT.out.same HAL.out)
        replace HZ := Lib.hid (HZ.out.same HAL.out)
        replace HAV := Lib.hid (HAV.out.same HAL.out)
        replace HZV := Lib.hid (HZV.out.same HAL.out)
        replace HB := Lib.hid (HB.out.trans (HAL.out.mono HB.out.size))
        have hs15 : w_14.heap.size < (World.alloc w_14 (.cells #[.int .i64 A.ver, .slice b24 m24 d24] 39)).heap.size := by simp
        obtain ⟨ea20, eb20, -⟩ := two_cells HX20.out
        obtain ⟨ea22, eb22, -⟩ := two_cells HX22.out
        obtain ⟨ea23, eb23, -⟩ := two_cells HX23.out
        obtain ⟨eaz, ebz, -⟩ := two_cells HXz.out
        obtain ⟨ea24, eb24, -⟩ := two_cells HX24.out
        clear HAL
        go_wp2_with fail
        clear ea20 eb20 ea22 eb22 ea23 eb23 eaz ebz ea24 eb24
        generalize hgen : World.alloc w_14 (.cells #[.int .i64 A.ver, .slice b24 m24 d24] 39) = w_15 at *
        clear hgen
        have CXz := Lib.hid (two_cells HXz.out)
        have CX24 := Lib.hid (two_cells HX24.out)
        clear hs1 hs2 hs3 hs4 hs5 hs6 hs7 hs8 hs9 hs10 hs11 hs12 hs13 hs14 hs15 HX20 HX22 HX23 HXz HX24
        have HBd : Hid (Below w_15.heap.size w_15 w_15.drew) := Lib.hid (Below.refl _ _).drew
        refine wp_region_held_drew (S := fun w9 => w9.cell? ⟨w_12.heap.size, 0, none⟩ = some (.slice a90 n90 c90) ∧ w9.cell? ⟨w_12.heap.size, 1, none⟩ = some (.slice b90 m90 d90) ∧ w9.cell? ⟨w_14.heap.size, 0, none⟩ = some (.int .i64 A.ver) ∧ w9.cell? ⟨w_14.heap.size, 1, none⟩ = some (.slice b24 m24 d24)) (by kernel_rfl) ⟨cell_stay CXz.out.1 HBd.out, cell_stay CXz.out.2.1 HBd.out, cell_stay CX24.out.1 HBd.out, cell_stay CX24.out.2.1 HBd.out⟩ (fun hHeld => ?_)
        refine wpAnyH_take (i := 0) (v := ?v2022) (by simp only [List.getElem?_toArray, List.getElem?_cons_succ, List.getElem?_cons_zero]; rfl) (by kernel_rfl) (by kernel_rfl) (by kernel_rfl) (by exact fun _ _ _ h => h) (Or.inl ⟨by rfl, fun w9 hS9 => ?hy2022⟩) hHeld ?rest2022
        case hy2022 =>
          dsimp only at hS9
          obtain ⟨y0, y1, y2, y3⟩ := hS9
          go_simp
          try with_reducible rfl
        try simp only [Act.put, List.setIfInBounds_toArray, List.set_cons_zero, List.set_cons_succ]
        refine wpAnyH_take (i := 1) (v := ?v2023) (by simp only [List.getElem?_toArray, List.getElem?_cons_succ, List.getElem?_cons_zero]; rfl) (by kernel_rfl) (by kernel_rfl) (by kernel_rfl) (by exact fun _ _ _ h => h) (Or.inl ⟨by rfl, fun w9 hS9 => ?hy2023⟩) hHeld ?rest2023
        case hy2023 =>
          dsimp only at hS9
          obtain ⟨y0, y1, y2, y3⟩ := hS9
          go_simp
          try with_reducible rfl
        try simp only [Act.put, List.setIfInBounds_toArray, List.set_cons_zero, List.set_cons_succ]
        refine wpAnyH_ready (rs := [2]) (by kernel_rfl) (by simp) (AllReadyH.cons (by simp only [List.getElem?_toArray, List.getElem?_cons_succ, List.getElem?_cons_zero]; rfl) (fun K hK => ?_) AllReadyH.nil)
        go_simp
        refine ((told_true (by exact HF1.out) (fitsHello_any (HZ.out.same HBd.out) (HO24.out.ans.same HBd.out)))).mono ?_
        rintro e w1 ⟨rfl, hb1⟩
        have HB1 : Hid (Below w_15.heap.size w_15 w1) := Lib.hid (HBd.out.trans (hb1.mono HBd.out.size))
        clear hb1
        go_wp2_with fail
        refine hK.out _ _ ⟨cell_stay CXz.out.1 HB1.out, cell_stay CXz.out.2.1 HB1.out, cell_stay CX24.out.1 HB1.out, cell_stay CX24.out.2.1 HB1.out⟩ (fun hHeld => ?_)
        clear hK K
        try simp only [Act.put, List.setIfInBounds_toArray, List.set_cons_zero, List.set_cons_succ]
        refine wpAnyH_take (i := 3) (v := ?v2024) (by simp only [List.getElem?_toArray, List.getElem?_cons_succ, List.getElem?_cons_zero]; rfl) (by kernel_rfl) (by kernel_rfl) (by kernel_rfl) (by exact fun _ _ _ h => h) (Or.inl ⟨by rfl, fun w9 hS9 => ?hy2024⟩) hHeld ?rest2024
        case hy2024 =>
          dsimp only at hS9
          obtain ⟨y0, y1, y2, y3⟩ := hS9
          go_simp
          try with_reducible rfl
        try simp only [Act.put, List.setIfInBounds_toArray, List.set_cons_zero, List.set_cons_succ]
        refine wpAnyH_take (i := 4) (v := ?v2025) (by simp only [List.getElem?_toArray, List.getElem?_cons_succ, List.getElem?_cons_zero]; rfl) (by kernel_rfl) (by kernel_rfl) (by kernel_rfl) (by exact fun _ _ _ h => h) (Or.inl ⟨by rfl, fun w9 hS9 => ?hy2025⟩) hHeld ?rest2025
        case hy2025 =>
          dsimp only at hS9
          obtain ⟨y0, y1, y2, y3⟩ := hS9
          go_simp
          try with_reducible rfl
        try simp only [Act.put, List.setIfInBounds_toArray, List.set_cons_zero, List.set_cons_succ]
        refine wpAnyH_take (i := 5) (v := ?v2026) (by simp only [List.getElem?_toArray, List.getElem?_cons_succ, List.getElem?_cons_zero]; rfl) (by kernel_rfl) (by kernel_rfl) (by kernel_rfl) (by exact fun _ _ _ h => h) (Or.inl ⟨by rfl, fun w9 hS9 => ?hy2026⟩) hHeld ?rest2026
        case hy2026 =>
          dsimp only at hS9
          obtain ⟨y0, y1, y2, y3⟩ := hS9
          go_simp
          try with_reducible rfl
        try simp only [Act.put, List.setIfInBounds_toArray, List.set_cons_zero, List.set_cons_succ]
        refine wpAnyH_take (i := 6) (v := ?v2027) (by simp only [List.getElem?_toArray, List.getElem?_cons_succ, List.getElem?_cons_zero]; rfl) (by kernel_rfl) (by kernel_rfl) (by kernel_rfl) (by exact fun _ _ _ h => h) (Or.inl ⟨by rfl, fun w9 hS9 => ?hy2027⟩) hHeld ?rest2027
        case hy2027 =>
          dsimp only at hS9
          obtain ⟨y0, y1, y2, y3⟩ := hS9
          go_simp
          try with_reducible rfl
        try simp only [Act.put, List.setIfInBounds_toArray, List.set_cons_zero, List.set_cons_succ]
        refine wpAnyH_take (i := 7) (v := ?v2028) (by simp only [List.getElem?_toArray, List.getElem?_cons_succ, List.getElem?_cons_zero]; rfl) (by kernel_rfl) (by kernel_rfl) (by kernel_rfl) (by exact fun _ _ _ h => h) (Or.inl ⟨by rfl, fun w9 hS9 => ?hy2028⟩) hHeld ?rest2028
        case hy2028 =>
          dsimp only at hS9
          obtain ⟨y0, y1, y2, y3⟩ := hS9
          go_simp
          try with_reducible rfl
        try simp only [Act.put, List.setIfInBounds_toArray, List.set_cons_zero, List.set_cons_succ]
        refine wpAnyH_take (i := 8) (v := ?v2029) (by simp only [List.getElem?_toArray, List.getElem?_cons_succ, List.getElem?_cons_zero]; rfl) (by kernel_rfl) (by kernel_rfl) (by kernel_rfl) (by exact fun _ _ _ h => h) (Or.inl ⟨by rfl, fun w9 hS9 => ?hy2029⟩) hHeld ?rest2029
        case hy2029 =>
          dsimp only at hS9
          obtain ⟨y0, y1, y2, y3⟩ := hS9
          go_simp
          try with_reducible rfl
        try simp only [Act.put, List.setIfInBounds_toArray, List.set_cons_zero, List.set_cons_succ]
        refine wpAnyH_ready (rs := [9]) (by kernel_rfl) (by simp) (AllReadyH.cons (by simp only [List.getElem?_toArray, List.getElem?_cons_succ, List.getElem?_cons_zero]; rfl) (fun K hK => ?_) AllReadyH.nil)
        go_simp
        refine ((told_num HBB.out (bestCommon_any (c := r1) (d := c90) (HV.out.same HB1.out) (HZV.out.same HB1.out)))).mono ?_
        rintro e w2 ⟨rfl, hb2⟩
        have HB2 : Hid (Below w_15.heap.size w_15 w2) := Lib.hid (HB1.out.trans (hb2.mono HB1.out.size))
        clear hb2
        go_wp2_with fail
        refine hK.out _ _ ⟨cell_stay CXz.out.1 HB2.out, cell_stay CXz.out.2.1 HB2.out, cell_stay CX24.out.1 HB2.out, cell_stay CX24.out.2.1 HB2.out⟩ (fun hHeld => ?_)
        clear hK K
        try simp only [Act.put, List.setIfInBounds_toArray, List.set_cons_zero, List.set_cons_succ]
        refine wpAnyH_take (i := 10) (v := .bool true) (by simp only [List.getElem?_toArray, List.getElem?_cons_succ, List.getElem?_cons_zero]; rfl) (by kernel_rfl) (by kernel_rfl) (by kernel_rfl) (by exact fun _ _ _ h => h) (Or.inl ⟨by rfl, fun w9 hS9 => ?hy2030⟩) hHeld ?rest2030
        case hy2030 =>
          dsimp only at hS9
          obtain ⟨y0, y1, y2, y3⟩ := hS9
          go_simp
          (rw [HVER.out]; try simp)
        try simp only [Act.put, List.setIfInBounds_toArray, List.set_cons_zero, List.set_cons_succ]
        refine wpAnyH_take (i := 11) (v := ?v2031) (by simp only [List.getElem?_toArray, List.getElem?_cons_succ, List.getElem?_cons_zero]; rfl) (by kernel_rfl) (by kernel_rfl) (by kernel_rfl) (by exact fun _ _ _ h => h) (Or.inl ⟨by rfl, fun w9 hS9 => ?hy2031⟩) hHeld ?rest2031
        case hy2031 =>
          dsimp only at hS9
          obtain ⟨y0, y1, y2, y3⟩ := hS9
          go_simp
          try with_reducible rfl
        try simp only [Act.put, List.setIfInBounds_toArray, List.set_cons_zero, List.set_cons_succ]
        refine wpAnyH_take (i := 12) (v := ?v2032) (by simp only [List.getElem?_toArray, List.getElem?_cons_succ, List.getElem?_cons_zero]; rfl) (by kernel_rfl) (by kernel_rfl) (by kernel_rfl) (by exact fun _ _ _ h => h) (Or.inl ⟨by rfl, fun w9 hS9 => ?hy2032⟩) hHeld ?rest2032
        case hy2032 =>
          dsimp only at hS9
          obtain ⟨y0, y1, y2, y3⟩ := hS9
          go_simp
          try with_reducible rfl
        try simp only [Act.put, List.setIfInBounds_toArray, List.set_cons_zero, List.set_cons_succ]
        refine wpAnyH_take (i := 13) (v := ?v2033) (by simp only [List.getElem?_toArray, List.getElem?_cons_succ, List.getElem?_cons_zero]; rfl) (by kernel_rfl) (by kernel_rfl) (by kernel_rfl) (by exact fun _ _ _ h => h) (Or.inl ⟨by rfl, fun w9 hS9 => ?hy2033⟩) hHeld ?rest2033
        case hy2033 =>
          dsimp only at hS9
          obtain ⟨y0, y1, y2, y3⟩ := hS9
          go_simp
          try with_reducible rfl
        try simp only [Act.put, List.setIfInBounds_toArray, List.set_cons_zero, List.set_cons_succ]
        refine wpAnyH_take (i := 14) (v := ?v2034) (by simp only [List.getElem?_toArray, List.getElem?_cons_succ, List.getElem?_cons_zero]; rfl) (by kernel_rfl) (by kernel_rfl) (by kernel_rfl) (by exact fun _ _ _ h => h) (Or.inl ⟨by rfl, fun w9 hS9 => ?hy2034⟩) hHeld ?rest2034
        case hy2034 =>
          dsimp only at hS9
          obtain ⟨y0, y1, y2, y3⟩ := hS9
          go_simp
          try with_reducible rfl
        try simp only [Act.put, List.setIfInBounds_toArray, List.set_cons_zero, List.set_cons_succ]
        refine wpAnyH_take (i := 16) (v := ?v2035) (by simp only [List.getElem?_toArray, List.getElem?_cons_succ, List.getElem?_cons_zero]; rfl) (by kernel_rfl) (by kernel_rfl) (by kernel_rfl) (by exact fun _ _ _ h => h) (Or.inl ⟨by rfl, fun w9 hS9 => ?hy2035⟩) hHeld ?rest2035
        case hy2035 =>
          dsimp only at hS9
          obtain ⟨y0, y1, y2, y3⟩ := hS9
          go_simp
          try with_reducible rfl
        try simp only [Act.put, List.setIfInBounds_toArray, List.set_cons_zero, List.set_cons_succ]
        refine wpAnyH_ready (rs := [15]) (by kernel_rfl) (by simp) (AllReadyH.cons (by simp only [List.getElem?_toArray, List.getElem?_cons_succ, List.getElem?_cons_zero]; rfl) (fun K hK => ?_) AllReadyH.nil)
        go_simp
        refine (tagsOf_any (c := d24) (HAV.out.same HB2.out) hmA).mono ?_
        rintro e w3 ⟨bt, mt, dt, rfl, ho3, hb3⟩
        have HB3 : Hid (Below w_15.heap.size w_15 w3) := Lib.hid (HB2.out.trans (hb3.mono HB2.out.size))
        have HTA := Lib.hid ho3.nums
        clear ho3
        clear hb3
        go_wp2_with fail
        refine hK.out _ _ ⟨cell_stay CXz.out.1 HB3.out, cell_stay CXz.out.2.1 HB3.out, cell_stay CX24.out.1 HB3.out, cell_stay CX24.out.2.1 HB3.out⟩ (fun hHeld => ?_)
        clear hK K
        try simp only [Act.put, List.setIfInBounds_toArray, List.set_cons_zero, List.set_cons_succ]
        refine wpAnyH_ready (rs := [17]) (by kernel_rfl) (by simp) (AllReadyH.cons (by simp only [List.getElem?_toArray, List.getElem?_cons_succ, List.getElem?_cons_zero]; rfl) (fun K hK => ?_) AllReadyH.nil)
        go_simp
        refine (within_yes (c := dt) (d := d1) HTA.out (HT.out.same HB3.out) HF3.out).mono ?_
        rintro e w4 ⟨rfl, hb4⟩
        have HB4 : Hid (Below w_15.heap.size w_15 w4) := Lib.hid (HB3.out.trans (hb4.mono HB3.out.size))
        clear hb4
        go_wp2_with fail
        refine hK.out _ _ ⟨cell_stay CXz.out.1 HB4.out, cell_stay CXz.out.2.1 HB4.out, cell_stay CX24.out.1 HB4.out, cell_stay CX24.out.2.1 HB4.out⟩ (fun hHeld => ?_)
        clear hK K
        try simp only [Act.put, List.setIfInBounds_toArray, List.set_cons_zero, List.set_cons_succ]
        refine wpAnyH_take (i := 18) (v := ?v2036) (by simp only [List.getElem?_toArray, List.getElem?_cons_succ, List.getElem?_cons_zero]; rfl) (by kernel_rfl) (by kernel_rfl) (by kernel_rfl) (by exact fun _ _ _ h => h) (Or.inl ⟨by rfl, fun w9 hS9 => ?hy2036⟩) hHeld ?rest2036
        case hy2036 =>
          dsimp only at hS9
          obtain ⟨y0, y1, y2, y3⟩ := hS9
          go_simp
          try with_reducible rfl
        try simp only [Act.put, List.setIfInBounds_toArray, List.set_cons_zero, List.set_cons_succ]
        refine wpAnyH_take (i := 19) (v := ?v2037) (by simp only [List.getElem?_toArray, List.getElem?_cons_succ, List.getElem?_cons_zero]; rfl) (by kernel_rfl) (by kernel_rfl) (by kernel_rfl) (by exact fun _ _ _ h => h) (Or.inl ⟨by rfl, fun w9 hS9 => ?hy2037⟩) hHeld ?rest2037
        case hy2037 =>
          dsimp only at hS9
          obtain ⟨y0, y1, y2, y3⟩ := hS9
          go_simp
          try with_reducible rfl
        try simp only [Act.put, List.setIfInBounds_toArray, List.set_cons_zero, List.set_cons_succ]
        refine wpAnyH_take (i := 20) (v := ?v2038) (by simp only [List.getElem?_toArray, List.getElem?_cons_succ, List.getElem?_cons_zero]; rfl) (by kernel_rfl) (by kernel_rfl) (by kernel_rfl) (by exact fun _ _ _ h => h) (Or.inl ⟨by rfl, fun w9 hS9 => ?hy2038⟩) hHeld ?rest2038
        case hy2038 =>
          dsimp only at hS9
          obtain ⟨y0, y1, y2, y3⟩ := hS9
          go_simp
          try with_reducible rfl
        try simp only [Act.put, List.setIfInBounds_toArray, List.set_cons_zero, List.set_cons_succ]
        refine wpAnyH_ready (rs := [21]) (by kernel_rfl) (by simp) (AllReadyH.cons (by simp only [List.getElem?_toArray, List.getElem?_cons_succ, List.getElem?_cons_zero]; rfl) (fun K hK => ?_) AllReadyH.nil)
        go_simp
        refine (answerBytes_any (HO24.out.ans.same HB4.out)).mono ?_
        rintro e w5 ⟨bz, mz, dz, rfl, ho5, hb5⟩
        have HB5 : Hid (Below w_15.heap.size w_15 w5) := Lib.hid (HB4.out.trans (hb5.mono HB4.out.size))
        have hpos : 0 < mz := by have h1 := ho5.len; have h2 := HF4.out; omega
        clear ho5
        clear hb5
        go_wp2_with fail
        refine hK.out _ _ ⟨cell_stay CXz.out.1 HB5.out, cell_stay CXz.out.2.1 HB5.out, cell_stay CX24.out.1 HB5.out, cell_stay CX24.out.2.1 HB5.out⟩ (fun hHeld => ?_)
        clear hK K
        try simp only [Act.put, List.setIfInBounds_toArray, List.set_cons_zero, List.set_cons_succ]
        refine wpAnyH_take (i := 22) (v := ?v2039) (by simp only [List.getElem?_toArray, List.getElem?_cons_succ, List.getElem?_cons_zero]; rfl) (by kernel_rfl) (by kernel_rfl) (by kernel_rfl) (by exact fun _ _ _ h => h) (Or.inl ⟨by rfl, fun w9 hS9 => ?hy2039⟩) hHeld ?rest2039
        case hy2039 =>
          dsimp only at hS9
          obtain ⟨y0, y1, y2, y3⟩ := hS9
          go_simp
          try with_reducible rfl
        try simp only [Act.put, List.setIfInBounds_toArray, List.set_cons_zero, List.set_cons_succ]
        refine wpAnyH_take (i := 23) (v := ?v2040) (by simp only [List.getElem?_toArray, List.getElem?_cons_succ, List.getElem?_cons_zero]; rfl) (by kernel_rfl) (by kernel_rfl) (by kernel_rfl) (by exact fun _ _ _ h => h) (Or.inl ⟨by rfl, fun w9 hS9 => ?hy2040⟩) hHeld ?rest2040
        case hy2040 =>
          dsimp only at hS9
          obtain ⟨y0, y1, y2, y3⟩ := hS9
          go_simp
          try with_reducible rfl
        try simp only [Act.put, List.setIfInBounds_toArray, List.set_cons_zero, List.set_cons_succ]
        refine wpAnyH_take (i := 24) (v := ?v2041) (by simp only [List.getElem?_toArray, List.getElem?_cons_succ, List.getElem?_cons_zero]; rfl) (by kernel_rfl) (by kernel_rfl) (by kernel_rfl) (by exact fun _ _ _ h => h) (Or.inl ⟨by rfl, fun w9 hS9 => ?hy2041⟩) hHeld ?rest2041
        case hy2041 =>
          dsimp only at hS9
          obtain ⟨y0, y1, y2, y3⟩ := hS9
          go_simp
          try with_reducible rfl
        try simp only [Act.put, List.setIfInBounds_toArray, List.set_cons_zero, List.set_cons_succ]
        refine wpAnyH_take (i := 25) (v := ?v2042) (by simp only [List.getElem?_toArray, List.getElem?_cons_succ, List.getElem?_cons_zero]; rfl) (by kernel_rfl) (by kernel_rfl) (by kernel_rfl) (by exact fun _ _ _ h => h) (Or.inl ⟨by rfl, fun w9 hS9 => ?hy2042⟩) hHeld ?rest2042
        case hy2042 =>
          dsimp only at hS9
          obtain ⟨y0, y1, y2, y3⟩ := hS9
          go_simp
          try with_reducible rfl
        try simp only [Act.put, List.setIfInBounds_toArray, List.set_cons_zero, List.set_cons_succ]
        refine wpAnyH_done (by kernel_rfl) ?_ _
        replace HB := Lib.hid (HB.out.trans (HB5.out.mono HB.out.size))
        go_wp2_with fail
        go_ret
        exact ⟨rfl, HB.out⟩
  · have HE := Lib.hid (read_none hx)
    have HX9 := Lib.hid hx
    clear hx
    have HAL := Lib.hid (alloc_same w_1 (.cells #[.slice a20 n20 c20, .slice b20 m20 d20] 27))
    have HX20 := Lib.hid (heap_alloc_new w_1 (.cells #[.slice a20 n20 c20, .slice b20 m20 d20] 27 (0, 0)))
    change Hid ((World.alloc w_1 (.cells #[.slice a20 n20 c20, .slice b20 m20 d20] 27)).heap[w_1.heap.size]? = _) at HX20
    replace HO20 := Lib.hid (HO20.out.same HAL.out)
    replace HC := Lib.hid (HC.out.same HAL.out)
    replace HB := Lib.hid (HB.out.trans (HAL.out.mono HB.out.size))
    have hs2 : w_1.heap.size < (World.alloc w_1 (.cells #[.slice a20 n20 c20, .slice b20 m20 d20] 27)).heap.size := by simp
    obtain ⟨ea20, eb20, -⟩ := two_cells HX20.out
    clear HAL
    go_wp2_with fail
    clear ea20 eb20
    generalize hgen : World.alloc w_1 (.cells #[.slice a20 n20 c20, .slice b20 m20 d20] 27) = w_2 at *
    clear hgen
    have hcall := helloBytes_any HO20.out.hel
    refine hcall.mono ?_
    rintro e w_3 ⟨b21, m21, d21, rfl, ho, hb⟩
    clear hcall
    have hm21 : m21 ≤ 1000000000 := by have hl := ho.len; have := helB_few x; omega
    have HN21 := Lib.hid ho
    have HS21 := Lib.hid ho.span
    have hs3 : w_2.heap.size ≤ w_3.heap.size := hb.size
    replace HO20 := Lib.hid (HO20.out.same hb)
    replace HX20 := Lib.hid (((hb).block _ (by omega)).trans HX20.out)
    replace HC := Lib.hid (HC.out.same hb)
    replace HB := Lib.hid (HB.out.trans (hb.mono HB.out.size))
    clear ho
    clear hb
    have HO21 := HN21
    clear HN21
    obtain ⟨ea20, eb20, -⟩ := two_cells HX20.out
    go_wp2_with fail
    clear ea20 eb20
    have hcall := readHello_any HO21.out.nums HO21.out.room (by omega)
    rw [HE.out.1, HE.out.2] at hcall
    refine hcall.mono ?_
    rintro e w_4 ⟨v22, rfl, ho, hb⟩
    clear hcall
    have HN22 := Lib.hid ho
    have hs4 : w_3.heap.size ≤ w_4.heap.size := hb.size
    replace HO20 := Lib.hid (HO20.out.same hb)
    replace HO21 := Lib.hid (HO21.out.same hb)
    replace HX20 := Lib.hid (((hb).block _ (by omega)).trans HX20.out)
    replace HC := Lib.hid (HC.out.same hb)
    replace HB := Lib.hid (HB.out.trans (hb.mono HB.out.size))
    clear ho
    clear hb
    have HO22 := HN22
    clear HN22
    obtain ⟨a22, n22, c22, b22, m22, d22, rfl⟩ := HO22.out.shape
    have HAL := Lib.hid (alloc_same w_4 (.cells #[.slice a22 n22 c22, .slice b22 m22 d22] 27))
    have HX22 := Lib.hid (heap_alloc_new w_4 (.cells #[.slice a22 n22 c22, .slice b22 m22 d22] 27 (0, 0)))
    change Hid ((World.alloc w_4 (.cells #[.slice a22 n22 c22, .slice b22 m22 d22] 27)).heap[w_4.heap.size]? = _) at HX22
    replace HO20 := Lib.hid (HO20.out.same HAL.out)
    replace HO21 := Lib.hid (HO21.out.same HAL.out)
    replace HO22 := Lib.hid (HO22.out.same HAL.out)
    replace HX20 := Lib.hid (((HAL.out).block _ (by omega)).trans HX20.out)
    replace HC := Lib.hid (HC.out.same HAL.out)
    replace HB := Lib.hid (HB.out.trans (HAL.out.mono HB.out.size))
    have hs5 : w_4.heap.size < (World.alloc w_4 (.cells #[.slice a22 n22 c22, .slice b22 m22 d22] 27)).heap.size := by simp
    obtain ⟨ea20, eb20, -⟩ := two_cells HX20.out
    obtain ⟨ea22, eb22, -⟩ := two_cells HX22.out
    clear HAL
    go_wp2_with fail
    clear ea20 eb20 ea22 eb22
    generalize hgen : World.alloc w_4 (.cells #[.slice a22 n22 c22, .slice b22 m22 d22] 27) = w_5 at *
    clear hgen
    have hcall := isHello_any HO20.out.hel
    rw [HX9.out] at hcall
    refine hcall.mono ?_
    rintro e w_6 ⟨rfl, hb⟩
    clear hcall
    have hs6 : w_5.heap.size ≤ w_6.heap.size := hb.size
    replace HO20 := Lib.hid (HO20.out.same hb)
    replace HO21 := Lib.hid (HO21.out.same hb)
    replace HO22 := Lib.hid (HO22.out.same hb)
    replace HX20 := Lib.hid (((hb).block _ (by omega)).trans HX20.out)
    replace HX22 := Lib.hid (((hb).block _ (by omega)).trans HX22.out)
    replace HC := Lib.hid (HC.out.same hb)
    replace HB := Lib.hid (HB.out.trans (hb.mono HB.out.size))
    clear hb
    obtain ⟨ea20, eb20, -⟩ := two_cells HX20.out
    obtain ⟨ea22, eb22, -⟩ := two_cells HX22.out
    go_wp2_with fail
    clear ea20 eb20 ea22 eb22
    have hcall := specIsHello_any HO20.out.hel
    rw [HX9.out] at hcall
    refine hcall.mono ?_
    rintro e w_7 ⟨rfl, hb⟩
    clear hcall
    have hs7 : w_6.heap.size ≤ w_7.heap.size := hb.size
    replace HO20 := Lib.hid (HO20.out.same hb)
    replace HO21 := Lib.hid (HO21.out.same hb)
    replace HO22 := Lib.hid (HO22.out.same hb)
    replace HX20 := Lib.hid (((hb).block _ (by omega)).trans HX20.out)
    replace HX22 := Lib.hid (((hb).block _ (by omega)).trans HX22.out)
    replace HC := Lib.hid (HC.out.same hb)
    replace HB := Lib.hid (HB.out.trans (hb.mono HB.out.size))
    clear hb
    clear HO21 HO22 HO20 HE HX9
    obtain ⟨ea20, eb20, -⟩ := two_cells HX20.out
    obtain ⟨ea22, eb22, -⟩ := two_cells HX22.out
    go_wp2_with fail
    clear ea20 eb20 ea22 eb22
    have hcall := drawReadHello_any a0 n0 c0 _ HC.out
    refine hcall.mono ?_
    rintro e w_8 ⟨q2, m2, d2, y, rfl, hy, hm60, hb⟩
    clear hcall
    have hs8 : w_7.heap.size ≤ w_8.heap.size := hb.size
    replace HX20 := Lib.hid (((hb).block _ (by omega)).trans HX20.out)
    replace HX22 := Lib.hid (((hb).block _ (by omega)).trans HX22.out)
    replace HC := Lib.hid (HC.out.same hb)
    replace HB := Lib.hid (HB.out.trans (hb.mono HB.out.size))
    have HY := Lib.hid hy.nums
    have hroom := hy.room
    clear hy
    clear hb
    rcases (rdOk y).eq_false_or_eq_true with hok | hok
    · have HR := Lib.hid (rd_back hok)
      obtain ⟨ea20, eb20, -⟩ := two_cells HX20.out
      obtain ⟨ea22, eb22, -⟩ := two_cells HX22.out
      go_wp2_with fail
      clear ea20 eb20 ea22 eb22
      have hcall := readHello_any HY.out hroom (by omega)
      rw [hok] at hcall
      refine hcall.mono ?_
      rintro e w_9 ⟨v23, rfl, ho, hb⟩
      clear hcall
      have HN23 := Lib.hid ho
      have hs9 : w_8.heap.size ≤ w_9.heap.size := hb.size
      replace HX20 := Lib.hid (((hb).block _ (by omega)).trans HX20.out)
      replace HX22 := Lib.hid (((hb).block _ (by omega)).trans HX22.out)
      replace HC := Lib.hid (HC.out.same hb)
      replace HY := Lib.hid (HY.out.same hb)
      replace HB := Lib.hid (HB.out.trans (hb.mono HB.out.size))
      clear ho
      clear hb
      have HO23 := HN23
      clear HN23
      obtain ⟨a23, n23, c23, b23, m23, d23, rfl⟩ := HO23.out.shape
      have HAL := Lib.hid (alloc_same w_9 (.cells #[.slice a23 n23 c23, .slice b23 m23 d23] 27))
      have HX23 := Lib.hid (heap_alloc_new w_9 (.cells #[.slice a23 n23 c23, .slice b23 m23 d23] 27 (0, 0)))
      change Hid ((World.alloc w_9 (.cells #[.slice a23 n23 c23, .slice b23 m23 d23] 27)).heap[w_9.heap.size]? = _) at HX23
      replace HO23 := Lib.hid (HO23.out.same HAL.out)
      replace HX20 := Lib.hid (((HAL.out).block _ (by omega)).trans HX20.out)
      replace HX22 := Lib.hid (((HAL.out).block _ (by omega)).trans HX22.out)
      replace HC := Lib.hid (HC.out.same HAL.out)
      replace HY := Lib.hid (HY.out.same HAL.out)
      replace HB := Lib.hid (HB.out.trans (HAL.out.mono HB.out.size))
      have hs10 : w_9.heap.size < (World.alloc w_9 (.cells #[.slice a23 n23 c23, .slice b23 m23 d23] 27)).heap.size := by simp
      obtain ⟨ea20, eb20, -⟩ := two_cells HX20.out
      obtain ⟨ea22, eb22, -⟩ := two_cells HX22.out
      obtain ⟨ea23, eb23, -⟩ := two_cells HX23.out
      clear HAL
      go_wp2_with fail
      clear ea20 eb20 ea22 eb22 ea23 eb23
      generalize hgen : World.alloc w_9 (.cells #[.slice a23 n23 c23, .slice b23 m23 d23] 27) = w_10 at *
      clear hgen
      have hcall := helloBytes_any HO23.out.hel
      rw [HR.out] at hcall
      refine hcall.mono ?_
      rintro e w_11 ⟨b24, m24, d24, rfl, ho, hb⟩
      clear hcall
      have hm24 : m24 ≤ 1000000000 := by have hl := ho.len; have := HY.out.len; omega
      have HN24 := Lib.hid ho
      have HS24 := Lib.hid ho.span
      have hs11 : w_10.heap.size ≤ w_11.heap.size := hb.size
      replace HO23 := Lib.hid (HO23.out.same hb)
      replace HX20 := Lib.hid (((hb).block _ (by omega)).trans HX20.out)
      replace HX22 := Lib.hid (((hb).block _ (by omega)).trans HX22.out)
      replace HX23 := Lib.hid (((hb).block _ (by omega)).trans HX23.out)
      replace HC := Lib.hid (HC.out.same hb)
      replace HY := Lib.hid (HY.out.same hb)
      replace HB := Lib.hid (HB.out.trans (hb.mono HB.out.size))
      clear ho
      clear hb
      have HO24 := HN24
      clear HN24
      obtain ⟨ea20, eb20, -⟩ := two_cells HX20.out
      obtain ⟨ea22, eb22, -⟩ := two_cells HX22.out
      obtain ⟨ea23, eb23, -⟩ := two_cells HX23.out
      go_wp2_with fail
      clear ea20 eb20 ea22 eb22 ea23 eb23
      have hcall := equalInts_yes (c := d24) (d := d2) HO24.out.nums HY.out
      refine hcall.mono ?_
      rintro e w_12 ⟨rfl, hb⟩
      clear hcall
      have hs12 : w_11.heap.size ≤ w_12.heap.size := hb.size
      replace HO23 := Lib.hid (HO23.out.same hb)
      replace HO24 := Lib.hid (HO24.out.same hb)
      replace HX20 := Lib.hid (((hb).block _ (by omega)).trans HX20.out)
      replace HX22 := Lib.hid (((hb).block _ (by omega)).trans HX22.out)
      replace HX23 := Lib.hid (((hb).block _ (by omega)).trans HX23.out)
      replace HC := Lib.hid (HC.out.same hb)
      replace HY := Lib.hid (HY.out.same hb)
      replace HB := Lib.hid (HB.out.trans (hb.mono HB.out.size))
      clear hb
      clear HO23 HO24 HR hok
      obtain ⟨ea20, eb20, -⟩ := two_cells HX20.out
      obtain ⟨ea22, eb22, -⟩ := two_cells HX22.out
      obtain ⟨ea23, eb23, -⟩ := two_cells HX23.out
      go_wp2_with fail
      clear ea20 eb20 ea22 eb22 ea23 eb23
      have hcall := drawChooseAnswer_any a0 n0 c0 _ HC.out
      refine hcall.mono ?_
      rintro e w_13 ⟨p1, k1, r1, vs, q1, t1, d1, ts, v90, z, rfl, hvs, hk6, hts, ht4, htw, hz, hb⟩
      clear hcall
      have hs13 : w_12.heap.size ≤ w_13.heap.size := hb.size
      replace HX20 := Lib.hid (((hb).block _ (by omega)).trans HX20.out)
      replace HX22 := Lib.hid (((hb).block _ (by omega)).trans HX22.out)
      replace HX23 := Lib.hid (((hb).block _ (by omega)).trans HX23.out)
      replace HC := Lib.hid (HC.out.same hb)
      replace HY := Lib.hid (HY.out.same hb)
      replace HB := Lib.hid (HB.out.trans (hb.mono HB.out.size))
      have HV := Lib.hid hvs
      have HT := Lib.hid hts
      have HW := Lib.hid htw
      have HZ := Lib.hid hz
      clear hvs hts htw hz
      clear hb
      obtain ⟨a90, n90, c90, b90, m90, d90, rfl⟩ := HZ.out.shape
      obtain ⟨o, hch⟩ : ∃ o, chA vs ts z = o := ⟨_, rfl⟩
      cases o with
      | none =>
        obtain ⟨A, hA⟩ : ∃ A : Ans, A = ⟨0, []⟩ := ⟨_, rfl⟩
        skip
        have HE := Lib.hid (chA_none hch)
        clear hch
        have HAL := Lib.hid (alloc_same w_13 (.cells #[.slice a90 n90 c90, .slice b90 m90 d90] 27))
        have HXz := Lib.hid (heap_alloc_new w_13 (.cells #[.slice a90 n90 c90, .slice b90 m90 d90] 27 (0, 0)))
        change Hid ((World.alloc w_13 (.cells #[.slice a90 n90 c90, .slice b90 m90 d90] 27)).heap[w_13.heap.size]? = _) at HXz
        replace HX20 := Lib.hid (((HAL.out).block _ (by omega)).trans HX20.out)
        replace HX22 := Lib.hid (((HAL.out).block _ (by omega)).trans HX22.out)
        replace HX23 := Lib.hid (((HAL.out).block _ (by omega)).trans HX23.out)
        replace HC := Lib.hid (HC.out.same HAL.out)
        replace HY := Lib.hid (HY.out.same HAL.out)
        replace HV := Lib.hid (HV.out.same HAL.out)
        replace HT := Lib.hid (HT.out.same HAL.out)
        replace HZ := Lib.hid (HZ.out.same HAL.out)
        replace HB := Lib.hid (HB.out.trans (HAL.out.mono HB.out.size))
        have hs14 : w_13.heap.size < (World.alloc w_13 (.cells #[.slice a90 n90 c90, .slice b90 m90 d90] 27)).heap.size := by simp
        obtain ⟨ea20, eb20, -⟩ := two_cells HX20.out
        obtain ⟨ea22, eb22, -⟩ := two_cells HX22.out
        obtain ⟨ea23, eb23, -⟩ := two_cells HX23.out
        obtain ⟨eaz, ebz, -⟩ := two_cells HXz.out
        clear HAL
        go_wp2_with fail
        clear ea20 eb20 ea22 eb22 ea23 eb23 eaz ebz
        generalize hgen : World.alloc w_13 (.cells #[.slice a90 n90 c90, .slice b90 m90 d90] 27) = w_14 at *
        clear hgen
        have hcall := chooseAnswer_any (c := r1) (d := d1) HV.out HT.out HZ.out HW.out (by omega) (by omega)
        rw [HE.out.1, HE.out.2, ← hA] at hcall
        refine hcall.mono ?_
        rintro e w_15 ⟨v25, rfl, ho, hb⟩
        clear hcall
        have HN25 := Lib.hid ho
        have hs15 : w_14.heap.size ≤ w_15.heap.size := hb.size
        replace HX20 := Lib.hid (((hb).block _ (by omega)).trans HX20.out)
        replace HX22 := Lib.hid (((hb).block _ (by omega)).trans HX22.out)
        replace HX23 := Lib.hid (((hb).block _ (by omega)).trans HX23.out)
        replace HXz := Lib.hid (((hb).block _ (by omega)).trans HXz.out)
        replace HC := Lib.hid (HC.out.same hb)
        replace HY := Lib.hid (HY.out.same hb)
        replace HV := Lib.hid (HV.out.same hb)
        replace HT := Lib.hid (HT.out.same hb)
        replace HZ := Lib.hid (HZ.out.same hb)
        replace HB := Lib.hid (HB.out.trans (hb.mono HB.out.size))
        clear ho
        clear hb
        have HO25 := HN25
        clear HN25
        obtain ⟨b25, m25, d25, rfl⟩ := HO25.out.shape
        have hver : (A.ver == 0) = true := by rw [hA]; rfl
        have hlen : ((m25 : Int) == 0) = true := by
          have h9 := HO25.out.ans
          obtain ⟨b9, m9, d9, e9, h9, -⟩ := h9
          have h8 := h9.len
          rw [hA] at h8
          injection e9 with e9
          have h7 : Value.slice b25 m25 d25 = .slice b9 m9 d9 := by simpa using e9
          injection h7 with _ h6 _
          rw [h6, ← h8]
          rfl
        clear hA HE
        have HAL := Lib.hid (alloc_same w_15 (.cells #[.int .i64 A.ver, .slice b25 m25 d25] 39))
        have HX25 := Lib.hid (heap_alloc_new w_15 (.cells #[.int .i64 A.ver, .slice b25 m25 d25] 39 (0, 0)))
        change Hid ((World.alloc w_15 (.cells #[.int .i64 A.ver, .slice b25 m25 d25] 39)).heap[w_15.heap.size]? = _) at HX25
        replace HO25 := Lib.hid (HO25.out.same HAL.out)
        replace HX20 := Lib.hid (((HAL.out).block _ (by omega)).trans HX20.out)
        replace HX22 := Lib.hid (((HAL.out).block _ (by omega)).trans HX22.out)
        replace HX23 := Lib.hid (((HAL.out).block _ (by omega)).trans HX23.out)
        replace HXz := Lib.hid (((HAL.out).block _ (by omega)).trans HXz.out)
        replace HC := Lib.hid (HC.out.same HAL.out)
        replace HY := Lib.hid (HY.out.same HAL.out)
        replace HV := Lib.hid (HV.out.same HAL.out)
        replace HT := Lib.hid (HT.out.same HAL.out)
        replace HZ := Lib.hid (HZ.out.same HAL.out)
        replace HB := Lib.hid (HB.out.trans (HAL.out.mono HB.out.size))
        have hs16 : w_15.heap.size < (World.alloc w_15 (.cells #[.int .i64 A.ver, .slice b25 m25 d25] 39)).heap.size := by simp
        obtain ⟨ea20, eb20, -⟩ := two_cells HX20.out
        obtain ⟨ea22, eb22, -⟩ := two_cells HX22.out
        obtain ⟨ea23, eb23, -⟩ := two_cells HX23.out
        obtain ⟨eaz, ebz, -⟩ := two_cells HXz.out
        obtain ⟨ea25, eb25, -⟩ := two_cells HX25.out
        clear HAL
        go_wp2_with fail
        clear ea20 eb20 ea22 eb22 ea23 eb23 eaz ebz ea25 eb25
        generalize hgen : World.alloc w_15 (.cells #[.int .i64 A.ver, .slice b25 m25 d25] 39) = w_16 at *
        clear hgen
        go_ret
        exact ⟨rfl, HB.out⟩
      | some A =>
        skip
        have HE := Lib.hid (chA_some hch)
        obtain ⟨hf1, hf2, hf3, hf4⟩ := ch_fits hch
        have HF4 := Lib.hid hf4
        have HF3 := Lib.hid hf3
        have HF1 := Lib.hid hf1
        have hfew := chAns_few vs ts z
        rw [HE.out.1] at hfew
        clear hch hf1 hf3 hf4
        obtain ⟨B, hB⟩ : ∃ B : Nat, best vs z.vers = B := ⟨_, rfl⟩
        rw [hB] at hf2
        have HBE := Lib.hid (And.intro hB hf2)
        clear hB hf2
        have HAL := Lib.hid (alloc_same w_13 (.cells #[.slice a90 n90 c90, .slice b90 m90 d90] 27))
        have HXz := Lib.hid (heap_alloc_new w_13 (.cells #[.slice a90 n90 c90, .slice b90 m90 d90] 27 (0, 0)))
        change Hid ((World.alloc w_13 (.cells #[.slice a90 n90 c90, .slice b90 m90 d90] 27)).heap[w_13.heap.size]? = _) at HXz
        replace HX20 := Lib.hid (((HAL.out).block _ (by omega)).trans HX20.out)
        replace HX22 := Lib.hid (((HAL.out).block _ (by omega)).trans HX22.out)
        replace HX23 := Lib.hid (((HAL.out).block _ (by omega)).trans HX23.out)
        replace HC := Lib.hid (HC.out.same HAL.out)
        replace HY := Lib.hid (HY.out.same HAL.out)
        replace HV := Lib.hid (HV.out.same HAL.out)
        replace HT := Lib.hid (HT.out.same HAL.out)
        replace HZ := Lib.hid (HZ.out.same HAL.out)
        replace HB := Lib.hid (HB.out.trans (HAL.out.mono HB.out.size))
        have hs14 : w_13.heap.size < (World.alloc w_13 (.cells #[.slice a90 n90 c90, .slice b90 m90 d90] 27)).heap.size := by simp
        obtain ⟨ea20, eb20, -⟩ := two_cells HX20.out
        obtain ⟨ea22, eb22, -⟩ := two_cells HX22.out
        obtain ⟨ea23, eb23, -⟩ := two_cells HX23.out
        obtain ⟨eaz, ebz, -⟩ := two_cells HXz.out
        clear HAL
        go_wp2_with fail
        clear ea20 eb20 ea22 eb22 ea23 eb23 eaz ebz
        generalize hgen : World.alloc w_13 (.cells #[.slice a90 n90 c90, .slice b90 m90 d90] 27) = w_14 at *
        clear hgen
        have hcall := chooseAnswer_any (c := r1) (d := d1) HV.out HT.out HZ.out HW.out (by omega) (by omega)
        rw [HE.out.1, HE.out.2] at hcall
        refine hcall.mono ?_
        rintro e w_15 ⟨v25, rfl, ho, hb⟩
        clear hcall
        have HN25 := Lib.hid ho
        have hs15 : w_14.heap.size ≤ w_15.heap.size := hb.size
        replace HX20 := Lib.hid (((hb).block _ (by omega)).trans HX20.out)
        replace HX22 := Lib.hid (((hb).block _ (by omega)).trans HX22.out)
        replace HX23 := Lib.hid (((hb).block _ (by omega)).trans HX23.out)
        replace HXz := Lib.hid (((hb).block _ (by omega)).trans HXz.out)
        replace HC := Lib.hid (HC.out.same hb)
        replace HY := Lib.hid (HY.out.same hb)
        replace HV := Lib.hid (HV.out.same hb)
        replace HT := Lib.hid (HT.out.same hb)
        replace HZ := Lib.hid (HZ.out.same hb)
        replace HB := Lib.hid (HB.out.trans (hb.mono HB.out.size))
        clear ho
        clear hb
        have HO25 := HN25
        clear HN25
        obtain ⟨b25, m25, d25, rfl⟩ := HO25.out.shape
        have KP := HO25.out.ans
        obtain ⟨b9, m9, d9, e9, h9, -⟩ := KP
        have h8 := h9.len
        injection e9 with e9
        have h7 : Value.slice b25 m25 d25 = .slice b9 m9 d9 := by simpa using e9
        injection h7 with h71 h72 h73
        subst h71 h72 h73
        have HAV := Lib.hid h9
        have hmA : m25 ≤ 1048576000 := by omega
        clear h9 h8 e9
        obtain ⟨zv, zn, zc, zx, zm, zd, e9, hzv, -⟩ := HZ.out.parts
        have h7 : Value.slice a90 n90 c90 = .slice zv zn zc ∧ Value.slice b90 m90 d90 = .slice zx zm zd := by simpa using e9
        obtain ⟨h71, -⟩ := h7
        injection h71 with h71 h72 h73
        subst h71 h72 h73
        have HZV := Lib.hid hzv.1
        clear hzv e9
        have HVER := Lib.hid HBE.out.2
        have HBB := Lib.hid HBE.out.1
        clear HBE
        have HAL := Lib.hid (alloc_same w_15 (.cells #[.int .i64 A.ver, .slice b25 m25 d25] 39))
        have HX25 := Lib.hid (heap_alloc_new w_15 (.cells #[.int .i64 A.ver, .slice b25 m25 d25] 39 (0, 0)))
        change Hid ((World.alloc w_15 (.cells #[.int .i64 A.ver, .slice b25 m25 d25] 39)).heap[w_15.heap.size]? = _) at HX25
        replace HO25 := Lib.hid (HO25.out.same HAL.out)
        replace HX20 := Lib.hid (((HAL.out).block _ (by omega)).trans HX20.out)
        replace HX22 := Lib.hid (((HAL.out).block _ (by omega)).trans HX22.out)
        replace HX23 := Lib.hid (((HAL.out).block _ (by omega)).trans HX23.out)
        replace HXz := Lib.hid (((HAL.out).block _ (by omega)).trans HXz.out)
        replace HC := Lib.hid (HC.out.same HAL.out)
        replace HY := Lib.hid (HY.out.same HAL.out)
        replace HV := Lib.hid (HV.out.same HAL.out)
        replace HT := Lib.hid (HT.out.same HAL.out)
        replace HZ := Lib.hid (HZ.out.same HAL.out)
        replace HAV := Lib.hid (HAV.out.same HAL.out)
        replace HZV := Lib.hid (HZV.out.same HAL.out)
        replace HB := Lib.hid (HB.out.trans (HAL.out.mono HB.out.size))
        have hs16 : w_15.heap.size < (World.alloc w_15 (.cells #[.int .i64 A.ver, .slice b25 m25 d25] 39)).heap.size := by simp
        obtain ⟨ea20, eb20, -⟩ := two_cells HX20.out
        obtain ⟨ea22, eb22, -⟩ := two_cells HX22.out
        obtain ⟨ea23, eb23, -⟩ := two_cells HX23.out
        obtain ⟨eaz, ebz, -⟩ := two_cells HXz.out
        obtain ⟨ea25, eb25, -⟩ := two_cells HX25.out
        clear HAL
        go_wp2_with fail
        clear ea20 eb20 ea22 eb22 ea23 eb23 eaz ebz ea25 eb25
        generalize hgen : World.alloc w_15 (.cells #[.int .i64 A.ver, .slice b25 m25 d25] 39) = w_16 at *
        clear hgen
        have CXz := Lib.hid (two_cells HXz.out)
        have CX25 := Lib.hid (two_cells HX25.out)
        clear hs1 hs2 hs3 hs4 hs5 hs6 hs7 hs8 hs9 hs10 hs11 hs12 hs13 hs14 hs15 hs16 HX20 HX22 HX23 HXz HX25
        have HBd : Hid (Below w_16.heap.size w_16 w_16.drew) := Lib.hid (Below.refl _ _).drew
        refine wp_region_held_drew (S := fun w9 => w9.cell? ⟨w_13.heap.size, 0, none⟩ = some (.slice a90 n90 c90) ∧ w9.cell? ⟨w_13.heap.size, 1, none⟩ = some (.slice b90 m90 d90) ∧ w9.cell? ⟨w_15.heap.size, 0, none⟩ = some (.int .i64 A.ver) ∧ w9.cell? ⟨w_15.heap.size, 1, none⟩ = some (.slice b25 m25 d25)) (by kernel_rfl) ⟨cell_stay CXz.out.1 HBd.out, cell_stay CXz.out.2.1 HBd.out, cell_stay CX25.out.1 HBd.out, cell_stay CX25.out.2.1 HBd.out⟩ (fun hHeld => ?_)
        refine wpAnyH_take (i := 0) (v := ?v2043) (by simp only [List.getElem?_toArray, List.getElem?_cons_succ, List.getElem?_cons_zero]; rfl) (by kernel_rfl) (by kernel_rfl) (by kernel_rfl) (by exact fun _ _ _ h => h) (Or.inl ⟨by rfl, fun w9 hS9 => ?hy2043⟩) hHeld ?rest2043
        case hy2043 =>
          dsimp only at hS9
          obtain ⟨y0, y1, y2, y3⟩ := hS9
          go_simp
          try with_reducible rfl
        try simp only [Act.put, List.setIfInBounds_toArray, List.set_cons_zero, List.set_cons_succ]
        refine wpAnyH_take (i := 1) (v := ?v2044) (by simp only [List.getElem?_toArray, List.getElem?_cons_succ, List.getElem?_cons_zero]; rfl) (by kernel_rfl) (by kernel_rfl) (by kernel_rfl) (by exact fun _ _ _ h => h) (Or.inl ⟨by rfl, fun w9 hS9 => ?hy2044⟩) hHeld ?rest2044
        case hy2044 =>
          dsimp only at hS9
          obtain ⟨y0, y1, y2, y3⟩ := hS9
          go_simp
          try with_reducible rfl
        try simp only [Act.put, List.setIfInBounds_toArray, List.set_cons_zero, List.set_cons_succ]
        refine wpAnyH_ready (rs := [2]) (by kernel_rfl) (by simp) (AllReadyH.cons (by simp only [List.getElem?_toArray, List.getElem?_cons_succ, List.getElem?_cons_zero]; rfl) (fun K hK => ?_) AllReadyH.nil)
        go_simp
        refine ((told_true (by exact HF1.out) (fitsHello_any (HZ.out.same HBd.out) (HO25.out.ans.same HBd.out)))).mono ?_
        rintro e w1 ⟨rfl, hb1⟩
        have HB1 : Hid (Below w_16.heap.size w_16 w1) := Lib.hid (HBd.out.trans (hb1.mono HBd.out.size))
        clear hb1
        go_wp2_with fail
        refine hK.out _ _ ⟨cell_stay CXz.out.1 HB1.out, cell_stay CXz.out.2.1 HB1.out, cell_stay CX25.out.1 HB1.out, cell_stay CX25.out.2.1 HB1.out⟩ (fun hHeld => ?_)
        clear hK K
        try simp only [Act.put, List.setIfInBounds_toArray, List.set_cons_zero, List.set_cons_succ]
        refine wpAnyH_take (i := 3) (v := ?v2045) (by simp only [List.getElem?_toArray, List.getElem?_cons_succ, List.getElem?_cons_zero]; rfl) (by kernel_rfl) (by kernel_rfl) (by kernel_rfl) (by exact fun _ _ _ h => h) (Or.inl ⟨by rfl, fun w9 hS9 => ?hy2045⟩) hHeld ?rest2045
        case hy2045 =>
          dsimp only at hS9
          obtain ⟨y0, y1, y2, y3⟩ := hS9
          go_simp
          try with_reducible rfl
        try simp only [Act.put, List.setIfInBounds_toArray, List.set_cons_zero, List.set_cons_succ]
        refine wpAnyH_take (i := 4) (v := ?v2046) (by simp only [List.getElem?_toArray, List.getElem?_cons_succ, List.getElem?_cons_zero]; rfl) (by kernel_rfl) (by kernel_rfl) (by kernel_rfl) (by exact fun _ _ _ h => h) (Or.inl ⟨by rfl, fun w9 hS9 => ?hy2046⟩) hHeld ?rest2046
        case hy2046 =>
          dsimp only at hS9
          obtain ⟨y0, y1, y2, y3⟩ := hS9
          go_simp
          try with_reducible rfl
        try simp only [Act.put, List.setIfInBounds_toArray, List.set_cons_zero, List.set_cons_succ]
        refine wpAnyH_take (i := 5) (v := ?v2047) (by simp only [List.getElem?_toArray, List.getElem?_cons_succ, List.getElem?_cons_zero]; rfl) (by kernel_rfl) (by kernel_rfl) (by kernel_rfl) (by exact fun _ _ _ h => h) (Or.inl ⟨by rfl, fun w9 hS9 => ?hy2047⟩) hHeld ?rest2047
        case hy2047 =>
          dsimp only at hS9
          obtain ⟨y0, y1, y2, y3⟩ := hS9
          go_simp
          try with_reducible rfl
        try simp only [Act.put, List.setIfInBounds_toArray, List.set_cons_zero, List.set_cons_succ]
        refine wpAnyH_take (i := 6) (v := ?v2048) (by simp only [List.getElem?_toArray, List.getElem?_cons_succ, List.getElem?_cons_zero]; rfl) (by kernel_rfl) (by kernel_rfl) (by kernel_rfl) (by exact fun _ _ _ h => h) (Or.inl ⟨by rfl, fun w9 hS9 => ?hy2048⟩) hHeld ?rest2048
        case hy2048 =>
          dsimp only at hS9
          obtain ⟨y0, y1, y2, y3⟩ := hS9
          go_simp
          try with_reducible rfl
        try simp only [Act.put, List.setIfInBounds_toArray, List.set_cons_zero, List.set_cons_succ]
        refine wpAnyH_take (i := 7) (v := ?v2049) (by simp only [List.getElem?_toArray, List.getElem?_cons_succ, List.getElem?_cons_zero]; rfl) (by kernel_rfl) (by kernel_rfl) (by kernel_rfl) (by exact fun _ _ _ h => h) (Or.inl ⟨by rfl, fun w9 hS9 => ?hy2049⟩) hHeld ?rest2049
        case hy2049 =>
          dsimp only at hS9
          obtain ⟨y0, y1, y2, y3⟩ := hS9
          go_simp
          try with_reducible rfl
        try simp only [Act.put, List.setIfInBounds_toArray, List.set_cons_zero, List.set_cons_succ]
        refine wpAnyH_take (i := 8) (v := ?v2050) (by simp only [List.getElem?_toArray, List.getElem?_cons_succ, List.getElem?_cons_zero]; rfl) (by kernel_rfl) (by kernel_rfl) (by kernel_rfl) (by exact fun _ _ _ h => h) (Or.inl ⟨by rfl, fun w9 hS9 => ?hy2050⟩) hHeld ?rest2050
        case hy2050 =>
          dsimp only at hS9
          obtain ⟨y0, y1, y2, y3⟩ := hS9
          go_simp
          try with_reducible rfl
        try simp only [Act.put, List.setIfInBounds_toArray, List.set_cons_zero, List.set_cons_succ]
        refine wpAnyH_ready (rs := [9]) (by kernel_rfl) (by simp) (AllReadyH.cons (by simp only [List.getElem?_toArray, List.getElem?_cons_succ, List.getElem?_cons_zero]; rfl) (fun K hK => ?_) AllReadyH.nil)
        go_simp
        refine ((told_num HBB.out (bestCommon_any (c := r1) (d := c90) (HV.out.same HB1.out) (HZV.out.same HB1.out)))).mono ?_
        rintro e w2 ⟨rfl, hb2⟩
        have HB2 : Hid (Below w_16.heap.size w_16 w2) := Lib.hid (HB1.out.trans (hb2.mono HB1.out.size))
        clear hb2
        go_wp2_with fail
        refine hK.out _ _ ⟨cell_stay CXz.out.1 HB2.out, cell_stay CXz.out.2.1 HB2.out, cell_stay CX25.out.1 HB2.out, cell_stay CX25.out.2.1 HB2.out⟩ (fun hHeld => ?_)
        clear hK K
        try simp only [Act.put, List.setIfInBounds_toArray, List.set_cons_zero, List.set_cons_succ]
        refine wpAnyH_take (i := 10) (v := .bool true) (by simp only [List.getElem?_toArray, List.getElem?_cons_succ, List.getElem?_cons_zero]; rfl) (by kernel_rfl) (by kernel_rfl) (by kernel_rfl) (by exact fun _ _ _ h => h) (Or.inl ⟨by rfl, fun w9 hS9 => ?hy2051⟩) hHeld ?rest2051
        case hy2051 =>
          dsimp only at hS9
          obtain ⟨y0, y1, y2, y3⟩ := hS9
          go_simp
          (rw [HVER.out]; try simp)
        try simp only [Act.put, List.setIfInBounds_toArray, List.set_cons_zero, List.set_cons_succ]
        refine wpAnyH_take (i := 11) (v := ?v2052) (by simp only [List.getElem?_toArray, List.getElem?_cons_succ, List.getElem?_cons_zero]; rfl) (by kernel_rfl) (by kernel_rfl) (by kernel_rfl) (by exact fun _ _ _ h => h) (Or.inl ⟨by rfl, fun w9 hS9 => ?hy2052⟩) hHeld ?rest2052
        case hy2052 =>
          dsimp only at hS9
          obtain ⟨y0, y1, y2, y3⟩ := hS9
          go_simp
          try with_reducible rfl
        try simp only [Act.put, List.setIfInBounds_toArray, List.set_cons_zero, List.set_cons_succ]
        refine wpAnyH_take (i := 12) (v := ?v2053) (by simp only [List.getElem?_toArray, List.getElem?_cons_succ, List.getElem?_cons_zero]; rfl) (by kernel_rfl) (by kernel_rfl) (by kernel_rfl) (by exact fun _ _ _ h => h) (Or.inl ⟨by rfl, fun w9 hS9 => ?hy2053⟩) hHeld ?rest2053
        case hy2053 =>
          dsimp only at hS9
          obtain ⟨y0, y1, y2, y3⟩ := hS9
          go_simp
          try with_reducible rfl
        try simp only [Act.put, List.setIfInBounds_toArray, List.set_cons_zero, List.set_cons_succ]
        refine wpAnyH_take (i := 13) (v := ?v2054) (by simp only [List.getElem?_toArray, List.getElem?_cons_succ, List.getElem?_cons_zero]; rfl) (by kernel_rfl) (by kernel_rfl) (by kernel_rfl) (by exact fun _ _ _ h => h) (Or.inl ⟨by rfl, fun w9 hS9 => ?hy2054⟩) hHeld ?rest2054
        case hy2054 =>
          dsimp only at hS9
          obtain ⟨y0, y1, y2, y3⟩ := hS9
          go_simp
          try with_reducible rfl
        try simp only [Act.put, List.setIfInBounds_toArray, List.set_cons_zero, List.set_cons_succ]
        refine wpAnyH_take (i := 14) (v := ?v2055) (by simp only [List.getElem?_toArray, List.getElem?_cons_succ, List.getElem?_cons_zero]; rfl) (by kernel_rfl) (by kernel_rfl) (by kernel_rfl) (by exact fun _ _ _ h => h) (Or.inl ⟨by rfl, fun w9 hS9 => ?hy2055⟩) hHeld ?rest2055
        case hy2055 =>
          dsimp only at hS9
          obtain ⟨y0, y1, y2, y3⟩ := hS9
          go_simp
          try with_reducible rfl
        try simp only [Act.put, List.setIfInBounds_toArray, List.set_cons_zero, List.set_cons_succ]
        refine wpAnyH_take (i := 16) (v := ?v2056) (by simp only [List.getElem?_toArray, List.getElem?_cons_succ, List.getElem?_cons_zero]; rfl) (by kernel_rfl) (by kernel_rfl) (by kernel_rfl) (by exact fun _ _ _ h => h) (Or.inl ⟨by rfl, fun w9 hS9 => ?hy2056⟩) hHeld ?rest2056
        case hy2056 =>
          dsimp only at hS9
          obtain ⟨y0, y1, y2, y3⟩ := hS9
          go_simp
          try with_reducible rfl
        try simp only [Act.put, List.setIfInBounds_toArray, List.set_cons_zero, List.set_cons_succ]
        refine wpAnyH_ready (rs := [15]) (by kernel_rfl) (by simp) (AllReadyH.cons (by simp only [List.getElem?_toArray, List.getElem?_cons_succ, List.getElem?_cons_zero]; rfl) (fun K hK => ?_) AllReadyH.nil)
        go_simp
        refine (tagsOf_any (c := d25) (HAV.out.same HB2.out) hmA).mono ?_
        rintro e w3 ⟨bt, mt, dt, rfl, ho3, hb3⟩
        have HB3 : Hid (Below w_16.heap.size w_16 w3) := Lib.hid (HB2.out.trans (hb3.mono HB2.out.size))
        have HTA := Lib.hid ho3.nums
        clear ho3
        clear hb3
        go_wp2_with fail
        refine hK.out _ _ ⟨cell_stay CXz.out.1 HB3.out, cell_stay CXz.out.2.1 HB3.out, cell_stay CX25.out.1 HB3.out, cell_stay CX25.out.2.1 HB3.out⟩ (fun hHeld => ?_)
        clear hK K
        try simp only [Act.put, List.setIfInBounds_toArray, List.set_cons_zero, List.set_cons_succ]
        refine wpAnyH_ready (rs := [17]) (by kernel_rfl) (by simp) (AllReadyH.cons (by simp only [List.getElem?_toArray, List.getElem?_cons_succ, List.getElem?_cons_zero]; rfl) (fun K hK => ?_) AllReadyH.nil)
        go_simp
        refine (within_yes (c := dt) (d := d1) HTA.out (HT.out.same HB3.out) HF3.out).mono ?_
        rintro e w4 ⟨rfl, hb4⟩
        have HB4 : Hid (Below w_16.heap.size w_16 w4) := Lib.hid (HB3.out.trans (hb4.mono HB3.out.size))
        clear hb4
        go_wp2_with fail
        refine hK.out _ _ ⟨cell_stay CXz.out.1 HB4.out, cell_stay CXz.out.2.1 HB4.out, cell_stay CX25.out.1 HB4.out, cell_stay CX25.out.2.1 HB4.out⟩ (fun hHeld => ?_)
        clear hK K
        try simp only [Act.put, List.setIfInBounds_toArray, List.set_cons_zero, List.set_cons_succ]
        refine wpAnyH_take (i := 18) (v := ?v2057) (by simp only [List.getElem?_toArray, List.getElem?_cons_succ, List.getElem?_cons_zero]; rfl) (by kernel_rfl) (by kernel_rfl) (by kernel_rfl) (by exact fun _ _ _ h => h) (Or.inl ⟨by rfl, fun w9 hS9 => ?hy2057⟩) hHeld ?rest2057
        case hy2057 =>
          dsimp only at hS9
          obtain ⟨y0, y1, y2, y3⟩ := hS9
          go_simp
          try with_reducible rfl
        try simp only [Act.put, List.setIfInBounds_toArray, List.set_cons_zero, List.set_cons_succ]
        refine wpAnyH_take (i := 19) (v := ?v2058) (by simp only [List.getElem?_toArray, List.getElem?_cons_succ, List.getElem?_cons_zero]; rfl) (by kernel_rfl) (by kernel_rfl) (by kernel_rfl) (by exact fun _ _ _ h => h) (Or.inl ⟨by rfl, fun w9 hS9 => ?hy2058⟩) hHeld ?rest2058
        case hy2058 =>
          dsimp only at hS9
          obtain ⟨y0, y1, y2, y3⟩ := hS9
          go_simp
          try with_reducible rfl
        try simp only [Act.put, List.setIfInBounds_toArray, List.set_cons_zero, List.set_cons_succ]
        refine wpAnyH_take (i := 20) (v := ?v2059) (by simp only [List.getElem?_toArray, List.getElem?_cons_succ, List.getElem?_cons_zero]; rfl) (by kernel_rfl) (by kernel_rfl) (by kernel_rfl) (by exact fun _ _ _ h => h) (Or.inl ⟨by rfl, fun w9 hS9 => ?hy2059⟩) hHeld ?rest2059
        case hy2059 =>
          dsimp only at hS9
          obtain ⟨y0, y1, y2, y3⟩ := hS9
          go_simp
          try with_reducible rfl
        try simp only [Act.put, List.setIfInBounds_toArray, List.set_cons_zero, List.set_cons_succ]
        refine wpAnyH_ready (rs := [21]) (by kernel_rfl) (by simp) (AllReadyH.cons (by simp only [List.getElem?_toArray, List.getElem?_cons_succ, List.getElem?_cons_zero]; rfl) (fun K hK => ?_) AllReadyH.nil)
        go_simp
        refine (answerBytes_any (HO25.out.ans.same HB4.out)).mono ?_
        rintro e w5 ⟨bz, mz, dz, rfl, ho5, hb5⟩
        have HB5 : Hid (Below w_16.heap.size w_16 w5) := Lib.hid (HB4.out.trans (hb5.mono HB4.out.size))
        have hpos : 0 < mz := by have h1 := ho5.len; have h2 := HF4.out; omega
        clear ho5
        clear hb5
        go_wp2_with fail
        refine hK.out _ _ ⟨cell_stay CXz.out.1 HB5.out, cell_stay CXz.out.2.1 HB5.out, cell_stay CX25.out.1 HB5.out, cell_stay CX25.out.2.1 HB5.out⟩ (fun hHeld => ?_)
        clear hK K
        try simp only [Act.put, List.setIfInBounds_toArray, List.set_cons_zero, List.set_cons_succ]
        refine wpAnyH_take (i := 22) (v := ?v2060) (by simp only [List.getElem?_toArray, List.getElem?_cons_succ, List.getElem?_cons_zero]; rfl) (by kernel_rfl) (by kernel_rfl) (by kernel_rfl) (by exact fun _ _ _ h => h) (Or.inl ⟨by rfl, fun w9 hS9 => ?hy2060⟩) hHeld ?rest2060
        case hy2060 =>
          dsimp only at hS9
          obtain ⟨y0, y1, y2, y3⟩ := hS9
          go_simp
          try with_reducible rfl
        try simp only [Act.put, List.setIfInBounds_toArray, List.set_cons_zero, List.set_cons_succ]
        refine wpAnyH_take (i := 23) (v := ?v2061) (by simp only [List.getElem?_toArray, List.getElem?_cons_succ, List.getElem?_cons_zero]; rfl) (by kernel_rfl) (by kernel_rfl) (by kernel_rfl) (by exact fun _ _ _ h => h) (Or.inl ⟨by rfl, fun w9 hS9 => ?hy2061⟩) hHeld ?rest2061
        case hy2061 =>
          dsimp only at hS9
          obtain ⟨y0, y1, y2, y3⟩ := hS9
          go_simp
          try with_reducible rfl
        try simp only [Act.put, List.setIfInBounds_toArray, List.set_cons_zero, List.set_cons_succ]
        refine wpAnyH_take (i := 24) (v := ?v2062) (by simp only [List.getElem?_toArray, List.getElem?_cons_succ, List.getElem?_cons_zero]; rfl) (by kernel_rfl) (by kernel_rfl) (by kernel_rfl) (by exact fun _ _ _ h => h) (Or.inl ⟨by rfl, fun w9 hS9 => ?hy2062⟩) hHeld ?rest2062
        case hy2062 =>
          dsimp only at hS9
          obtain ⟨y0, y1, y2, y3⟩ := hS9
          go_simp
          try with_reducible rfl
        try simp only [Act.put, List.setIfInBounds_toArray, List.set_cons_zero, List.set_cons_succ]
        refine wpAnyH_take (i := 25) (v := ?v2063) (by simp only [List.getElem?_toArray, List.getElem?_cons_succ, List.getElem?_cons_zero]; rfl) (by kernel_rfl) (by kernel_rfl) (by kernel_rfl) (by exact fun _ _ _ h => h) (Or.inl ⟨by rfl, fun w9 hS9 => ?hy2063⟩) hHeld ?rest2063
        case hy2063 =>
          dsimp only at hS9
          obtain ⟨y0, y1, y2, y3⟩ := hS9
          go_simp
          try with_reducible rfl
        try simp only [Act.put, List.setIfInBounds_toArray, List.set_cons_zero, List.set_cons_succ]
        refine wpAnyH_done (by kernel_rfl) ?_ _
        replace HB := Lib.hid (HB.out.trans (HB5.out.mono HB.out.size))
        go_wp2_with fail
        go_ret
        exact ⟨rfl, HB.out⟩
    · skip
      obtain ⟨ea20, eb20, -⟩ := two_cells HX20.out
      obtain ⟨ea22, eb22, -⟩ := two_cells HX22.out
      go_wp2_with fail
      clear ea20 eb20 ea22 eb22
      have hcall := readHello_any HY.out hroom (by omega)
      rw [hok] at hcall
      refine hcall.mono ?_
      rintro e w_9 ⟨v23, rfl, ho, hb⟩
      clear hcall
      have HN23 := Lib.hid ho
      have hs9 : w_8.heap.size ≤ w_9.heap.size := hb.size
      replace HX20 := Lib.hid (((hb).block _ (by omega)).trans HX20.out)
      replace HX22 := Lib.hid (((hb).block _ (by omega)).trans HX22.out)
      replace HC := Lib.hid (HC.out.same hb)
      replace HY := Lib.hid (HY.out.same hb)
      replace HB := Lib.hid (HB.out.trans (hb.mono HB.out.size))
      clear ho
      clear hb
      have HO23 := HN23
      clear HN23
      obtain ⟨a23, n23, c23, b23, m23, d23, rfl⟩ := HO23.out.shape
      clear hok
      clear HO23
      have HAL := Lib.hid (alloc_same w_9 (.cells #[.slice a23 n23 c23, .slice b23 m23 d23] 27))
      have HX23 := Lib.hid (heap_alloc_new w_9 (.cells #[.slice a23 n23 c23, .slice b23 m23 d23] 27 (0, 0)))
      change Hid ((World.alloc w_9 (.cells #[.slice a23 n23 c23, .slice b23 m23 d23] 27)).heap[w_9.heap.size]? = _) at HX23
      replace HX20 := Lib.hid (((HAL.out).block _ (by omega)).trans HX20.out)
      replace HX22 := Lib.hid (((HAL.out).block _ (by omega)).trans HX22.out)
      replace HC := Lib.hid (HC.out.same HAL.out)
      replace HY := Lib.hid (HY.out.same HAL.out)
      replace HB := Lib.hid (HB.out.trans (HAL.out.mono HB.out.size))
      have hs10 : w_9.heap.size < (World.alloc w_9 (.cells #[.slice a23 n23 c23, .slice b23 m23 d23] 27)).heap.size := by simp
      obtain ⟨ea20, eb20, -⟩ := two_cells HX20.out
      obtain ⟨ea22, eb22, -⟩ := two_cells HX22.out
      obtain ⟨ea23, eb23, -⟩ := two_cells HX23.out
      clear HAL
      go_wp2_with fail
      clear ea20 eb20 ea22 eb22 ea23 eb23
      generalize hgen : World.alloc w_9 (.cells #[.slice a23 n23 c23, .slice b23 m23 d23] 27) = w_10 at *
      clear hgen
      have hcall := drawChooseAnswer_any a0 n0 c0 _ HC.out
      refine hcall.mono ?_
      rintro e w_11 ⟨p1, k1, r1, vs, q1, t1, d1, ts, v90, z, rfl, hvs, hk6, hts, ht4, htw, hz, hb⟩
      clear hcall
      have hs11 : w_10.heap.size ≤ w_11.heap.size := hb.size
      replace HX20 := Lib.hid (((hb).block _ (by omega)).trans HX20.out)
      replace HX22 := Lib.hid (((hb).block _ (by omega)).trans HX22.out)
      replace HX23 := Lib.hid (((hb).block _ (by omega)).trans HX23.out)
      replace HC := Lib.hid (HC.out.same hb)
      replace HY := Lib.hid (HY.out.same hb)
      replace HB := Lib.hid (HB.out.trans (hb.mono HB.out.size))
      have HV := Lib.hid hvs
      have HT := Lib.hid hts
      have HW := Lib.hid htw
      have HZ := Lib.hid hz
      clear hvs hts htw hz
      clear hb
      obtain ⟨a90, n90, c90, b90, m90, d90, rfl⟩ := HZ.out.shape
      obtain ⟨o, hch⟩ : ∃ o, chA vs ts z = o := ⟨_, rfl⟩
      cases o with
      | none =>
        obtain ⟨A, hA⟩ : ∃ A : Ans, A = ⟨0, []⟩ := ⟨_, rfl⟩
        skip
        have HE := Lib.hid (chA_none hch)
        clear hch
        have HAL := Lib.hid (alloc_same w_11 (.cells #[.slice a90 n90 c90, .slice b90 m90 d90] 27))
        have HXz := Lib.hid (heap_alloc_new w_11 (.cells #[.slice a90 n90 c90, .slice b90 m90 d90] 27 (0, 0)))
        change Hid ((World.alloc w_11 (.cells #[.slice a90 n90 c90, .slice b90 m90 d90] 27)).heap[w_11.heap.size]? = _) at HXz
        replace HX20 := Lib.hid (((HAL.out).block _ (by omega)).trans HX20.out)
        replace HX22 := Lib.hid (((HAL.out).block _ (by omega)).trans HX22.out)
        replace HX23 := Lib.hid (((HAL.out).block _ (by omega)).trans HX23.out)
        replace HC := Lib.hid (HC.out.same HAL.out)
        replace HY := Lib.hid (HY.out.same HAL.out)
        replace HV := Lib.hid (HV.out.same HAL.out)
        replace HT := Lib.hid (HT.out.same HAL.out)
        replace HZ := Lib.hid (HZ.out.same HAL.out)
        replace HB := Lib.hid (HB.out.trans (HAL.out.mono HB.out.size))
        have hs12 : w_11.heap.size < (World.alloc w_11 (.cells #[.slice a90 n90 c90, .slice b90 m90 d90] 27)).heap.size := by simp
        obtain ⟨ea20, eb20, -⟩ := two_cells HX20.out
        obtain ⟨ea22, eb22, -⟩ := two_cells HX22.out
        obtain ⟨ea23, eb23, -⟩ := two_cells HX23.out
        obtain ⟨eaz, ebz, -⟩ := two_cells HXz.out
        clear HAL
        go_wp2_with fail
        clear ea20 eb20 ea22 eb22 ea23 eb23 eaz ebz
        generalize hgen : World.alloc w_11 (.cells #[.slice a90 n90 c90, .slice b90 m90 d90] 27) = w_12 at *
        clear hgen
        have hcall := chooseAnswer_any (c := r1) (d := d1) HV.out HT.out HZ.out HW.out (by omega) (by omega)
        rw [HE.out.1, HE.out.2, ← hA] at hcall
        refine hcall.mono ?_
        rintro e w_13 ⟨v24, rfl, ho, hb⟩
        clear hcall
        have HN24 := Lib.hid ho
        have hs13 : w_12.heap.size ≤ w_13.heap.size := hb.size
        replace HX20 := Lib.hid (((hb).block _ (by omega)).trans HX20.out)
        replace HX22 := Lib.hid (((hb).block _ (by omega)).trans HX22.out)
        replace HX23 := Lib.hid (((hb).block _ (by omega)).trans HX23.out)
        replace HXz := Lib.hid (((hb).block _ (by omega)).trans HXz.out)
        replace HC := Lib.hid (HC.out.same hb)
        replace HY := Lib.hid (HY.out.same hb)
        replace HV := Lib.hid (HV.out.same hb)
        replace HT := Lib.hid (HT.out.same hb)
        replace HZ := Lib.hid (HZ.out.same hb)
        replace HB := Lib.hid (HB.out.trans (hb.mono HB.out.size))
        clear ho
        clear hb
        have HO24 := HN24
        clear HN24
        obtain ⟨b24, m24, d24, rfl⟩ := HO24.out.shape
        have hver : (A.ver == 0) = true := by rw [hA]; rfl
        have hlen : ((m24 : Int) == 0) = true := by
          have h9 := HO24.out.ans
          obtain ⟨b9, m9, d9, e9, h9, -⟩ := h9
          have h8 := h9.len
          rw [hA] at h8
          injection e9 with e9
          have h7 : Value.slice b24 m24 d24 = .slice b9 m9 d9 := by simpa using e9
          injection h7 with _ h6 _
          rw [h6, ← h8]
          rfl
        clear hA HE
        have HAL := Lib.hid (alloc_same w_13 (.cells #[.int .i64 A.ver, .slice b24 m24 d24] 39))
        have HX24 := Lib.hid (heap_alloc_new w_13 (.cells #[.int .i64 A.ver, .slice b24 m24 d24] 39 (0, 0)))
        change Hid ((World.alloc w_13 (.cells #[.int .i64 A.ver, .slice b24 m24 d24] 39)).heap[w_13.heap.size]? = _) at HX24
        replace HO24 := Lib.hid (HO24.out.same HAL.out)
        replace HX20 := Lib.hid (((HAL.out).block _ (by omega)).trans HX20.out)
        replace HX22 := Lib.hid (((HAL.out).block _ (by omega)).trans HX22.out)
        replace HX23 := Lib.hid (((HAL.out).block _ (by omega)).trans HX23.out)
        replace HXz := Lib.hid (((HAL.out).block _ (by omega)).trans HXz.out)
        replace HC := Lib.hid (HC.out.same HAL.out)
        replace HY := Lib.hid (HY.out.same HAL.out)
        replace HV := Lib.hid (HV.out.same HAL.out)
        replace HT := Lib.hid (HT.out.same HAL.out)
        replace HZ := Lib.hid (HZ.out.same HAL.out)
        replace HB := Lib.hid (HB.out.trans (HAL.out.mono HB.out.size))
        have hs14 : w_13.heap.size < (World.alloc w_13 (.cells #[.int .i64 A.ver, .slice b24 m24 d24] 39)).heap.size := by simp
        obtain ⟨ea20, eb20, -⟩ := two_cells HX20.out
        obtain ⟨ea22, eb22, -⟩ := two_cells HX22.out
        obtain ⟨ea23, eb23, -⟩ := two_cells HX23.out
        obtain ⟨eaz, ebz, -⟩ := two_cells HXz.out
        obtain ⟨ea24, eb24, -⟩ := two_cells HX24.out
        clear HAL
        go_wp2_with fail
        clear ea20 eb20 ea22 eb22 ea23 eb23 eaz ebz ea24 eb24
        generalize hgen : World.alloc w_13 (.cells #[.int .i64 A.ver, .slice b24 m24 d24] 39) = w_14 at *
        clear hgen
        go_ret
        exact ⟨rfl, HB.out⟩
      | some A =>
        skip
        have HE := Lib.hid (chA_some hch)
        obtain ⟨hf1, hf2, hf3, hf4⟩ := ch_fits hch
        have HF4 := Lib.hid hf4
        have HF3 := Lib.hid hf3
        have HF1 := Lib.hid hf1
        have hfew := chAns_few vs ts z
        rw [HE.out.1] at hfew
        clear hch hf1 hf3 hf4
        obtain ⟨B, hB⟩ : ∃ B : Nat, best vs z.vers = B := ⟨_, rfl⟩
        rw [hB] at hf2
        have HBE := Lib.hid (And.intro hB hf2)
        clear hB hf2
        have HAL := Lib.hid (alloc_same w_11 (.cells #[.slice a90 n90 c90, .slice b90 m90 d90] 27))
        have HXz := Lib.hid (heap_alloc_new w_11 (.cells #[.slice a90 n90 c90, .slice b90 m90 d90] 27 (0, 0)))
        change Hid ((World.alloc w_11 (.cells #[.slice a90 n90 c90, .slice b90 m90 d90] 27)).heap[w_11.heap.size]? = _) at HXz
        replace HX20 := Lib.hid (((HAL.out).block _ (by omega)).trans HX20.out)
        replace HX22 := Lib.hid (((HAL.out).block _ (by omega)).trans HX22.out)
        replace HX23 := Lib.hid (((HAL.out).block _ (by omega)).trans HX23.out)
        replace HC := Lib.hid (HC.out.same HAL.out)
        replace HY := Lib.hid (HY.out.same HAL.out)
        replace HV := Lib.hid (HV.out.same HAL.out)
        replace HT := Lib.hid (HT.out.same HAL.out)
        replace HZ := Lib.hid (HZ.out.same HAL.out)
        replace HB := Lib.hid (HB.out.trans (HAL.out.mono HB.out.size))
        have hs12 : w_11.heap.size < (World.alloc w_11 (.cells #[.slice a90 n90 c90, .slice b90 m90 d90] 27)).heap.size := by simp
        obtain ⟨ea20, eb20, -⟩ := two_cells HX20.out
        obtain ⟨ea22, eb22, -⟩ := two_cells HX22.out
        obtain ⟨ea23, eb23, -⟩ := two_cells HX23.out
        obtain ⟨eaz, ebz, -⟩ := two_cells HXz.out
        clear HAL
        go_wp2_with fail
        clear ea20 eb20 ea22 eb22 ea23 eb23 eaz ebz
        generalize hgen : World.alloc w_11 (.cells #[.slice a90 n90 c90, .slice b90 m90 d90] 27) = w_12 at *
        clear hgen
        have hcall := chooseAnswer_any (c := r1) (d := d1) HV.out HT.out HZ.out HW.out (by omega) (by omega)
        rw [HE.out.1, HE.out.2] at hcall
        refine hcall.mono ?_
        rintro e w_13 ⟨v24, rfl, ho, hb⟩
        clear hcall
        have HN24 := Lib.hid ho
        have hs13 : w_12.heap.size ≤ w_13.heap.size := hb.size
        replace HX20 := Lib.hid (((hb).block _ (by omega)).trans HX20.out)
        replace HX22 := Lib.hid (((hb).block _ (by omega)).trans HX22.out)
        replace HX23 := Lib.hid (((hb).block _ (by omega)).trans HX23.out)
        replace HXz := Lib.hid (((hb).block _ (by omega)).trans HXz.out)
        replace HC := Lib.hid (HC.out.same hb)
        replace HY := Lib.hid (HY.out.same hb)
        replace HV := Lib.hid (HV.out.same hb)
        replace HT := Lib.hid (HT.out.same hb)
        replace HZ := Lib.hid (HZ.out.same hb)
        replace HB := Lib.hid (HB.out.trans (hb.mono HB.out.size))
        clear ho
        clear hb
        have HO24 := HN24
        clear HN24
        obtain ⟨b24, m24, d24, rfl⟩ := HO24.out.shape
        have KP := HO24.out.ans
        obtain ⟨b9, m9, d9, e9, h9, -⟩ := KP
        have h8 := h9.len
        injection e9 with e9
        have h7 : Value.slice b24 m24 d24 = .slice b9 m9 d9 := by simpa using e9
        injection h7 with h71 h72 h73
        subst h71 h72 h73
        have HAV := Lib.hid h9
        have hmA : m24 ≤ 1048576000 := by omega
        clear h9 h8 e9
        obtain ⟨zv, zn, zc, zx, zm, zd, e9, hzv, -⟩ := HZ.out.parts
        have h7 : Value.slice a90 n90 c90 = .slice zv zn zc ∧ Value.slice b90 m90 d90 = .slice zx zm zd := by simpa using e9
        obtain ⟨h71, -⟩ := h7
        injection h71 with h71 h72 h73
        subst h71 h72 h73
        have HZV := Lib.hid hzv.1
        clear hzv e9
        have HVER := Lib.hid HBE.out.2
        have HBB := Lib.hid HBE.out.1
        clear HBE
        have HAL := Lib.hid (alloc_same w_13 (.cells #[.int .i64 A.ver, .slice b24 m24 d24] 39))
        have HX24 := Lib.hid (heap_alloc_new w_13 (.cells #[.int .i64 A.ver, .slice b24 m24 d24] 39 (0, 0)))
        change Hid ((World.alloc w_13 (.cells #[.int .i64 A.ver, .slice b24 m24 d24] 39)).heap[w_13.heap.size]? = _) at HX24
        replace HO24 := Lib.hid (HO24.out.same HAL.out)
        replace HX20 := Lib.hid (((HAL.out).block _ (by omega)).trans HX20.out)
        replace HX22 := Lib.hid (((HAL.out).block _ (by omega)).trans HX22.out)
        replace HX23 := Lib.hid (((HAL.out).block _ (by omega)).trans HX23.out)
        replace HXz := Lib.hid (((HAL.out).block _ (by omega)).trans HXz.out)
        replace HC := Lib.hid (HC.out.same HAL.out)
        replace HY := Lib.hid (HY.out.same HAL.out)
        replace HV := Lib.hid (HV.out.same HAL.out)
        replace HT := Lib.hid (HT.out.same HAL.out)
        replace HZ := Lib.hid (HZ.out.same HAL.out)
        replace HAV := Lib.hid (HAV.out.same HAL.out)
        replace HZV := Lib.hid (HZV.out.same HAL.out)
        replace HB := Lib.hid (HB.out.trans (HAL.out.mono HB.out.size))
        have hs14 : w_13.heap.size < (World.alloc w_13 (.cells #[.int .i64 A.ver, .slice b24 m24 d24] 39)).heap.size := by simp
        obtain ⟨ea20, eb20, -⟩ := two_cells HX20.out
        obtain ⟨ea22, eb22, -⟩ := two_cells HX22.out
        obtain ⟨ea23, eb23, -⟩ := two_cells HX23.out
        obtain ⟨eaz, ebz, -⟩ := two_cells HXz.out
        obtain ⟨ea24, eb24, -⟩ := two_cells HX24.out
        clear HAL
        go_wp2_with fail
        clear ea20 eb20 ea22 eb22 ea23 eb23 eaz ebz ea24 eb24
        generalize hgen : World.alloc w_13 (.cells #[.int .i64 A.ver, .slice b24 m24 d24] 39) = w_14 at *
        clear hgen
        have CXz := Lib.hid (two_cells HXz.out)
        have CX24 := Lib.hid (two_cells HX24.out)
        clear hs1 hs2 hs3 hs4 hs5 hs6 hs7 hs8 hs9 hs10 hs11 hs12 hs13 hs14 HX20 HX22 HX23 HXz HX24
        have HBd : Hid (Below w_14.heap.size w_14 w_14.drew) := Lib.hid (Below.refl _ _).drew
        refine wp_region_held_drew (S := fun w9 => w9.cell? ⟨w_11.heap.size, 0, none⟩ = some (.slice a90 n90 c90) ∧ w9.cell? ⟨w_11.heap.size, 1, none⟩ = some (.slice b90 m90 d90) ∧ w9.cell? ⟨w_13.heap.size, 0, none⟩ = some (.int .i64 A.ver) ∧ w9.cell? ⟨w_13.heap.size, 1, none⟩ = some (.slice b24 m24 d24)) (by kernel_rfl) ⟨cell_stay CXz.out.1 HBd.out, cell_stay CXz.out.2.1 HBd.out, cell_stay CX24.out.1 HBd.out, cell_stay CX24.out.2.1 HBd.out⟩ (fun hHeld => ?_)
        refine wpAnyH_take (i := 0) (v := ?v2064) (by simp only [List.getElem?_toArray, List.getElem?_cons_succ, List.getElem?_cons_zero]; rfl) (by kernel_rfl) (by kernel_rfl) (by kernel_rfl) (by exact fun _ _ _ h => h) (Or.inl ⟨by rfl, fun w9 hS9 => ?hy2064⟩) hHeld ?rest2064
        case hy2064 =>
          dsimp only at hS9
          obtain ⟨y0, y1, y2, y3⟩ := hS9
          go_simp
          try with_reducible rfl
        try simp only [Act.put, List.setIfInBounds_toArray, List.set_cons_zero, List.set_cons_succ]
        refine wpAnyH_take (i := 1) (v := ?v2065) (by simp only [List.getElem?_toArray, List.getElem?_cons_succ, List.getElem?_cons_zero]; rfl) (by kernel_rfl) (by kernel_rfl) (by kernel_rfl) (by exact fun _ _ _ h => h) (Or.inl ⟨by rfl, fun w9 hS9 => ?hy2065⟩) hHeld ?rest2065
        case hy2065 =>
          dsimp only at hS9
          obtain ⟨y0, y1, y2, y3⟩ := hS9
          go_simp
          try with_reducible rfl
        try simp only [Act.put, List.setIfInBounds_toArray, List.set_cons_zero, List.set_cons_succ]
        refine wpAnyH_ready (rs := [2]) (by kernel_rfl) (by simp) (AllReadyH.cons (by simp only [List.getElem?_toArray, List.getElem?_cons_succ, List.getElem?_cons_zero]; rfl) (fun K hK => ?_) AllReadyH.nil)
        go_simp
        refine ((told_true (by exact HF1.out) (fitsHello_any (HZ.out.same HBd.out) (HO24.out.ans.same HBd.out)))).mono ?_
        rintro e w1 ⟨rfl, hb1⟩
        have HB1 : Hid (Below w_14.heap.size w_14 w1) := Lib.hid (HBd.out.trans (hb1.mono HBd.out.size))
        clear hb1
        go_wp2_with fail
        refine hK.out _ _ ⟨cell_stay CXz.out.1 HB1.out, cell_stay CXz.out.2.1 HB1.out, cell_stay CX24.out.1 HB1.out, cell_stay CX24.out.2.1 HB1.out⟩ (fun hHeld => ?_)
        clear hK K
        try simp only [Act.put, List.setIfInBounds_toArray, List.set_cons_zero, List.set_cons_succ]
        refine wpAnyH_take (i := 3) (v := ?v2066) (by simp only [List.getElem?_toArray, List.getElem?_cons_succ, List.getElem?_cons_zero]; rfl) (by kernel_rfl) (by kernel_rfl) (by kernel_rfl) (by exact fun _ _ _ h => h) (Or.inl ⟨by rfl, fun w9 hS9 => ?hy2066⟩) hHeld ?rest2066
        case hy2066 =>
          dsimp only at hS9
          obtain ⟨y0, y1, y2, y3⟩ := hS9
          go_simp
          try with_reducible rfl
        try simp only [Act.put, List.setIfInBounds_toArray, List.set_cons_zero, List.set_cons_succ]
        refine wpAnyH_take (i := 4) (v := ?v2067) (by simp only [List.getElem?_toArray, List.getElem?_cons_succ, List.getElem?_cons_zero]; rfl) (by kernel_rfl) (by kernel_rfl) (by kernel_rfl) (by exact fun _ _ _ h => h) (Or.inl ⟨by rfl, fun w9 hS9 => ?hy2067⟩) hHeld ?rest2067
        case hy2067 =>
          dsimp only at hS9
          obtain ⟨y0, y1, y2, y3⟩ := hS9
          go_simp
          try with_reducible rfl
        try simp only [Act.put, List.setIfInBounds_toArray, List.set_cons_zero, List.set_cons_succ]
        refine wpAnyH_take (i := 5) (v := ?v2068) (by simp only [List.getElem?_toArray, List.getElem?_cons_succ, List.getElem?_cons_zero]; rfl) (by kernel_rfl) (by kernel_rfl) (by kernel_rfl) (by exact fun _ _ _ h => h) (Or.inl ⟨by rfl, fun w9 hS9 => ?hy2068⟩) hHeld ?rest2068
        case hy2068 =>
          dsimp only at hS9
          obtain ⟨y0, y1, y2, y3⟩ := hS9
          go_simp
          try with_reducible rfl
        try simp only [Act.put, List.setIfInBounds_toArray, List.set_cons_zero, List.set_cons_succ]
        refine wpAnyH_take (i := 6) (v := ?v2069) (by simp only [List.getElem?_toArray, List.getElem?_cons_succ, List.getElem?_cons_zero]; rfl) (by kernel_rfl) (by kernel_rfl) (by kernel_rfl) (by exact fun _ _ _ h => h) (Or.inl ⟨by rfl, fun w9 hS9 => ?hy2069⟩) hHeld ?rest2069
        case hy2069 =>
          dsimp only at hS9
          obtain ⟨y0, y1, y2, y3⟩ := hS9
          go_simp
          try with_reducible rfl
        try simp only [Act.put, List.setIfInBounds_toArray, List.set_cons_zero, List.set_cons_succ]
        refine wpAnyH_take (i := 7) (v := ?v2070) (by simp only [List.getElem?_toArray, List.getElem?_cons_succ, List.getElem?_cons_zero]; rfl) (by kernel_rfl) (by kernel_rfl) (by kernel_rfl) (by exact fun _ _ _ h => h) (Or.inl ⟨by rfl, fun w9 hS9 => ?hy2070⟩) hHeld ?rest2070
        case hy2070 =>
          dsimp only at hS9
          obtain ⟨y0, y1, y2, y3⟩ := hS9
          go_simp
          try with_reducible rfl
        try simp only [Act.put, List.setIfInBounds_toArray, List.set_cons_zero, List.set_cons_succ]
        refine wpAnyH_take (i := 8) (v := ?v2071) (by simp only [List.getElem?_toArray, List.getElem?_cons_succ, List.getElem?_cons_zero]; rfl) (by kernel_rfl) (by kernel_rfl) (by kernel_rfl) (by exact fun _ _ _ h => h) (Or.inl ⟨by rfl, fun w9 hS9 => ?hy2071⟩) hHeld ?rest2071
        case hy2071 =>
          dsimp only at hS9
          obtain ⟨y0, y1, y2, y3⟩ := hS9
          go_simp
          try with_reducible rfl
        try simp only [Act.put, List.setIfInBounds_toArray, List.set_cons_zero, List.set_cons_succ]
        refine wpAnyH_ready (rs := [9]) (by kernel_rfl) (by simp) (AllReadyH.cons (by simp only [List.getElem?_toArray, List.getElem?_cons_succ, List.getElem?_cons_zero]; rfl) (fun K hK => ?_) AllReadyH.nil)
        go_simp
        refine ((told_num HBB.out (bestCommon_any (c := r1) (d := c90) (HV.out.same HB1.out) (HZV.out.same HB1.out)))).mono ?_
        rintro e w2 ⟨rfl, hb2⟩
        have HB2 : Hid (Below w_14.heap.size w_14 w2) := Lib.hid (HB1.out.trans (hb2.mono HB1.out.size))
        clear hb2
        go_wp2_with fail
        refine hK.out _ _ ⟨cell_stay CXz.out.1 HB2.out, cell_stay CXz.out.2.1 HB2.out, cell_stay CX24.out.1 HB2.out, cell_stay CX24.out.2.1 HB2.out⟩ (fun hHeld => ?_)
        clear hK K
        try simp only [Act.put, List.setIfInBounds_toArray, List.set_cons_zero, List.set_cons_succ]
        refine wpAnyH_take (i := 10) (v := .bool true) (by simp only [List.getElem?_toArray, List.getElem?_cons_succ, List.getElem?_cons_zero]; rfl) (by kernel_rfl) (by kernel_rfl) (by kernel_rfl) (by exact fun _ _ _ h => h) (Or.inl ⟨by rfl, fun w9 hS9 => ?hy2072⟩) hHeld ?rest2072
        case hy2072 =>
          dsimp only at hS9
          obtain ⟨y0, y1, y2, y3⟩ := hS9
          go_simp
          (rw [HVER.out]; try simp)
        try simp only [Act.put, List.setIfInBounds_toArray, List.set_cons_zero, List.set_cons_succ]
        refine wpAnyH_take (i := 11) (v := ?v2073) (by simp only [List.getElem?_toArray, List.getElem?_cons_succ, List.getElem?_cons_zero]; rfl) (by kernel_rfl) (by kernel_rfl) (by kernel_rfl) (by exact fun _ _ _ h => h) (Or.inl ⟨by rfl, fun w9 hS9 => ?hy2073⟩) hHeld ?rest2073
        case hy2073 =>
          dsimp only at hS9
          obtain ⟨y0, y1, y2, y3⟩ := hS9
          go_simp
          try with_reducible rfl
        try simp only [Act.put, List.setIfInBounds_toArray, List.set_cons_zero, List.set_cons_succ]
        refine wpAnyH_take (i := 12) (v := ?v2074) (by simp only [List.getElem?_toArray, List.getElem?_cons_succ, List.getElem?_cons_zero]; rfl) (by kernel_rfl) (by kernel_rfl) (by kernel_rfl) (by exact fun _ _ _ h => h) (Or.inl ⟨by rfl, fun w9 hS9 => ?hy2074⟩) hHeld ?rest2074
        case hy2074 =>
          dsimp only at hS9
          obtain ⟨y0, y1, y2, y3⟩ := hS9
          go_simp
          try with_reducible rfl
        try simp only [Act.put, List.setIfInBounds_toArray, List.set_cons_zero, List.set_cons_succ]
        refine wpAnyH_take (i := 13) (v := ?v2075) (by simp only [List.getElem?_toArray, List.getElem?_cons_succ, List.getElem?_cons_zero]; rfl) (by kernel_rfl) (by kernel_rfl) (by kernel_rfl) (by exact fun _ _ _ h => h) (Or.inl ⟨by rfl, fun w9 hS9 => ?hy2075⟩) hHeld ?rest2075
        case hy2075 =>
          dsimp only at hS9
          obtain ⟨y0, y1, y2, y3⟩ := hS9
          go_simp
          try with_reducible rfl
        try simp only [Act.put, List.setIfInBounds_toArray, List.set_cons_zero, List.set_cons_succ]
        refine wpAnyH_take (i := 14) (v := ?v2076) (by simp only [List.getElem?_toArray, List.getElem?_cons_succ, List.getElem?_cons_zero]; rfl) (by kernel_rfl) (by kernel_rfl) (by kernel_rfl) (by exact fun _ _ _ h => h) (Or.inl ⟨by rfl, fun w9 hS9 => ?hy2076⟩) hHeld ?rest2076
        case hy2076 =>
          dsimp only at hS9
          obtain ⟨y0, y1, y2, y3⟩ := hS9
          go_simp
          try with_reducible rfl
        try simp only [Act.put, List.setIfInBounds_toArray, List.set_cons_zero, List.set_cons_succ]
        refine wpAnyH_take (i := 16) (v := ?v2077) (by simp only [List.getElem?_toArray, List.getElem?_cons_succ, List.getElem?_cons_zero]; rfl) (by kernel_rfl) (by kernel_rfl) (by kernel_rfl) (by exact fun _ _ _ h => h) (Or.inl ⟨by rfl, fun w9 hS9 => ?hy2077⟩) hHeld ?rest2077
        case hy2077 =>
          dsimp only at hS9
          obtain ⟨y0, y1, y2, y3⟩ := hS9
          go_simp
          try with_reducible rfl
        try simp only [Act.put, List.setIfInBounds_toArray, List.set_cons_zero, List.set_cons_succ]
        refine wpAnyH_ready (rs := [15]) (by kernel_rfl) (by simp) (AllReadyH.cons (by simp only [List.getElem?_toArray, List.getElem?_cons_succ, List.getElem?_cons_zero]; rfl) (fun K hK => ?_) AllReadyH.nil)
        go_simp
        refine (tagsOf_any (c := d24) (HAV.out.same HB2.out) hmA).mono ?_
        rintro e w3 ⟨bt, mt, dt, rfl, ho3, hb3⟩
        have HB3 : Hid (Below w_14.heap.size w_14 w3) := Lib.hid (HB2.out.trans (hb3.mono HB2.out.size))
        have HTA := Lib.hid ho3.nums
        clear ho3
        clear hb3
        go_wp2_with fail
        refine hK.out _ _ ⟨cell_stay CXz.out.1 HB3.out, cell_stay CXz.out.2.1 HB3.out, cell_stay CX24.out.1 HB3.out, cell_stay CX24.out.2.1 HB3.out⟩ (fun hHeld => ?_)
        clear hK K
        try simp only [Act.put, List.setIfInBounds_toArray, List.set_cons_zero, List.set_cons_succ]
        refine wpAnyH_ready (rs := [17]) (by kernel_rfl) (by simp) (AllReadyH.cons (by simp only [List.getElem?_toArray, List.getElem?_cons_succ, List.getElem?_cons_zero]; rfl) (fun K hK => ?_) AllReadyH.nil)
        go_simp
        refine (within_yes (c := dt) (d := d1) HTA.out (HT.out.same HB3.out) HF3.out).mono ?_
        rintro e w4 ⟨rfl, hb4⟩
        have HB4 : Hid (Below w_14.heap.size w_14 w4) := Lib.hid (HB3.out.trans (hb4.mono HB3.out.size))
        clear hb4
        go_wp2_with fail
        refine hK.out _ _ ⟨cell_stay CXz.out.1 HB4.out, cell_stay CXz.out.2.1 HB4.out, cell_stay CX24.out.1 HB4.out, cell_stay CX24.out.2.1 HB4.out⟩ (fun hHeld => ?_)
        clear hK K
        try simp only [Act.put, List.setIfInBounds_toArray, List.set_cons_zero, List.set_cons_succ]
        refine wpAnyH_take (i := 18) (v := ?v2078) (by simp only [List.getElem?_toArray, List.getElem?_cons_succ, List.getElem?_cons_zero]; rfl) (by kernel_rfl) (by kernel_rfl) (by kernel_rfl) (by exact fun _ _ _ h => h) (Or.inl ⟨by rfl, fun w9 hS9 => ?hy2078⟩) hHeld ?rest2078
        case hy2078 =>
          dsimp only at hS9
          obtain ⟨y0, y1, y2, y3⟩ := hS9
          go_simp
          try with_reducible rfl
        try simp only [Act.put, List.setIfInBounds_toArray, List.set_cons_zero, List.set_cons_succ]
        refine wpAnyH_take (i := 19) (v := ?v2079) (by simp only [List.getElem?_toArray, List.getElem?_cons_succ, List.getElem?_cons_zero]; rfl) (by kernel_rfl) (by kernel_rfl) (by kernel_rfl) (by exact fun _ _ _ h => h) (Or.inl ⟨by rfl, fun w9 hS9 => ?hy2079⟩) hHeld ?rest2079
        case hy2079 =>
          dsimp only at hS9
          obtain ⟨y0, y1, y2, y3⟩ := hS9
          go_simp
          try with_reducible rfl
        try simp only [Act.put, List.setIfInBounds_toArray, List.set_cons_zero, List.set_cons_succ]
        refine wpAnyH_take (i := 20) (v := ?v2080) (by simp only [List.getElem?_toArray, List.getElem?_cons_succ, List.getElem?_cons_zero]; rfl) (by kernel_rfl) (by kernel_rfl) (by kernel_rfl) (by exact fun _ _ _ h => h) (Or.inl ⟨by rfl, fun w9 hS9 => ?hy2080⟩) hHeld ?rest2080
        case hy2080 =>
          dsimp only at hS9
          obtain ⟨y0, y1, y2, y3⟩ := hS9
          go_simp
          try with_reducible rfl
        try simp only [Act.put, List.setIfInBounds_toArray, List.set_cons_zero, List.set_cons_succ]
        refine wpAnyH_ready (rs := [21]) (by kernel_rfl) (by simp) (AllReadyH.cons (by simp only [List.getElem?_toArray, List.getElem?_cons_succ, List.getElem?_cons_zero]; rfl) (fun K hK => ?_) AllReadyH.nil)
        go_simp
        refine (answerBytes_any (HO24.out.ans.same HB4.out)).mono ?_
        rintro e w5 ⟨bz, mz, dz, rfl, ho5, hb5⟩
        have HB5 : Hid (Below w_14.heap.size w_14 w5) := Lib.hid (HB4.out.trans (hb5.mono HB4.out.size))
        have hpos : 0 < mz := by have h1 := ho5.len; have h2 := HF4.out; omega
        clear ho5
        clear hb5
        go_wp2_with fail
        refine hK.out _ _ ⟨cell_stay CXz.out.1 HB5.out, cell_stay CXz.out.2.1 HB5.out, cell_stay CX24.out.1 HB5.out, cell_stay CX24.out.2.1 HB5.out⟩ (fun hHeld => ?_)
        clear hK K
        try simp only [Act.put, List.setIfInBounds_toArray, List.set_cons_zero, List.set_cons_succ]
        refine wpAnyH_take (i := 22) (v := ?v2081) (by simp only [List.getElem?_toArray, List.getElem?_cons_succ, List.getElem?_cons_zero]; rfl) (by kernel_rfl) (by kernel_rfl) (by kernel_rfl) (by exact fun _ _ _ h => h) (Or.inl ⟨by rfl, fun w9 hS9 => ?hy2081⟩) hHeld ?rest2081
        case hy2081 =>
          dsimp only at hS9
          obtain ⟨y0, y1, y2, y3⟩ := hS9
          go_simp
          try with_reducible rfl
        try simp only [Act.put, List.setIfInBounds_toArray, List.set_cons_zero, List.set_cons_succ]
        refine wpAnyH_take (i := 23) (v := ?v2082) (by simp only [List.getElem?_toArray, List.getElem?_cons_succ, List.getElem?_cons_zero]; rfl) (by kernel_rfl) (by kernel_rfl) (by kernel_rfl) (by exact fun _ _ _ h => h) (Or.inl ⟨by rfl, fun w9 hS9 => ?hy2082⟩) hHeld ?rest2082
        case hy2082 =>
          dsimp only at hS9
          obtain ⟨y0, y1, y2, y3⟩ := hS9
          go_simp
          try with_reducible rfl
        try simp only [Act.put, List.setIfInBounds_toArray, List.set_cons_zero, List.set_cons_succ]
        refine wpAnyH_take (i := 24) (v := ?v2083) (by simp only [List.getElem?_toArray, List.getElem?_cons_succ, List.getElem?_cons_zero]; rfl) (by kernel_rfl) (by kernel_rfl) (by kernel_rfl) (by exact fun _ _ _ h => h) (Or.inl ⟨by rfl, fun w9 hS9 => ?hy2083⟩) hHeld ?rest2083
        case hy2083 =>
          dsimp only at hS9
          obtain ⟨y0, y1, y2, y3⟩ := hS9
          go_simp
          try with_reducible rfl
        try simp only [Act.put, List.setIfInBounds_toArray, List.set_cons_zero, List.set_cons_succ]
        refine wpAnyH_take (i := 25) (v := ?v2084) (by simp only [List.getElem?_toArray, List.getElem?_cons_succ, List.getElem?_cons_zero]; rfl) (by kernel_rfl) (by kernel_rfl) (by kernel_rfl) (by exact fun _ _ _ h => h) (Or.inl ⟨by rfl, fun w9 hS9 => ?hy2084⟩) hHeld ?rest2084
        case hy2084 =>
          dsimp only at hS9
          obtain ⟨y0, y1, y2, y3⟩ := hS9
          go_simp
          try with_reducible rfl
        try simp only [Act.put, List.setIfInBounds_toArray, List.set_cons_zero, List.set_cons_succ]
        refine wpAnyH_done (by kernel_rfl) ?_ _
        replace HB := Lib.hid (HB.out.trans (HB5.out.mono HB.out.size))
        go_wp2_with fail
        go_ret
        exact ⟨rfl, HB.out⟩

set_option maxRecDepth 100000 in
theorem lifted (os : Os) (started : os.Started) (H : Type) (enc : TypeId × Value → H) :
    ReturnsInHanded {} Try.checked os 3 .any (Rows.fnHellosSpec.pre6 enc Try.prog Try.f3 Rows.fnHellosRow.domain false) (Rows.fnHellosSpec.post enc Try.prog Try.f3 false true false false) := by
  refine returnsInHanded_of_change (C := Try.checked) own started (by kernel_rfl) Try.func3
    (ChangeSpec.witness6 (enc := enc) (C := Try.checked) false ⟨#[], #[.slice none 0 0], []⟩ 8 (by kernel_rfl) (by kernel_rfl) (by kernel_rfl) (by kernel_rfl)) ?_
  intro W base args ds gs before hval0 hW hcnd _
  have hval : ∀ (j : Nat) t v, Try.f3.params[j]? = some t → args[j]? = some v → Value.okWide Try.prog W .any base t v := hval0
  have hW' := hW
  obtain ⟨p, q, hA0, hV, rfl, hfz, hnd⟩ := hW
  have hA : DataW.TrodAll enc Try.prog W 0 (fun _ => true) true Try.f3.params.toList args.toList ds p := hA0
  rw [Try.params3] at hA hval
  obtain ⟨v0, vs0, d0, ds0, p0, q0, hargs, rfl, rfl, h0, r0⟩ := trodAll_cons hA
  obtain ⟨rfl, rfl, rfl⟩ := trodAll_nil r0
  obtain rfl : args = #[v0] := by cases args; simp_all
  obtain ⟨rfl, rfl⟩ := trodVars_none hV
  have h0k := h0
  have hlt0 : ∀ x ∈ p0, x.block < W.heap.size := fun x hx => by simpa using hW'.lt x (by simp [hx])
  obtain ⟨a0, n0, c0, l0, rfl, K0, F0, R0⟩ := open_nums Try.underlying22 Try.underlying5 byte_cells (hval 0 22 v0 rfl rfl) h0
  clear hA0 hval0
  simp only [List.append_nil] at hW'
  refine (walk a0 n0 c0 l0 W K0 F0 R0).mono fun e W' ⟨he, hb⟩ => ?_
  subst he
  exact ⟨_, rfl, ⟨_, _, _, [], _, [], hW', (trodAll_cons_mk (shut_bool Try.underlying4 _) trodAll_mk0), (trodAll_cons_mk (Below.trod laidOut (by kernel_rfl) (of_decide_eq_true (by kernel_rfl)) h0k hb hlt0) trodAll_mk0), rfl, hb.frame _, fun h => by cases h⟩⟩

theorem over : Rows.fnHellosRow.holds Try.pinned (OpenSpec.ofChange Rows.fnHellosSpec) :=
  OpenClaim.holds_of_wide 3 Try.f3 rfl rfl rfl rfl rfl rfl rfl ⟨rfl, rfl, rfl, rfl, rfl⟩ rfl rfl rfl rfl rfl (by kernel_rfl) Try.func3 (by kernel_rfl)
    (of_decide_eq_true (by kernel_rfl)) (by unfold Func.isWrapper; first | (rw [if_pos (by decide +kernel)]; kernel_rfl) | (rw [if_neg (by decide +kernel)]; exact ⟨rfl, rfl⟩))
    (fun os started H enc _ => lifted os started H enc)

theorem proved : Rows.FnHellosSaid :=
  over
end Go.Proofs.Ytcpnchjgklemgaa.fnHellos
