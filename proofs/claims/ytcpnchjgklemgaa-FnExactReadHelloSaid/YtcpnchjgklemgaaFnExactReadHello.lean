/- ReadHello: the program answers as its model. -/
import Derived.Test.YtcpnchjgklemgaaG22
import Derived.Test.YtcpnchjgklemgaaG26
import Derived.Test.YtcpnchjgklemgaaG25
import Derived.Test.YtcpnchjgklemgaaG1
import Derived.WalkKit
import Derived.Deep.RegionHeld3
import Derived.ProofKit
import Derived.OpenShut
namespace Go.Proofs.Ytcpnchjgklemgaa.fnExactReadHello
open Go.ChangeShapes Go.WideShapes Go.ChangeAt Go.RowKit Go.Lib
open Go.ChangeMaps (open_string shut_string)
set_option linter.unusedVariables false

theorem own : ownKnob Try.prog.godebug = none := by kernel_rfl
set_option linter.unusedSimpArgs false

set_option maxHeartbeats 4000000 in
set_option maxRecDepth 100000 in
theorem walk (a0 : Option Addr) (n0 c0 : Nat) (l0 : List Int) (w : World) (K0 : Nums .i64 w a0 n0 l0) (F0 : ∀ x ∈ l0, (Lit.int .i64 x).wf = true) (R0 : n0 ≤ c0 ∧ (c0 : Int) ≤ 9223372036854775807) :
    Calls Try.prog 7 #[.slice a0 n0 c0] w fun e w' => e = .returned (.bool true) ∧ Below w.heap.size w w' := by
  have hfit0 := K0.fits
  by_cases hbig0 : 1048576 < n0
  · go_enter Try.func7, Try.ntmps7
    go_wp2_with fail
    go_ret
    exact ⟨rfl, Below.refl _ _⟩
  have HK0 := Lib.hid K0
  have HR0 := Lib.hid R0
  have hn0 : n0 ≤ 1048576 := by omega
  have HF0 := Lib.hid F0
  have hpw := rdHel_parts l0
  clear K0 F0 R0
  have HB := Lib.hid (Below.refl w.heap.size w)
  go_enter Try.func7, Try.ntmps7
  go_wp2_with fail
  skip
  go_wp2_with fail
  refine (toIntS_any a0 n0 c0 l0 _ (HK0.out.same HB.out) (by omega)).mono ?_
  rintro e w_1 ⟨b21, m21, d21, rfl, ho, hb⟩
  have hm21 : m21 ≤ 1048576 := by have hl := ho.len; have := HK0.out.len; omega
  have HN21 := Lib.hid ho
  have HS21 := Lib.hid ho.span
  have hs1 : w.heap.size ≤ w_1.heap.size := hb.size
  replace HB := Lib.hid (HB.out.trans (hb.mono HB.out.size))
  clear ho
  clear hb
  have HO21 := HN21
  clear HN21
  go_wp2_with fail
  refine (specReadHello_any HO21.out.nums HO21.out.room (by omega)).mono ?_
  rintro e w_2 ⟨v22, rfl, ho, hb⟩
  have HN22 := Lib.hid ho
  have hs2 : w_1.heap.size ≤ w_2.heap.size := hb.size
  replace HO21 := Lib.hid (HO21.out.same hb)
  replace HB := Lib.hid (HB.out.trans (hb.mono HB.out.size))
  clear ho
  clear hb
  have HO22 := HN22
  clear HN22
  obtain ⟨a22, n22, c22, b22, m22, d22, rfl⟩ := HO22.out.shape
  clear HO21
  have HAL := Lib.hid (alloc_same w_2 (.cells #[.slice a22 n22 c22, .slice b22 m22 d22] 27))
  have HX22 := Lib.hid (heap_alloc_new w_2 (.cells #[.slice a22 n22 c22, .slice b22 m22 d22] 27 (0, 0)))
  change Hid ((World.alloc w_2 (.cells #[.slice a22 n22 c22, .slice b22 m22 d22] 27)).heap[w_2.heap.size]? = _) at HX22
  replace HO22 := Lib.hid (HO22.out.same HAL.out)
  replace HB := Lib.hid (HB.out.trans (HAL.out.mono HB.out.size))
  have hs3 : w_2.heap.size < (World.alloc w_2 (.cells #[.slice a22 n22 c22, .slice b22 m22 d22] 27)).heap.size := by simp
  obtain ⟨ea22, eb22, -⟩ := two_cells HX22.out
  clear HAL
  go_wp2_with fail
  clear ea22 eb22
  generalize hgen : World.alloc w_2 (.cells #[.slice a22 n22 c22, .slice b22 m22 d22] 27) = w_3 at *
  clear hgen
  refine (toIntS_any a0 n0 c0 l0 _ (HK0.out.same HB.out) (by omega)).mono ?_
  rintro e w_4 ⟨b23, m23, d23, rfl, ho, hb⟩
  have hm23 : m23 ≤ 1048576 := by have hl := ho.len; have := HK0.out.len; omega
  have HN23 := Lib.hid ho
  have HS23 := Lib.hid ho.span
  have hs4 : w_3.heap.size ≤ w_4.heap.size := hb.size
  replace HO22 := Lib.hid (HO22.out.same hb)
  replace HX22 := Lib.hid (((hb).block _ (by omega)).trans HX22.out)
  replace HB := Lib.hid (HB.out.trans (hb.mono HB.out.size))
  clear ho
  clear hb
  have HO23 := HN23
  clear HN23
  obtain ⟨ea22, eb22, -⟩ := two_cells HX22.out
  go_wp2_with fail
  clear ea22 eb22
  refine (readHello_any HO23.out.nums HO23.out.room (by omega)).mono ?_
  rintro e w_5 ⟨v24, rfl, ho, hb⟩
  have HN24 := Lib.hid ho
  have hs5 : w_4.heap.size ≤ w_5.heap.size := hb.size
  replace HO22 := Lib.hid (HO22.out.same hb)
  replace HO23 := Lib.hid (HO23.out.same hb)
  replace HX22 := Lib.hid (((hb).block _ (by omega)).trans HX22.out)
  replace HB := Lib.hid (HB.out.trans (hb.mono HB.out.size))
  clear ho
  clear hb
  have HO24 := HN24
  clear HN24
  obtain ⟨a24, n24, c24, b24, m24, d24, rfl⟩ := HO24.out.shape
  have HAL := Lib.hid (alloc_same w_5 (.cells #[.slice a24 n24 c24, .slice b24 m24 d24] 27))
  have HX24 := Lib.hid (heap_alloc_new w_5 (.cells #[.slice a24 n24 c24, .slice b24 m24 d24] 27 (0, 0)))
  change Hid ((World.alloc w_5 (.cells #[.slice a24 n24 c24, .slice b24 m24 d24] 27)).heap[w_5.heap.size]? = _) at HX24
  replace HO22 := Lib.hid (HO22.out.same HAL.out)
  replace HO23 := Lib.hid (HO23.out.same HAL.out)
  replace HO24 := Lib.hid (HO24.out.same HAL.out)
  replace HX22 := Lib.hid (((HAL.out).block _ (by omega)).trans HX22.out)
  replace HB := Lib.hid (HB.out.trans (HAL.out.mono HB.out.size))
  have hs6 : w_5.heap.size < (World.alloc w_5 (.cells #[.slice a24 n24 c24, .slice b24 m24 d24] 27)).heap.size := by simp
  obtain ⟨ea22, eb22, -⟩ := two_cells HX22.out
  obtain ⟨ea24, eb24, -⟩ := two_cells HX24.out
  clear HAL
  go_wp2_with fail
  clear ea22 eb22 ea24 eb24
  generalize hgen : World.alloc w_5 (.cells #[.slice a24 n24 c24, .slice b24 m24 d24] 27) = w_6 at *
  clear hgen
  refine (eqHello_yes HO24.out.hel HO22.out.hel).mono ?_
  rintro e w_7 ⟨rfl, hb⟩
  have hs7 : w_6.heap.size ≤ w_7.heap.size := hb.size
  replace HO22 := Lib.hid (HO22.out.same hb)
  replace HO23 := Lib.hid (HO23.out.same hb)
  replace HO24 := Lib.hid (HO24.out.same hb)
  replace HX22 := Lib.hid (((hb).block _ (by omega)).trans HX22.out)
  replace HX24 := Lib.hid (((hb).block _ (by omega)).trans HX24.out)
  replace HB := Lib.hid (HB.out.trans (hb.mono HB.out.size))
  clear hb
  obtain ⟨ea22, eb22, -⟩ := two_cells HX22.out
  obtain ⟨ea24, eb24, -⟩ := two_cells HX24.out
  go_wp2_with fail
  clear ea22 eb22 ea24 eb24
  refine (toIntS_any a0 n0 c0 l0 _ (HK0.out.same HB.out) (by omega)).mono ?_
  rintro e w_8 ⟨b25, m25, d25, rfl, ho, hb⟩
  have hm25 : m25 ≤ 1048576 := by have hl := ho.len; have := HK0.out.len; omega
  have HN25 := Lib.hid ho
  have HS25 := Lib.hid ho.span
  have hs8 : w_7.heap.size ≤ w_8.heap.size := hb.size
  replace HO22 := Lib.hid (HO22.out.same hb)
  replace HO23 := Lib.hid (HO23.out.same hb)
  replace HO24 := Lib.hid (HO24.out.same hb)
  replace HX22 := Lib.hid (((hb).block _ (by omega)).trans HX22.out)
  replace HX24 := Lib.hid (((hb).block _ (by omega)).trans HX24.out)
  replace HB := Lib.hid (HB.out.trans (hb.mono HB.out.size))
  clear ho
  clear hb
  have HO25 := HN25
  clear HN25
  obtain ⟨ea22, eb22, -⟩ := two_cells HX22.out
  obtain ⟨ea24, eb24, -⟩ := two_cells HX24.out
  go_wp2_with fail
  clear ea22 eb22 ea24 eb24
  refine (eqIntS_yes b23 b25 m23 m25 d23 d25 _ _ HO23.out.nums HO25.out.nums).mono ?_
  rintro e w_9 ⟨rfl, hb⟩
  have hs9 : w_8.heap.size ≤ w_9.heap.size := hb.size
  replace HO22 := Lib.hid (HO22.out.same hb)
  replace HO23 := Lib.hid (HO23.out.same hb)
  replace HO24 := Lib.hid (HO24.out.same hb)
  replace HO25 := Lib.hid (HO25.out.same hb)
  replace HX22 := Lib.hid (((hb).block _ (by omega)).trans HX22.out)
  replace HX24 := Lib.hid (((hb).block _ (by omega)).trans HX24.out)
  replace HB := Lib.hid (HB.out.trans (hb.mono HB.out.size))
  clear hb
  clear HO25
  obtain ⟨ea22, eb22, -⟩ := two_cells HX22.out
  obtain ⟨ea24, eb24, -⟩ := two_cells HX24.out
  go_wp2_with fail
  clear ea22 eb22 ea24 eb24
  refine (markIntS_any _ b23 m23 d23 (1) l0 _ HO23.out (by omega) (by omega)).mono ?_
  rintro e w_10 ⟨rfl, ho, hg0⟩
  have hg : Inside w_3.heap.size w_4.heap.size w_9 w_10 := Inside.row hg0 fun r e => by obtain ⟨ad, e1, rfl⟩ := block_of e; exact HS23.out ad e1
  have hs10 : w_9.heap.size ≤ w_10.heap.size := hg.size
  replace HO22 := Lib.hid (HO22.out.aside hg (by omega))
  replace HO24 := Lib.hid (HO24.out.aside hg (by omega))
  replace HX22 := Lib.hid ((hg.block _ (by omega) (by omega)).trans HX22.out)
  replace HX24 := Lib.hid ((hg.block _ (by omega) (by omega)).trans HX24.out)
  replace HO23 := Lib.hid ho
  replace HB := Lib.hid (hg.to HB.out (by omega) HB.out.size)
  clear ho hg hg0
  obtain ⟨ea22, eb22, -⟩ := two_cells HX22.out
  obtain ⟨ea24, eb24, -⟩ := two_cells HX24.out
  go_wp2_with fail
  clear ea22 eb22 ea24 eb24
  refine (eqHello_yes HO24.out.hel HO22.out.hel).mono ?_
  rintro e w_11 ⟨rfl, hb⟩
  have hs11 : w_10.heap.size ≤ w_11.heap.size := hb.size
  replace HO22 := Lib.hid (HO22.out.same hb)
  replace HO23 := Lib.hid (HO23.out.same hb)
  replace HO24 := Lib.hid (HO24.out.same hb)
  replace HX22 := Lib.hid (((hb).block _ (by omega)).trans HX22.out)
  replace HX24 := Lib.hid (((hb).block _ (by omega)).trans HX24.out)
  replace HB := Lib.hid (HB.out.trans (hb.mono HB.out.size))
  clear hb
  obtain ⟨ea22, eb22, -⟩ := two_cells HX22.out
  obtain ⟨ea24, eb24, -⟩ := two_cells HX24.out
  go_wp2_with fail
  clear ea22 eb22 ea24 eb24
  refine (markHello_any (k := 1) HO24.out (by omega) (by omega)).mono ?_
  rintro e w_12 ⟨rfl, ho, hg⟩
  have hs12 : w_11.heap.size ≤ w_12.heap.size := hg.size
  replace HO22 := Lib.hid (HO22.out.aside hg (by omega))
  replace HO23 := Lib.hid (HO23.out.aside hg HS23.out (by omega))
  replace HX22 := Lib.hid ((hg.block _ (by omega) (by omega)).trans HX22.out)
  replace HX24 := Lib.hid ((hg.block _ (by omega) (by omega)).trans HX24.out)
  replace HO24 := Lib.hid ho
  replace HB := Lib.hid (hg.to HB.out (by omega) HB.out.size)
  clear ho hg
  obtain ⟨ea22, eb22, -⟩ := two_cells HX22.out
  obtain ⟨ea24, eb24, -⟩ := two_cells HX24.out
  go_wp2_with fail
  clear ea22 eb22 ea24 eb24
  refine (heldHello_any (k := 1) (x := (rdHel l0)) HO24.out.hel (by omega) (by omega)).mono ?_
  rintro e w_13 ⟨rfl, hb⟩
  have hs13 : w_12.heap.size ≤ w_13.heap.size := hb.size
  replace HO22 := Lib.hid (HO22.out.same hb)
  replace HO23 := Lib.hid (HO23.out.same hb)
  replace HO24 := Lib.hid (HO24.out.same hb)
  replace HX22 := Lib.hid (((hb).block _ (by omega)).trans HX22.out)
  replace HX24 := Lib.hid (((hb).block _ (by omega)).trans HX24.out)
  replace HB := Lib.hid (HB.out.trans (hb.mono HB.out.size))
  clear hb
  obtain ⟨ea22, eb22, -⟩ := two_cells HX22.out
  obtain ⟨ea24, eb24, -⟩ := two_cells HX24.out
  go_wp2_with fail
  clear ea22 eb22 ea24 eb24
  refine (toIntS_any a0 n0 c0 l0 _ (HK0.out.same HB.out) (by omega)).mono ?_
  rintro e w_14 ⟨b26, m26, d26, rfl, ho, hb⟩
  have hm26 : m26 ≤ 1048576 := by have hl := ho.len; have := HK0.out.len; omega
  have HN26 := Lib.hid ho
  have HS26 := Lib.hid ho.span
  have hs14 : w_13.heap.size ≤ w_14.heap.size := hb.size
  replace HO22 := Lib.hid (HO22.out.same hb)
  replace HO23 := Lib.hid (HO23.out.same hb)
  replace HO24 := Lib.hid (HO24.out.same hb)
  replace HX22 := Lib.hid (((hb).block _ (by omega)).trans HX22.out)
  replace HX24 := Lib.hid (((hb).block _ (by omega)).trans HX24.out)
  replace HB := Lib.hid (HB.out.trans (hb.mono HB.out.size))
  clear ho
  clear hb
  have HO26 := HN26
  clear HN26
  obtain ⟨ea22, eb22, -⟩ := two_cells HX22.out
  obtain ⟨ea24, eb24, -⟩ := two_cells HX24.out
  go_wp2_with fail
  clear ea22 eb22 ea24 eb24
  refine (readHello_any HO26.out.nums HO26.out.room (by omega)).mono ?_
  rintro e w_15 ⟨v27, rfl, ho, hb⟩
  have HN27 := Lib.hid ho
  have hs15 : w_14.heap.size ≤ w_15.heap.size := hb.size
  replace HO22 := Lib.hid (HO22.out.same hb)
  replace HO23 := Lib.hid (HO23.out.same hb)
  replace HO24 := Lib.hid (HO24.out.same hb)
  replace HO26 := Lib.hid (HO26.out.same hb)
  replace HX22 := Lib.hid (((hb).block _ (by omega)).trans HX22.out)
  replace HX24 := Lib.hid (((hb).block _ (by omega)).trans HX24.out)
  replace HB := Lib.hid (HB.out.trans (hb.mono HB.out.size))
  clear ho
  clear hb
  have HO27 := HN27
  clear HN27
  obtain ⟨a27, n27, c27, b27, m27, d27, rfl⟩ := HO27.out.shape
  clear HO26
  have HAL := Lib.hid (alloc_same w_15 (.cells #[.slice a27 n27 c27, .slice b27 m27 d27] 27))
  have HX27 := Lib.hid (heap_alloc_new w_15 (.cells #[.slice a27 n27 c27, .slice b27 m27 d27] 27 (0, 0)))
  change Hid ((World.alloc w_15 (.cells #[.slice a27 n27 c27, .slice b27 m27 d27] 27)).heap[w_15.heap.size]? = _) at HX27
  replace HO22 := Lib.hid (HO22.out.same HAL.out)
  replace HO23 := Lib.hid (HO23.out.same HAL.out)
  replace HO24 := Lib.hid (HO24.out.same HAL.out)
  replace HO27 := Lib.hid (HO27.out.same HAL.out)
  replace HX22 := Lib.hid (((HAL.out).block _ (by omega)).trans HX22.out)
  replace HX24 := Lib.hid (((HAL.out).block _ (by omega)).trans HX24.out)
  replace HB := Lib.hid (HB.out.trans (HAL.out.mono HB.out.size))
  have hs16 : w_15.heap.size < (World.alloc w_15 (.cells #[.slice a27 n27 c27, .slice b27 m27 d27] 27)).heap.size := by simp
  obtain ⟨ea22, eb22, -⟩ := two_cells HX22.out
  obtain ⟨ea24, eb24, -⟩ := two_cells HX24.out
  obtain ⟨ea27, eb27, -⟩ := two_cells HX27.out
  clear HAL
  go_wp2_with fail
  clear ea22 eb22 ea24 eb24 ea27 eb27
  generalize hgen : World.alloc w_15 (.cells #[.slice a27 n27 c27, .slice b27 m27 d27] 27) = w_16 at *
  clear hgen
  refine (eqHello_yes HO27.out.hel HO22.out.hel).mono ?_
  rintro e w_17 ⟨rfl, hb⟩
  have hs17 : w_16.heap.size ≤ w_17.heap.size := hb.size
  replace HO22 := Lib.hid (HO22.out.same hb)
  replace HO23 := Lib.hid (HO23.out.same hb)
  replace HO24 := Lib.hid (HO24.out.same hb)
  replace HO27 := Lib.hid (HO27.out.same hb)
  replace HX22 := Lib.hid (((hb).block _ (by omega)).trans HX22.out)
  replace HX24 := Lib.hid (((hb).block _ (by omega)).trans HX24.out)
  replace HX27 := Lib.hid (((hb).block _ (by omega)).trans HX27.out)
  replace HB := Lib.hid (HB.out.trans (hb.mono HB.out.size))
  clear hb
  obtain ⟨ea22, eb22, -⟩ := two_cells HX22.out
  obtain ⟨ea24, eb24, -⟩ := two_cells HX24.out
  obtain ⟨ea27, eb27, -⟩ := two_cells HX27.out
  go_wp2_with fail
  clear ea22 eb22 ea24 eb24 ea27 eb27
  refine (heldHello_any (k := 1) (x := (rdHel l0)) HO24.out.hel (by omega) (by omega)).mono ?_
  rintro e w_18 ⟨rfl, hb⟩
  have hs18 : w_17.heap.size ≤ w_18.heap.size := hb.size
  replace HO22 := Lib.hid (HO22.out.same hb)
  replace HO23 := Lib.hid (HO23.out.same hb)
  replace HO24 := Lib.hid (HO24.out.same hb)
  replace HO27 := Lib.hid (HO27.out.same hb)
  replace HX22 := Lib.hid (((hb).block _ (by omega)).trans HX22.out)
  replace HX24 := Lib.hid (((hb).block _ (by omega)).trans HX24.out)
  replace HX27 := Lib.hid (((hb).block _ (by omega)).trans HX27.out)
  replace HB := Lib.hid (HB.out.trans (hb.mono HB.out.size))
  clear hb
  obtain ⟨ea22, eb22, -⟩ := two_cells HX22.out
  obtain ⟨ea24, eb24, -⟩ := two_cells HX24.out
  obtain ⟨ea27, eb27, -⟩ := two_cells HX27.out
  go_wp2_with fail
  clear ea22 eb22 ea24 eb24 ea27 eb27
  go_ret
  exact ⟨rfl, HB.out⟩

set_option maxRecDepth 100000 in
theorem lifted (os : Os) (started : os.Started) (H : Type) (enc : TypeId × Value → H) :
    ReturnsInHanded {} Try.checked os 7 .any (Rows.fnExactReadHelloSpec.pre6 enc Try.prog Try.f7 Rows.fnExactReadHelloRow.domain false) (Rows.fnExactReadHelloSpec.post enc Try.prog Try.f7 false true false false) := by
  refine returnsInHanded_of_change (C := Try.checked) own started (by kernel_rfl) Try.func7
    (ChangeSpec.witness6 (enc := enc) (C := Try.checked) false ⟨#[], #[.slice none 0 0], []⟩ 8 (by kernel_rfl) (by kernel_rfl) (by kernel_rfl) (by kernel_rfl)) ?_
  intro W base args ds gs before hval0 hW hcnd _
  have hval : ∀ (j : Nat) t v, Try.f7.params[j]? = some t → args[j]? = some v → Value.okWide Try.prog W .any base t v := hval0
  have hW' := hW
  obtain ⟨p, q, hA0, hV, rfl, hfz, hnd⟩ := hW
  have hA : DataW.TrodAll enc Try.prog W 0 (fun _ => true) true Try.f7.params.toList args.toList ds p := hA0
  rw [Try.params7] at hA hval
  obtain ⟨v0, vs0, d0, ds0, p0, q0, hargs, rfl, rfl, h0, r0⟩ := trodAll_cons hA
  obtain ⟨rfl, rfl, rfl⟩ := trodAll_nil r0
  obtain rfl : args = #[v0] := by cases args; simp_all
  obtain ⟨rfl, rfl⟩ := trodVars_none hV
  have h0k := h0
  have hlt0 : ∀ x ∈ p0, x.block < W.heap.size := fun x hx => by simpa using hW'.lt x (by simp [hx])
  obtain ⟨a0, n0, c0, l0, rfl, K0, F0, R0⟩ := open_nums Try.underlying24 Try.underlying3 int_cells (hval 0 24 v0 rfl rfl) h0
  clear hA0 hval0
  simp only [List.append_nil] at hW'
  refine (walk a0 n0 c0 l0 W K0 F0 R0).mono fun e W' ⟨he, hb⟩ => ?_
  subst he
  exact ⟨_, rfl, ⟨_, _, _, [], _, [], hW', (trodAll_cons_mk (shut_bool Try.underlying4 _) trodAll_mk0), (trodAll_cons_mk (Below.trod laidOut (by kernel_rfl) (of_decide_eq_true (by kernel_rfl)) h0k hb hlt0) trodAll_mk0), rfl, hb.frame _, fun h => by cases h⟩⟩

theorem over : Rows.fnExactReadHelloRow.holds Try.pinned (OpenSpec.ofChange Rows.fnExactReadHelloSpec) :=
  OpenClaim.holds_of_wide 7 Try.f7 rfl rfl rfl rfl rfl rfl rfl ⟨rfl, rfl, rfl, rfl, rfl⟩ rfl rfl rfl rfl rfl (by kernel_rfl) Try.func7 (by kernel_rfl)
    (of_decide_eq_true (by kernel_rfl)) (by unfold Func.isWrapper; first | (rw [if_pos (by decide +kernel)]; kernel_rfl) | (rw [if_neg (by decide +kernel)]; exact ⟨rfl, rfl⟩))
    (fun os started H enc _ => lifted os started H enc)

theorem proved : Rows.FnExactReadHelloSaid :=
  over
end Go.Proofs.Ytcpnchjgklemgaa.fnExactReadHello
