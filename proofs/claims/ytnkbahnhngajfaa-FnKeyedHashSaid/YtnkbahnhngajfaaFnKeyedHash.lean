/- For every input: the keyed hash is the hash of the key, the values and the key, below the modulus; changing one value modulo the modulus changes it; derived keys are valid. (For inputs of more than 2^20 bytes the statement asks nothing.) -/
import Derived.Test.YtnkbahnhngajfaaHash2
import Derived.Test.YtnkbahnhngajfaaDerive
import Derived.Test.YtnkbahnhngajfaaDrBig
import Derived.Test.YtnkbahnhngajfaaDrAt
import Derived.Test.YtnkbahnhngajfaaWord3
import Derived.WalkKit
import Derived.Deep.RegionHeld3
import Derived.ProofKit
import Derived.OpenShut
namespace Go.Proofs.Ytnkbahnhngajfaa.fnKeyedHash
open Go.ChangeShapes Go.WideShapes Go.ChangeAt Go.RowKit Go.Lib
open Go.ChangeMaps (open_string shut_string)
set_option linter.unusedVariables false

theorem own : ownKnob Try.prog.godebug = none := by kernel_rfl

set_option maxHeartbeats 4000000 in
set_option maxRecDepth 100000 in
theorem walk (a0 : Option Addr) (n0 c0 : Nat) (l0 : List Int) (w : World) (K0 : Nums .u8 w a0 n0 l0) (F0 : ∀ x ∈ l0, (Lit.int .u8 x).wf = true) (R0 : n0 ≤ c0 ∧ (c0 : Int) ≤ 9223372036854775807) :
    Calls Try.prog 4 #[.slice a0 n0 c0] w fun e w' => e = .returned (.bool true) ∧ Below w.heap.size w w' := by
  have HK := Lib.hid K0
  have HF := Lib.hid (bs_of_wf F0)
  have hfit := K0.fits
  clear K0 F0 R0
  by_cases hbig : 1048576 < n0
  · go_enter Try.func4, Try.ntmps4
    go_wp2_with fail
    refine (big_yes a0 n0 c0 hfit hbig _).mono ?_
    rintro e w1 ⟨rfl, rfl⟩
    go_wp2_with fail
    go_ret
    exact ⟨rfl, Below.refl _ _⟩
  · have HC := Lib.hid (code_of HK.out HF.out)
    have hn0 : n0 ≤ 1048576 := by omega
    obtain ⟨i0, hi, hz0, hz1, hz2⟩ := info_parts infoIntS
    have HI := Lib.hid (And.intro hi (And.intro hz0 (And.intro hz1 hz2)))
    clear hi hz0 hz1 hz2
    go_enter Try.func4, Try.ntmps4
    go_wp2_with fail
    refine (big_no a0 n0 c0 hfit hbig _).mono ?_
    rintro e w1 ⟨rfl, rfl⟩
    go_wp2_with fail
    refine (drawKeyedHash_any a0 n0 c0 _ HC.out).mono ?_
    rintro e w1 ⟨k, a1, n1, c1, l, rfl, ho, hws, hn1, hk, hb1⟩
    have HO := Lib.hid ho
    have HB := Lib.hid hb1
    have HWs := Lib.hid hws
    have HW : Hid (Fit64 k) := Lib.hid (fit_mk (by have := hk.1; omega) (by have := hk.2; omega))
    have HFs : Hid (Fits64 l) := Lib.hid (fun x hx => fit_mk (by have := (hws x hx).1; omega) (by have := (hws x hx).2; omega))
    have HL := Lib.hid ho.len
    have hsz1 := hb1.size
    clear ho hws hk hb1
    obtain ⟨h, hh⟩ : ∃ h, h = khash k l := ⟨_, rfl⟩
    obtain ⟨hh0, hh1⟩ : 0 ≤ h ∧ h < 2147483647 := by rw [hh]; exact khash_bd _ _
    have HH := Lib.hid hh
    clear hh
    go_wp2_with fail
    refine (keyedHash_same k a1 n1 c1 l _ HW.out HO.out.nums HFs.out).mono ?_
    rw [← HH.out]
    rintro e w2 ⟨rfl, rfl⟩
    have hlow : decide (h < 0) = false := decide_eq_false (by omega)
    have hhigh : decide (2147483647 ≤ h) = false := decide_eq_false (by omega)
    go_wp2_with (at_builtin; refine wpl_app_when _ (by rfl) (.tmp 29) (.tmp 30) 28 rfl .i64 3 i0 (.int .i64 0) 8 Try.underlying28 HI.out.1 HI.out.2.1 HI.out.2.2.1 HI.out.2.2.2 rfl rfl (own_one _ k w1.heap.size (Nat.le_refl _)) rfl (HO.out.nums.same (alloc_same _ _)) (by omega) ?c1 ?c2 ?_)
    case c1 => omega
    case c2 => simp
    intro a3 c3 w3 ho3 hb3
    have HO3 := Lib.hid ho3
    have HB3 := Lib.hid ((alloc_same w1 (.cells #[.int .i64 k] 3)).trans hb3)
    clear ho3 hb3
    go_wp2_with (at_builtin; refine wpl_app_when _ (by rfl) (.tmp 31) (.tmp 33) 28 rfl .i64 3 i0 (.int .i64 0) 8 Try.underlying28 HI.out.1 HI.out.2.1 HI.out.2.2.1 HI.out.2.2.2 rfl rfl (HO3.out.alloc _) rfl (nums_new _ _ _ _) (by omega) ?c3 ?c4 ?_)
    case c3 => omega
    case c4 => have := HB3.out.size; simp; omega
    intro a4 c4 w4 ho4 hb4
    have HO4 := Lib.hid ho4
    have HB4 := Lib.hid (HB3.out.trans (((alloc_same _ _).mono HB3.out.size).trans hb4))
    clear ho4 hb4
    go_wp2_with fail
    refine (hash_any _ _ _ _ _ HO4.out.nums (fits_snoc (fits_cons HW.out HFs.out) HW.out)).mono ?_
    rw [show hashOf (k :: (l ++ [k])) = h from (khash_eq k l).trans HH.out.symm]
    rintro e w5 ⟨rfl, hb5⟩
    clear hlow hhigh
    have HR5 := Lib.hid (HB4.out.trans (hb5.mono HB4.out.size))
    have HB5 : Hid (Below w.heap.size w w5) := Lib.hid (HB.out.trans (HR5.out.mono hsz1))
    have HO5 := Lib.hid (HO.out.same HR5.out)
    clear hb5
    by_cases hpos : 0 < n1
    · go_wp2_with (at_builtin; refine wpl_app _ rfl (.tmp 41) (.tmp 42) 28 rfl .i64 3 i0 (.int .i64 0) 8 Try.underlying28 HI.out.1 HI.out.2.1 HI.out.2.2.1 HI.out.2.2.2 rfl rfl (Own.empty (Nat.le_refl _)) rfl (HO5.out.nums.same (alloc_same _ _)) (by omega) ?c5 ?c6 ?_)
      case c5 => omega
      case c6 => simp
      intro a6 c6 w6 ho6 hb6
      have HO6 : Hid (Own .i64 3 w6 w5.heap.size a6 n1 c6 l) := Lib.hid (by simpa using ho6)
      have HR6 := Lib.hid ((alloc_same w5 (.cells #[] 3)).trans hb6)
      have HB6 : Hid (Below w.heap.size w w6) := Lib.hid (HB5.out.trans (HR6.out.mono HB5.out.size))
      have hsz5 := HB5.out.size
      clear ho6 hb6
      go_wp2_with fail
      refine (at_any a0 n0 c0 0 (by omega) _ (HC.out.same HB6.out) hn0).mono ?_
      rintro e w' ⟨x0, hx0, rfl, rfl⟩
      obtain ⟨i, hi⟩ : ∃ i : Nat, i = x0 % n1 := ⟨_, rfl⟩
      have hin : i < n1 := by rw [hi]; exact Nat.mod_lt _ hpos
      have hidx : (x0 : Int) % (n1 : Int) = (i : Int) := by rw [hi]; rfl
      obtain ⟨x, hx⟩ : ∃ x, l[i]? = some x := ⟨_, List.getElem?_eq_getElem (by rw [HL.out]; exact hin)⟩
      obtain ⟨hx1, hx2⟩ := HWs.out x (List.mem_of_getElem? hx)
      obtain ⟨g, rfl, hg1, hg2⟩ := HO6.out.head hpos
      obtain ⟨hc, hf⟩ := HO6.out.cellHere hx
      have HX := Lib.hid hx
      clear hx hi
      go_wp2_with fail
      go_region_with (first | (go_at_call 20; refine (at_any a0 n0 c0 1 (by omega) w6.drew (HC.out.same HB6.out.drew) hn0).mono ?_; rintro e w' ⟨y, hy, rfl, rfl⟩) | (go_at_call 21; refine (specMod_in _ 2147483647 (by omega) (by omega) (by first | exact wf_wrap .i64 _ | exact fit_mk (by omega) (by omega)) _).mono ?_; rintro e w' ⟨rfl, rfl⟩))
      all_goals
        go_wp2_with fail
        have hst := HO6.out.2.stored i (.int .i64 ((x + 1 + (y : Int)) % 2147483647))
        have ho7 : Own .i64 3 (w6.setCell ⟨g, i, none⟩ (.int .i64 ((x + 1 + (y : Int)) % 2147483647))).drew w5.heap.size (some ⟨g, 0, none⟩) n1 c6 (l.set i ((x + 1 + (y : Int)) % 2147483647)) := by
          refine ⟨by rw [List.length_set]; exact HL.out, ?_⟩
          have h1 := hst.1
          rw [← List.map_set] at h1
          exact h1
        have hf7 : Fits64 (l.set i ((x + 1 + (y : Int)) % 2147483647)) := by
          intro u hu
          rcases List.mem_or_eq_of_mem_set hu with h1 | h1
          · exact HFs.out u h1
          · rw [h1]; exact fit_mk (by omega) (by omega)
        obtain ⟨z, hz⟩ : ∃ z, z = khash k (l.set i ((x + 1 + (y : Int)) % 2147483647)) := ⟨_, rfl⟩
        have hne : z ≠ h := by
          intro e
          rw [hz, HH.out] at e
          have := khash_set HX.out e
          omega
        have hz1 : (z == h) = false := by simpa using hne
        have hz2 : decide (z = h) = false := by simpa using hne
        have HO7 := Lib.hid ho7
        have HF7 := Lib.hid hf7
        have HZ := Lib.hid hz
        have HBZ := Lib.hid ((HB6.out.setCell (p := ⟨g, i, none⟩) (by simp; omega) (.int .i64 ((x + 1 + (y : Int)) % 2147483647))).drew)
        clear hst ho7 hf7 hz hne
        refine (keyedHash_same k _ n1 c6 (l.set i ((x + 1 + (y : Int)) % 2147483647)) _ HW.out HO7.out.nums HF7.out).mono ?_
        rw [← HZ.out]
        rintro e w' ⟨rfl, rfl⟩
        go_wp2_with fail
        refine (drawDerive_any a0 n0 c0 _ (HC.out.same HBZ.out)).mono ?_
        rintro e w8 ⟨kd, s, rfl, hs, hkd, hb8⟩
        have HKD : Hid (Fit64 kd) := Lib.hid (fit_mk (by have := hkd.1; omega) (by have := hkd.2; omega))
        have HB8 := Lib.hid (HBZ.out.trans (hb8.mono HBZ.out.size))
        have hs' : s.size ≤ 1048576 := by omega
        obtain ⟨hd0, hd1⟩ := orOne_bd (khash kd (b2i (numsOf s))) (khash_bd _ _).2
        clear hkd hb8
        go_wp2_with fail
        refine (derive_any kd s _ HKD.out hs').mono ?_
        rintro e w9 ⟨rfl, hb9⟩
        have HB9 := Lib.hid (HB8.out.trans (hb9.mono HB8.out.size))
        clear hb9
        have hd2 : decide (1 ≤ derivedOf kd s) = true := decide_eq_true hd0
        have hd3 : decide (derivedOf kd s ≤ 2147483646) = true := decide_eq_true hd1
        have HD2 := Lib.hid hd2
        have HD3 := Lib.hid hd3
        clear hd0 hd1 hd2 hd3
        go_wp2_with fail
        refine (isValidKey_any _ _).mono ?_
        rintro e w10 ⟨rfl, rfl⟩
        go_wp2_with fail
        go_ret
        exact ⟨by rw [HD2.out, HD3.out]; rfl, HB9.out⟩
    · obtain rfl : n1 = 0 := by omega
      have HBZ := HB5
      go_wp2_with fail
      refine (drawDerive_any a0 n0 c0 _ (HC.out.same HBZ.out)).mono ?_
      rintro e w8 ⟨kd, s, rfl, hs, hkd, hb8⟩
      have HKD : Hid (Fit64 kd) := Lib.hid (fit_mk (by have := hkd.1; omega) (by have := hkd.2; omega))
      have HB8 := Lib.hid (HBZ.out.trans (hb8.mono HBZ.out.size))
      have hs' : s.size ≤ 1048576 := by omega
      obtain ⟨hd0, hd1⟩ := orOne_bd (khash kd (b2i (numsOf s))) (khash_bd _ _).2
      clear hkd hb8
      go_wp2_with fail
      refine (derive_any kd s _ HKD.out hs').mono ?_
      rintro e w9 ⟨rfl, hb9⟩
      have HB9 := Lib.hid (HB8.out.trans (hb9.mono HB8.out.size))
      clear hb9
      have hd2 : decide (1 ≤ derivedOf kd s) = true := decide_eq_true hd0
      have hd3 : decide (derivedOf kd s ≤ 2147483646) = true := decide_eq_true hd1
      have HD2 := Lib.hid hd2
      have HD3 := Lib.hid hd3
      clear hd0 hd1 hd2 hd3
      go_wp2_with fail
      refine (isValidKey_any _ _).mono ?_
      rintro e w10 ⟨rfl, rfl⟩
      go_wp2_with fail
      go_ret
      exact ⟨by rw [HD2.out, HD3.out]; rfl, HB9.out⟩

set_option maxRecDepth 100000 in
theorem lifted (os : Os) (started : os.Started) (H : Type) (enc : TypeId × Value → H) :
    ReturnsInHanded {} Try.checked os 4 .any (Rows.fnKeyedHashSpec.pre6 enc Try.prog Try.f4 Rows.fnKeyedHashRow.domain false) (Rows.fnKeyedHashSpec.post enc Try.prog Try.f4 false true false false) := by
  refine returnsInHanded_of_change (C := Try.checked) own started (by kernel_rfl) Try.func4
    (ChangeSpec.witness6 (enc := enc) (C := Try.checked) false ⟨#[], #[.slice none 0 0], []⟩ 8 (by kernel_rfl) (by kernel_rfl) (by kernel_rfl) (by kernel_rfl)) ?_
  intro W base args ds gs before hval0 hW hcnd _
  have hval : ∀ (j : Nat) t v, Try.f4.params[j]? = some t → args[j]? = some v → Value.okWide Try.prog W .any base t v := hval0
  have hW' := hW
  obtain ⟨p, q, hA0, hV, rfl, hfz, hnd⟩ := hW
  have hA : DataW.TrodAll enc Try.prog W 0 (fun _ => true) true Try.f4.params.toList args.toList ds p := hA0
  rw [Try.params4] at hA hval
  obtain ⟨v0, vs0, d0, ds0, p0, q0, hargs, rfl, rfl, h0, r0⟩ := trodAll_cons hA
  obtain ⟨rfl, rfl, rfl⟩ := trodAll_nil r0
  obtain rfl : args = #[v0] := by cases args; simp_all
  obtain ⟨rfl, rfl⟩ := trodVars_none hV
  have h0k := h0
  have hlt0 : ∀ x ∈ p0, x.block < W.heap.size := fun x hx => by simpa using hW'.lt x (by simp [hx])
  obtain ⟨a0, n0, c0, l0, rfl, K0, F0, R0⟩ := open_nums Try.underlying22 Try.underlying5 byte_cells (hval 0 22 v0 rfl rfl) h0
  clear hA0 hval0
  simp only [List.append_nil] at hW'
  refine (walk a0 n0 c0 l0 W K0 F0 R0).mono fun e W' ⟨he, hb⟩ => ?_
  subst he
  exact ⟨_, rfl, ⟨_, _, _, [], _, [], hW', (trodAll_cons_mk (shut_bool Try.underlying4 _) trodAll_mk0), (trodAll_cons_mk (Below.trod laidOut (by kernel_rfl) (of_decide_eq_true (by kernel_rfl)) h0k hb hlt0) trodAll_mk0), rfl, hb.frame _, fun h => by cases h⟩⟩

theorem over : Rows.fnKeyedHashRow.holds Try.pinned (OpenSpec.ofChange Rows.fnKeyedHashSpec) :=
  OpenClaim.holds_of_wide 4 Try.f4 rfl rfl rfl rfl rfl rfl rfl ⟨rfl, rfl, rfl, rfl, rfl⟩ rfl rfl rfl rfl rfl (by kernel_rfl) Try.func4 (by kernel_rfl)
    (of_decide_eq_true (by kernel_rfl)) (by unfold Func.isWrapper; first | (rw [if_pos (by decide +kernel)]; kernel_rfl) | (rw [if_neg (by decide +kernel)]; exact ⟨rfl, rfl⟩))
    (fun os started H enc _ => lifted os started H enc)

theorem proved : Rows.FnKeyedHashSaid :=
  over
end Go.Proofs.Ytnkbahnhngajfaa.fnKeyedHash
