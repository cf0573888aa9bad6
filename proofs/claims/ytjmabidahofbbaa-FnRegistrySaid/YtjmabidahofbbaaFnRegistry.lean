/- For every input of bytes: a tag that is given was free and is no reserved one, has its vendor from then on and is not given again after it was retired; owners stay; what clashes is on the list and is reserved or another vendor's. -/
import Derived.Test.YtjmabidahofbbaaDr
import Derived.Test.YtjmabidahofbbaaDrBig
import Derived.Test.YtjmabidahofbbaaDrN2
import Derived.Test.YtjmabidahofbbaaRgL
import Derived.Test.YtjmabidahofbbaaOwr
import Derived.Test.YtjmabidahofbbaaCl
import Derived.Test.YtjmabidahofbbaaAs
import Derived.Test.YtjmabidahofbbaaRt
import Derived.Test.YtjmabidahofbbaaLv
import Derived.Test.YtjmabidahofbbaaCtn
import Derived.Test.YtjmabidahofbbaaOpen
import Derived.WalkKit
import Derived.Deep.RegionHeld3
import Derived.ProofKit
import Derived.OpenShut
namespace Go.Proofs.Ytjmabidahofbbaa.fnRegistry
open Go.ChangeShapes Go.WideShapes Go.ChangeAt Go.RowKit Go.Lib
open Go.ChangeMaps (open_string shut_string)
set_option linter.unusedVariables false

theorem own : ownKnob Try.prog.godebug = none := by kernel_rfl

set_option maxHeartbeats 40000000 in
set_option maxRecDepth 100000 in
theorem walk (a0 : Option Addr) (n0 c0 : Nat) (l0 : List Int) (w : World) (K0 : Nums .u8 w a0 n0 l0) (F0 : ∀ x ∈ l0, (Lit.int .u8 x).wf = true) (R0 : n0 ≤ c0 ∧ (c0 : Int) ≤ 9223372036854775807) :
    Calls Try.prog 4 #[.slice a0 n0 c0] w fun e w' => e = .returned (.bool true) ∧ Below w.heap.size w w' := by
  have HK0 := Lib.hid K0
  have HF := Lib.hid (bs_of_wf F0)
  have hfit := K0.fits
  clear K0 F0 R0
  by_cases hbig : 1048576 < n0
  · go_enter Try.func4, Try.ntmps4
    go_wp2_with fail
    refine (big_yes a0 n0 c0 hfit hbig _).mono ?_
    rintro e w1 ⟨rfl, rfl⟩
    go_wp2_with fail
    go_ret
    exact ⟨rfl, Below.refl _ _⟩
  · have HC := Lib.hid (code_of HK0.out HF.out)
    have HB := Lib.hid (Below.refl w.heap.size w)
    go_enter Try.func4, Try.ntmps4
    go_wp2_with fail
    refine (big_no a0 n0 c0 hfit hbig _).mono ?_
    rintro e w1 ⟨rfl, rfl⟩
    clear hfit hbig HK0 HF
    have hcall := drawAssignTag_any a0 n0 c0 _ HC.out
    go_wp2_with fail
    refine hcall.mono ?_
    rintro e z1 ⟨q, m, d, l, v, rfl, hol, hm12, hz⟩
    clear hcall
    replace HC := Lib.hid (HC.out.same hz)
    have HL := Lib.hid hol
    replace HB := Lib.hid (HB.out.trans (hz.mono HB.out.size))
    clear hz hol
    cases hok : asgOk l v with
    | false =>
      have hcall := assignTag_any (c := d) v (HL.out.items En.enc_len) (by omega)
      rw [hok] at hcall
      go_wp2_with fail
      refine hcall.mono ?_
      rintro e z2 ⟨qx, mx, dx, rfl, hox, hz⟩
      clear hcall
      clear hox
      replace HC := Lib.hid (HC.out.same hz)
      replace HL := Lib.hid (HL.out.same hz)
      replace HB := Lib.hid (HB.out.trans (hz.mono HB.out.size))
      clear hz 
      clear hok
      have hcall := drawClashOf_any a0 n0 c0 _ HC.out
      go_wp2_with fail
      refine hcall.mono ?_
      rintro e z3 ⟨qk, mk, dk, vk, qt, mt, dt, ts, vv, rfl, hok2, hmk, hot, hmt, hz⟩
      clear hcall
      replace HL := Lib.hid (HL.out.same hz)
      have HK := Lib.hid hok2
      have HT := Lib.hid hot
      replace HB := Lib.hid (HB.out.trans (hz.mono HB.out.size))
      clear hz hok2 hot
      clear HC
      have hcall := clashOf_any (c := dk) (e := dt) (v := vv) (HK.out.items En.enc_len) HT.out.nums (by omega) (by omega)
      go_wp2_with fail
      refine hcall.mono ?_
      rintro e z4 ⟨qc, mc, dc, rfl, hoc, hz⟩
      clear hcall
      have hlc := hoc.len
      have hfc := clashOf_len vk vv ts
      have hlt := HT.out.len
      have hmc : mc ≤ 5 := by omega
      clear hlc hfc hlt
      replace HL := Lib.hid (HL.out.same hz)
      replace HK := Lib.hid (HK.out.same hz)
      replace HT := Lib.hid (HT.out.same hz)
      have HS := Lib.hid hoc
      replace HB := Lib.hid (HB.out.trans (hz.mono HB.out.size))
      clear hz hoc
      go_wp2_with fail
      go_loopw [18] (fun i wr => ∃ j : Nat, j ≤ mc ∧ i = .int .i64 j ∧ Hid (Below z4.heap.size z4 wr)) (fun i _ => mc - (intOf i).toNat)
      case atStart => exact ⟨0, Nat.zero_le _, rfl, Below.refl _ _⟩
      case round =>
        obtain ⟨j, hj, rfl, HR⟩ := hrel
        by_cases hlt : j < mc
        · obtain ⟨ad, x, rfl, hx, hcx⟩ := (HS.out.nums.same HR.out).at_ hlt
          obtain ⟨k1, k2⟩ := clash_in hx
          clear hx
          have hc1 := contains_any (c := dt) x (HT.out.nums.same HR.out)
          rw [k1] at hc1
          have hc2 := isReserved_any x
          have hc3 := ownerOf_any (c := dk) x ((HK.out.items En.enc_len).same HR.out) (by omega)
          obtain ⟨o, ho⟩ : ∃ o, ownOf vk x = o := ⟨_, rfl⟩
          rw [ho] at hc3 k2
          cases hr : resv x with
          | true =>
            rw [hr] at hc2
            clear hc3 k1 k2 ho hr
            go_wp2_with (first | (go_at_call 28; refine hc1.mono ?_; rintro e w9 ⟨rfl, rfl⟩) | (go_at_call 26; refine (hc2 _).mono ?_; rintro e w9 ⟨rfl, hw9⟩; subst hw9))
            go_roundw
            case rel => exact ⟨j + 1, by omega, by go_num, HR⟩
            case measure => simp [intOf]; omega
          | false =>
            rw [hr] at hc2
            have k3 := k2 hr
            have k4 : ¬ o = vv := by simpa using k3
            clear k1 k2 ho hr
            go_wp2_with (first | (go_at_call 28; refine hc1.mono ?_; rintro e w9 ⟨rfl, rfl⟩) | (go_at_call 26; refine (hc2 _).mono ?_; rintro e w9 ⟨rfl, hw9⟩; subst hw9) | (go_at_call 25; refine hc3.mono ?_; rintro e w9 ⟨rfl, hz9⟩; have HR9 : Hid (Below z4.heap.size z4 w9) := Lib.hid (HR.out.trans (hz9.mono HR.out.size)); clear hz9))
            go_roundw
            case rel => exact ⟨j + 1, by omega, by go_num, HR9⟩
            case measure => simp [intOf]; omega
        · obtain rfl : j = mc := by omega
          replace HL := Lib.hid (HL.out.same HR.out)
          replace HB := Lib.hid (HB.out.trans (HR.out.mono HB.out.size))
          clear HR HS HT HK
          have hcall := liveTags_any (c := d) (HL.out.items En.enc_len) (by omega)
          go_wp2_with fail
          refine hcall.mono ?_
          rintro e z5 ⟨q8, m8, d8, rfl, ho8, hz⟩
          clear hcall
          have hl8 := ho8.len
          have hf8 := liveOf_len l
          have hn8 := HL.out.len
          have h8 : m8 ≤ m := by omega
          have h8z : (m8 : Int) ≤ (m : Int) := by omega
          clear ho8 hf8 hn8
          replace HL := Lib.hid (HL.out.same hz)
          replace HB := Lib.hid (HB.out.trans (hz.mono HB.out.size))
          clear hz 
          have hcall := specLiveTags_any (c := d) (HL.out.items En.enc_len) (by omega)
          go_wp2_with fail
          refine hcall.mono ?_
          rintro e z6 ⟨q9, m9, d9, rfl, ho9, hz⟩
          clear hcall
          have hl9 := ho9.len
          obtain rfl : m9 = m8 := by omega
          clear ho9 hl8 hl9
          replace HB := Lib.hid (HB.out.trans (hz.mono HB.out.size))
          clear hz 
          go_wp2_with fail
          go_ret
          exact ⟨rfl, HB.out⟩
    | true =>
      have G := given hok
      have g1 := G.reg
      have g2 := G.none
      have g3 := G.now
      have g4 := G.free
      have g5 := G.len
      have g6 := G.ret
      have g7 := G.gone
      have g8 := G.next v
      have g9 := G.kept
      have hcall := assignTag_any (c := d) v (HL.out.items En.enc_len) (by omega)
      rw [hok] at hcall
      clear G hok
      generalize asgT l v = tg at g1 g2 g3 g4 g5 g6 g7 g8 g9 hcall
      generalize asgL l v = X at g1 g2 g3 g4 g5 g6 g7 g8 g9 hcall
      generalize hY : retL X tg = Y at g7 g8
      have HY0 := Lib.hid hY
      have hYl := retL_len X tg
      rw [hY] at hYl
      clear hY
      go_wp2_with fail
      refine hcall.mono ?_
      rintro e z7 ⟨qx, mx, dx, rfl, hox, hz⟩
      clear hcall
      have hxl := hox.len
      have hll := HL.out.len
      obtain rfl : mx = m + 1 := by omega
      replace HC := Lib.hid (HC.out.same hz)
      replace HL := Lib.hid (HL.out.same hz)
      have HX := Lib.hid hox
      replace HB := Lib.hid (HB.out.trans (hz.mono HB.out.size))
      clear hz hox
      have hcall := isRegistry_any (c := dx) (HX.out.items En.enc_len)
      rw [g1] at hcall
      go_wp2_with fail
      refine hcall.mono ?_
      rintro e z8 ⟨rfl, hz⟩
      clear hcall
      replace HC := Lib.hid (HC.out.same hz)
      replace HL := Lib.hid (HL.out.same hz)
      replace HX := Lib.hid (HX.out.same hz)
      replace HB := Lib.hid (HB.out.trans (hz.mono HB.out.size))
      clear hz 
      have hcall := ownerOf_any (c := d) tg (HL.out.items En.enc_len) (by omega)
      rw [g2] at hcall
      go_wp2_with fail
      refine hcall.mono ?_
      rintro e z9 ⟨rfl, hz⟩
      clear hcall
      replace HC := Lib.hid (HC.out.same hz)
      replace HL := Lib.hid (HL.out.same hz)
      replace HX := Lib.hid (HX.out.same hz)
      replace HB := Lib.hid (HB.out.trans (hz.mono HB.out.size))
      clear hz 
      have hcall := ownerOf_any (c := dx) tg (HX.out.items En.enc_len) (by omega)
      rw [g3] at hcall
      go_wp2_with fail
      refine hcall.mono ?_
      rintro e z10 ⟨rfl, hz⟩
      clear hcall
      replace HC := Lib.hid (HC.out.same hz)
      replace HL := Lib.hid (HL.out.same hz)
      replace HX := Lib.hid (HX.out.same hz)
      replace HB := Lib.hid (HB.out.trans (hz.mono HB.out.size))
      clear hz 
      have hcall := told_eq (isReserved_any tg z10)
      rw [g4] at hcall
      go_wp2_with fail
      refine hcall.mono ?_
      rintro e z11 ⟨rfl, hz⟩
      clear hcall
      replace HC := Lib.hid (HC.out.same hz)
      replace HL := Lib.hid (HL.out.same hz)
      replace HX := Lib.hid (HX.out.same hz)
      replace HB := Lib.hid (HB.out.trans (hz.mono HB.out.size))
      clear hz 
      have hcall := retireTag_any (c := dx) tg (HX.out.items En.enc_len) (by omega)
      rw [g6] at hcall
      go_wp2_with fail
      refine hcall.mono ?_
      rintro e z12 ⟨qy, my, dy, rfl, hoy, hz⟩
      clear hcall
      rw [HY0.out] at hoy
      have hyl := hoy.len
      have hmy : my ≤ 13 := by omega
      clear hyl
      replace HC := Lib.hid (HC.out.same hz)
      replace HL := Lib.hid (HL.out.same hz)
      replace HX := Lib.hid (HX.out.same hz)
      have HY := Lib.hid hoy
      replace HB := Lib.hid (HB.out.trans (hz.mono HB.out.size))
      clear hz hoy
      cases hmore : asgOk Y v with
      | true =>
        have g10 := g8 hmore
        have g11 : ¬ asgT Y v = tg := by simpa using g10
        obtain ⟨nx, hnx⟩ : ∃ nx, asgT Y v = nx := ⟨_, rfl⟩
        rw [hnx] at g10 g11
        have hcall := assignTag_any (c := dy) v (HY.out.items En.enc_len) (by omega)
        rw [hmore, hnx] at hcall
        go_wp2_with fail
        refine hcall.mono ?_
        rintro e z13 ⟨qz, mz, dz, rfl, hoz, hz⟩
        clear hcall
        clear hoz
        replace HC := Lib.hid (HC.out.same hz)
        replace HL := Lib.hid (HL.out.same hz)
        replace HX := Lib.hid (HX.out.same hz)
        replace HY := Lib.hid (HY.out.same hz)
        replace HB := Lib.hid (HB.out.trans (hz.mono HB.out.size))
        clear hz 
        have hcall := liveTags_any (c := dy) (HY.out.items En.enc_len) (by omega)
        go_wp2_with fail
        refine hcall.mono ?_
        rintro e z14 ⟨qv, mv, dv, rfl, hov, hz⟩
        clear hcall
        replace HC := Lib.hid (HC.out.same hz)
        replace HL := Lib.hid (HL.out.same hz)
        replace HX := Lib.hid (HX.out.same hz)
        replace HY := Lib.hid (HY.out.same hz)
        have HV := Lib.hid hov
        replace HB := Lib.hid (HB.out.trans (hz.mono HB.out.size))
        clear hz hov
        have hcall := contains_any (c := dv) tg HV.out.nums
        rw [g7] at hcall
        go_wp2_with fail
        refine hcall.mono ?_
        rintro e w9 ⟨rfl, rfl⟩
        clear hcall HV HY HY0 g8 hmore
        go_wp2_with fail
        go_loopw [13] (fun i wr => ∃ j : Nat, j ≤ m ∧ i = .int .i64 j ∧ Hid (Below z14.heap.size z14 wr)) (fun i _ => m - (intOf i).toNat)
        case atStart => exact ⟨0, Nat.zero_le _, rfl, Below.refl _ _⟩
        case round =>
          obtain ⟨j, hj, rfl, HR⟩ := hrel
          by_cases hlt : j < m
          · obtain ⟨b, o, y, rfl, hy, hc0, hc1, hc2⟩ := ens_at ((HL.out.items En.enc_len).same HR.out) hlt
            have hval := g9 j y hy
            have hcall := ownerOf_any (c := dx) y.tag (((HX.out.items En.enc_len).same HR.out).same ((Below.refl _ wr).drew)) (by omega)
            rw [hval] at hcall
            have C0 := Lib.hid hc0
            have C1 := Lib.hid hc1
            clear hy hval hc0 hc1 hc2
            have mixed : Try.prog.follows .mixedOrders = true := by rfl
            go_wp2_with fail
            go_region_held3 (fun w9 => w9.cell? ⟨b, o + j * 3, none⟩ = some (.int .i64 y.tag) ∧ w9.cell? ⟨b, o + j * 3 + 1, none⟩ = some (.int .i64 y.vend)) (first | exact ⟨cell_stay C0.out (Below.refl _ _).drew, cell_stay C1.out (Below.refl _ _).drew⟩ | exact ⟨cell_stay C0.out HQ.out, cell_stay C1.out HQ.out⟩) ((first | (go_at_call 25; refine hcall.mono ?_; rintro e w8 ⟨rfl, hz8⟩; have HQ : Hid (Below wr.heap.size wr w8) := Lib.hid ((Below.refl _ wr).drew.trans (hz8.mono (Nat.le_refl _))); clear hz8)))
            all_goals
              go_wp2_with fail
              go_roundw
              case rel => exact ⟨j + 1, by omega, by go_num, Lib.hid (HR.out.trans (HQ.out.mono HR.out.size))⟩
              case measure => simp [intOf]; omega
          · obtain rfl : m = j := by omega
            replace HL := Lib.hid (HL.out.same HR.out)
            replace HC := Lib.hid (HC.out.same HR.out)
            replace HB := Lib.hid (HB.out.trans (HR.out.mono HB.out.size))
            clear HR HX g1 g2 g3 g4 g5 g6 g7 g9
            have hcall := drawClashOf_any a0 n0 c0 _ HC.out
            go_wp2_with fail
            refine hcall.mono ?_
            rintro e z15 ⟨qk, mk, dk, vk, qt, mt, dt, ts, vv, rfl, hok2, hmk, hot, hmt, hz⟩
            clear hcall
            replace HL := Lib.hid (HL.out.same hz)
            have HK := Lib.hid hok2
            have HT := Lib.hid hot
            replace HB := Lib.hid (HB.out.trans (hz.mono HB.out.size))
            clear hz hok2 hot
            clear HC
            have hcall := clashOf_any (c := dk) (e := dt) (v := vv) (HK.out.items En.enc_len) HT.out.nums (by omega) (by omega)
            go_wp2_with fail
            refine hcall.mono ?_
            rintro e z16 ⟨qc, mc, dc, rfl, hoc, hz⟩
            clear hcall
            have hlc := hoc.len
            have hfc := clashOf_len vk vv ts
            have hlt := HT.out.len
            have hmc : mc ≤ 5 := by omega
            clear hlc hfc hlt
            replace HL := Lib.hid (HL.out.same hz)
            replace HK := Lib.hid (HK.out.same hz)
            replace HT := Lib.hid (HT.out.same hz)
            have HS := Lib.hid hoc
            replace HB := Lib.hid (HB.out.trans (hz.mono HB.out.size))
            clear hz hoc
            go_wp2_with fail
            go_loopw [18] (fun i wr => ∃ j : Nat, j ≤ mc ∧ i = .int .i64 j ∧ Hid (Below z16.heap.size z16 wr)) (fun i _ => mc - (intOf i).toNat)
            case atStart => exact ⟨0, Nat.zero_le _, rfl, Below.refl _ _⟩
            case round =>
              obtain ⟨j, hj, rfl, HR⟩ := hrel
              by_cases hlt : j < mc
              · obtain ⟨ad, x, rfl, hx, hcx⟩ := (HS.out.nums.same HR.out).at_ hlt
                obtain ⟨k1, k2⟩ := clash_in hx
                clear hx
                have hc1 := contains_any (c := dt) x (HT.out.nums.same HR.out)
                rw [k1] at hc1
                have hc2 := isReserved_any x
                have hc3 := ownerOf_any (c := dk) x ((HK.out.items En.enc_len).same HR.out) (by omega)
                obtain ⟨o, ho⟩ : ∃ o, ownOf vk x = o := ⟨_, rfl⟩
                rw [ho] at hc3 k2
                cases hr : resv x with
                | true =>
                  rw [hr] at hc2
                  clear hc3 k1 k2 ho hr
                  go_wp2_with (first | (go_at_call 28; refine hc1.mono ?_; rintro e w9 ⟨rfl, rfl⟩) | (go_at_call 26; refine (hc2 _).mono ?_; rintro e w9 ⟨rfl, hw9⟩; subst hw9))
                  go_roundw
                  case rel => exact ⟨j + 1, by omega, by go_num, HR⟩
                  case measure => simp [intOf]; omega
                | false =>
                  rw [hr] at hc2
                  have k3 := k2 hr
                  have k4 : ¬ o = vv := by simpa using k3
                  clear k1 k2 ho hr
                  go_wp2_with (first | (go_at_call 28; refine hc1.mono ?_; rintro e w9 ⟨rfl, rfl⟩) | (go_at_call 26; refine (hc2 _).mono ?_; rintro e w9 ⟨rfl, hw9⟩; subst hw9) | (go_at_call 25; refine hc3.mono ?_; rintro e w9 ⟨rfl, hz9⟩; have HR9 : Hid (Below z16.heap.size z16 w9) := Lib.hid (HR.out.trans (hz9.mono HR.out.size)); clear hz9))
                  go_roundw
                  case rel => exact ⟨j + 1, by omega, by go_num, HR9⟩
                  case measure => simp [intOf]; omega
              · obtain rfl : j = mc := by omega
                replace HL := Lib.hid (HL.out.same HR.out)
                replace HB := Lib.hid (HB.out.trans (HR.out.mono HB.out.size))
                clear HR HS HT HK
                have hcall := liveTags_any (c := d) (HL.out.items En.enc_len) (by omega)
                go_wp2_with fail
                refine hcall.mono ?_
                rintro e z17 ⟨q8, m8, d8, rfl, ho8, hz⟩
                clear hcall
                have hl8 := ho8.len
                have hf8 := liveOf_len l
                have hn8 := HL.out.len
                have h8 : m8 ≤ m := by omega
                have h8z : (m8 : Int) ≤ (m : Int) := by omega
                clear ho8 hf8 hn8
                replace HL := Lib.hid (HL.out.same hz)
                replace HB := Lib.hid (HB.out.trans (hz.mono HB.out.size))
                clear hz 
                have hcall := specLiveTags_any (c := d) (HL.out.items En.enc_len) (by omega)
                go_wp2_with fail
                refine hcall.mono ?_
                rintro e z18 ⟨q9, m9, d9, rfl, ho9, hz⟩
                clear hcall
                have hl9 := ho9.len
                obtain rfl : m9 = m8 := by omega
                clear ho9 hl8 hl9
                replace HB := Lib.hid (HB.out.trans (hz.mono HB.out.size))
                clear hz 
                go_wp2_with fail
                go_ret
                exact ⟨rfl, HB.out⟩
      | false =>
        have hcall := assignTag_any (c := dy) v (HY.out.items En.enc_len) (by omega)
        rw [hmore] at hcall
        go_wp2_with fail
        refine hcall.mono ?_
        rintro e z19 ⟨qz, mz, dz, rfl, hoz, hz⟩
        clear hcall
        clear hoz
        replace HC := Lib.hid (HC.out.same hz)
        replace HL := Lib.hid (HL.out.same hz)
        replace HX := Lib.hid (HX.out.same hz)
        replace HY := Lib.hid (HY.out.same hz)
        replace HB := Lib.hid (HB.out.trans (hz.mono HB.out.size))
        clear hz 
        have hcall := liveTags_any (c := dy) (HY.out.items En.enc_len) (by omega)
        go_wp2_with fail
        refine hcall.mono ?_
        rintro e z20 ⟨qv, mv, dv, rfl, hov, hz⟩
        clear hcall
        replace HC := Lib.hid (HC.out.same hz)
        replace HL := Lib.hid (HL.out.same hz)
        replace HX := Lib.hid (HX.out.same hz)
        replace HY := Lib.hid (HY.out.same hz)
        have HV := Lib.hid hov
        replace HB := Lib.hid (HB.out.trans (hz.mono HB.out.size))
        clear hz hov
        have hcall := contains_any (c := dv) tg HV.out.nums
        rw [g7] at hcall
        go_wp2_with fail
        refine hcall.mono ?_
        rintro e w9 ⟨rfl, rfl⟩
        clear hcall HV HY HY0 g8 hmore
        go_wp2_with fail
        go_loopw [13] (fun i wr => ∃ j : Nat, j ≤ m ∧ i = .int .i64 j ∧ Hid (Below z20.heap.size z20 wr)) (fun i _ => m - (intOf i).toNat)
        case atStart => exact ⟨0, Nat.zero_le _, rfl, Below.refl _ _⟩
        case round =>
          obtain ⟨j, hj, rfl, HR⟩ := hrel
          by_cases hlt : j < m
          · obtain ⟨b, o, y, rfl, hy, hc0, hc1, hc2⟩ := ens_at ((HL.out.items En.enc_len).same HR.out) hlt
            have hval := g9 j y hy
            have hcall := ownerOf_any (c := dx) y.tag (((HX.out.items En.enc_len).same HR.out).same ((Below.refl _ wr).drew)) (by omega)
            rw [hval] at hcall
            have C0 := Lib.hid hc0
            have C1 := Lib.hid hc1
            clear hy hval hc0 hc1 hc2
            have mixed : Try.prog.follows .mixedOrders = true := by rfl
            go_wp2_with fail
            go_region_held3 (fun w9 => w9.cell? ⟨b, o + j * 3, none⟩ = some (.int .i64 y.tag) ∧ w9.cell? ⟨b, o + j * 3 + 1, none⟩ = some (.int .i64 y.vend)) (first | exact ⟨cell_stay C0.out (Below.refl _ _).drew, cell_stay C1.out (Below.refl _ _).drew⟩ | exact ⟨cell_stay C0.out HQ.out, cell_stay C1.out HQ.out⟩) ((first | (go_at_call 25; refine hcall.mono ?_; rintro e w8 ⟨rfl, hz8⟩; have HQ : Hid (Below wr.heap.size wr w8) := Lib.hid ((Below.refl _ wr).drew.trans (hz8.mono (Nat.le_refl _))); clear hz8)))
            all_goals
              go_wp2_with fail
              go_roundw
              case rel => exact ⟨j + 1, by omega, by go_num, Lib.hid (HR.out.trans (HQ.out.mono HR.out.size))⟩
              case measure => simp [intOf]; omega
          · obtain rfl : m = j := by omega
            replace HL := Lib.hid (HL.out.same HR.out)
            replace HC := Lib.hid (HC.out.same HR.out)
            replace HB := Lib.hid (HB.out.trans (HR.out.mono HB.out.size))
            clear HR HX g1 g2 g3 g4 g5 g6 g7 g9
            have hcall := drawClashOf_any a0 n0 c0 _ HC.out
            go_wp2_with fail
            refine hcall.mono ?_
            rintro e z21 ⟨qk, mk, dk, vk, qt, mt, dt, ts, vv, rfl, hok2, hmk, hot, hmt, hz⟩
            clear hcall
            replace HL := Lib.hid (HL.out.same hz)
            have HK := Lib.hid hok2
            have HT := Lib.hid hot
            replace HB := Lib.hid (HB.out.trans (hz.mono HB.out.size))
            clear hz hok2 hot
            clear HC
            have hcall := clashOf_any (c := dk) (e := dt) (v := vv) (HK.out.items En.enc_len) HT.out.nums (by omega) (by omega)
            go_wp2_with fail
            refine hcall.mono ?_
            rintro e z22 ⟨qc, mc, dc, rfl, hoc, hz⟩
            clear hcall
            have hlc := hoc.len
            have hfc := clashOf_len vk vv ts
            have hlt := HT.out.len
            have hmc : mc ≤ 5 := by omega
            clear hlc hfc hlt
            replace HL := Lib.hid (HL.out.same hz)
            replace HK := Lib.hid (HK.out.same hz)
            replace HT := Lib.hid (HT.out.same hz)
            have HS := Lib.hid hoc
            replace HB := Lib.hid (HB.out.trans (hz.mono HB.out.size))
            clear hz hoc
            go_wp2_with fail
            go_loopw [18] (fun i wr => ∃ j : Nat, j ≤ mc ∧ i = .int .i64 j ∧ Hid (Below z22.heap.size z22 wr)) (fun i _ => mc - (intOf i).toNat)
            case atStart => exact ⟨0, Nat.zero_le _, rfl, Below.refl _ _⟩
            case round =>
              obtain ⟨j, hj, rfl, HR⟩ := hrel
              by_cases hlt : j < mc
              · obtain ⟨ad, x, rfl, hx, hcx⟩ := (HS.out.nums.same HR.out).at_ hlt
                obtain ⟨k1, k2⟩ := clash_in hx
                clear hx
                have hc1 := contains_any (c := dt) x (HT.out.nums.same HR.out)
                rw [k1] at hc1
                have hc2 := isReserved_any x
                have hc3 := ownerOf_any (c := dk) x ((HK.out.items En.enc_len).same HR.out) (by omega)
                obtain ⟨o, ho⟩ : ∃ o, ownOf vk x = o := ⟨_, rfl⟩
                rw [ho] at hc3 k2
                cases hr : resv x with
                | true =>
                  rw [hr] at hc2
                  clear hc3 k1 k2 ho hr
                  go_wp2_with (first | (go_at_call 28; refine hc1.mono ?_; rintro e w9 ⟨rfl, rfl⟩) | (go_at_call 26; refine (hc2 _).mono ?_; rintro e w9 ⟨rfl, hw9⟩; subst hw9))
                  go_roundw
                  case rel => exact ⟨j + 1, by omega, by go_num, HR⟩
                  case measure => simp [intOf]; omega
                | false =>
                  rw [hr] at hc2
                  have k3 := k2 hr
                  have k4 : ¬ o = vv := by simpa using k3
                  clear k1 k2 ho hr
                  go_wp2_with (first | (go_at_call 28; refine hc1.mono ?_; rintro e w9 ⟨rfl, rfl⟩) | (go_at_call 26; refine (hc2 _).mono ?_; rintro e w9 ⟨rfl, hw9⟩; subst hw9) | (go_at_call 25; refine hc3.mono ?_; rintro e w9 ⟨rfl, hz9⟩; have HR9 : Hid (Below z22.heap.size z22 w9) := Lib.hid (HR.out.trans (hz9.mono HR.out.size)); clear hz9))
                  go_roundw
                  case rel => exact ⟨j + 1, by omega, by go_num, HR9⟩
                  case measure => simp [intOf]; omega
              · obtain rfl : j = mc := by omega
                replace HL := Lib.hid (HL.out.same HR.out)
                replace HB := Lib.hid (HB.out.trans (HR.out.mono HB.out.size))
                clear HR HS HT HK
                have hcall := liveTags_any (c := d) (HL.out.items En.enc_len) (by omega)
                go_wp2_with fail
                refine hcall.mono ?_
                rintro e z23 ⟨q8, m8, d8, rfl, ho8, hz⟩
                clear hcall
                have hl8 := ho8.len
                have hf8 := liveOf_len l
                have hn8 := HL.out.len
                have h8 : m8 ≤ m := by omega
                have h8z : (m8 : Int) ≤ (m : Int) := by omega
                clear ho8 hf8 hn8
                replace HL := Lib.hid (HL.out.same hz)
                replace HB := Lib.hid (HB.out.trans (hz.mono HB.out.size))
                clear hz 
                have hcall := specLiveTags_any (c := d) (HL.out.items En.enc_len) (by omega)
                go_wp2_with fail
                refine hcall.mono ?_
                rintro e z24 ⟨q9, m9, d9, rfl, ho9, hz⟩
                clear hcall
                have hl9 := ho9.len
                obtain rfl : m9 = m8 := by omega
                clear ho9 hl8 hl9
                replace HB := Lib.hid (HB.out.trans (hz.mono HB.out.size))
                clear hz 
                go_wp2_with fail
                go_ret
                exact ⟨rfl, HB.out⟩

set_option maxRecDepth 100000 in
theorem lifted (os : Os) (started : os.Started) (H : Type) (enc : TypeId × Value → H) :
    ReturnsInHanded {} Try.checked os 4 .any (Rows.fnRegistrySpec.pre6 enc Try.prog Try.f4 Rows.fnRegistryRow.domain false) (Rows.fnRegistrySpec.post enc Try.prog Try.f4 false true false false) := by
  refine returnsInHanded_of_change (C := Try.checked) own started (by kernel_rfl) Try.func4
    (ChangeSpec.witness6 (enc := enc) (C := Try.checked) false ⟨#[], #[.slice none 0 0], []⟩ 8 (by kernel_rfl) (by kernel_rfl) (by kernel_rfl) (by kernel_rfl)) ?_
  intro W base args ds gs before hval0 hW hcnd _
  have hval : ∀ (j : Nat) t v, Try.f4.params[j]? = some t → args[j]? = some v → Value.okWide Try.prog W .any base t v := hval0
  have hW' := hW
  obtain ⟨p, q, hA0, hV, rfl, hfz, hnd⟩ := hW
  have hA : DataW.TrodAll enc Try.prog W 0 (fun _ => true) true Try.f4.params.toList args.toList ds p := hA0
  rw [Try.params4] at hA hval
  obtain ⟨v0, vs0, d0, ds0, p0, q0, hargs, rfl, rfl, h0, r0⟩ := trodAll_cons hA
  obtain ⟨rfl, rfl, rfl⟩ := trodAll_nil r0
  obtain rfl : args = #[v0] := by cases args; simp_all
  obtain ⟨rfl, rfl⟩ := trodVars_none hV
  have h0k := h0
  have hlt0 : ∀ x ∈ p0, x.block < W.heap.size := fun x hx => by simpa using hW'.lt x (by simp [hx])
  obtain ⟨a0, n0, c0, l0, rfl, K0, F0, R0⟩ := open_nums Try.underlying22 Try.underlying5 byte_cells (hval 0 22 v0 rfl rfl) h0
  clear hA0 hval0
  simp only [List.append_nil] at hW'
  refine (walk a0 n0 c0 l0 W K0 F0 R0).mono fun e W' ⟨he, hb⟩ => ?_
  subst he
  exact ⟨_, rfl, ⟨_, _, _, [], _, [], hW', (trodAll_cons_mk (shut_bool Try.underlying4 _) trodAll_mk0), (trodAll_cons_mk (Below.trod laidOut (by kernel_rfl) (of_decide_eq_true (by kernel_rfl)) h0k hb hlt0) trodAll_mk0), rfl, hb.frame _, fun h => by cases h⟩⟩

theorem over : Rows.fnRegistryRow.holds Try.pinned (OpenSpec.ofChange Rows.fnRegistrySpec) :=
  OpenClaim.holds_of_wide 4 Try.f4 rfl rfl rfl rfl rfl rfl rfl ⟨rfl, rfl, rfl, rfl, rfl⟩ rfl rfl rfl rfl rfl (by kernel_rfl) Try.func4 (by kernel_rfl)
    (of_decide_eq_true (by kernel_rfl)) (by unfold Func.isWrapper; first | (rw [if_pos (by decide +kernel)]; kernel_rfl) | (rw [if_neg (by decide +kernel)]; exact ⟨rfl, rfl⟩))
    (fun os started H enc _ => lifted os started H enc)

theorem proved : Rows.FnRegistrySaid :=
  over
end Go.Proofs.Ytjmabidahofbbaa.fnRegistry
