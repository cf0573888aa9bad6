/- A merge of many elements with many (the right part is no shorter), by the library's own text. -/
import Derived.Test.YtjmabidahofbbaaSrt1
import Derived.Test.YtjmabidahofbbaaSrt3
namespace Go.Proofs.Ytjmabidahofbbaa
open Go.Shelf Go.RowKit Go.Lib Go.Sort
set_option linter.unusedVariables false
set_option maxHeartbeats 4000000 in
set_option maxRecDepth 100000 in
theorem mergeD (blk off cap a m b mid : Nat) (d0 d : Array En) (w0 w : World) (hs : d0.size = d.size) (R : RowK En.enc 3 w0 blk off d0) (S : SWK En.enc 3 w0 blk off d w) (ham : a + 1 < m) (hmb : m + 1 < b) (hb : b ≤ d.size) (hmid : (a + b) / 2 = mid) (hside : m ≤ mid) (ul : Up En.tag a m d) (ur : Up En.tag m b d)
    (IH : ∀ (x y z : Nat) (dx : Array En) (wx : World), z - x < b - a → d0.size = dx.size → SWK En.enc 3 w0 blk off dx wx → x < y → y < z → z ≤ dx.size → Up En.tag x y dx → Up En.tag y z dx → Calls Try.prog 116 #[.slice (some ⟨blk, off, none⟩) dx.size cap, .int .i64 x, .int .i64 y, .int .i64 z, .func (.func 92) #[] #[]] wx fun e w' => e = .returned (.tuple #[]) ∧ ∃ d', (Stb En.tag x z dx d' ∧ Up En.tag x z d') ∧ SWK En.enc 3 w0 blk off d' w') (hsz : d.size < 1152921504606846976) :
    Calls Try.prog 116 #[.slice (some ⟨blk, off, none⟩) d.size cap, .int .i64 a, .int .i64 m, .int .i64 b, .func (.func 92) #[] #[]] w fun e w' =>
      e = .returned (.tuple #[]) ∧ ∃ d', (Stb En.tag a b d d' ∧ Up En.tag a b d') ∧ SWK En.enc 3 w0 blk off d' w' := by
  have UL : Aside _ := ul
  have UR : Aside _ := ur
  have HI : Hid _ := IH
  have hM : ((a : Int) + (b : Int)) / 2 = (mid : Int) := by omega
  have hm0 : 2 * mid ≤ a + b := by omega
  have hm9 : a + b ≤ 2 * mid + 1 := by omega
  clear ul ur IH hmid
  have hm1 : ¬ (m : Int) - (a : Int) = 1 := by omega
  have hm2 : ((m : Int) - (a : Int) == 1) = false := by simp; omega
  have hm3 : ¬ (b : Int) - (m : Int) = 1 := by omega
  have hm4 : ((b : Int) - (m : Int) == 1) = false := by simp; omega
  have hsz1 : ¬ (mid : Int) < (m : Int) := by omega
  have S0 : Aside _ := S
  have HR : Aside _ := R
  clear S R
  have mixed : Try.prog.follows .mixedOrders = true := by rfl
  go_enter Try.func116, Try.ntmps116
  go_wp2
  go_loopg [20, 21, 23] (b - a) (fun g1 vi vj vh wr => ∃ (s r : Nat), vi = .int .i64 s ∧ vj = .int .i64 r ∧ a ≤ s ∧ s ≤ r ∧ r ≤ m ∧ r - s ≤ g1 ∧ Aside (SWK En.enc 3 w0 blk off d wr) ∧ Hid ((s = a ∨ d[s - 1]!.tag ≤ d[mid + m - s]!.tag) ∧ (r = m ∨ d[mid + m - 1 - r]!.tag < d[r]!.tag)))
  case atStart => exact ⟨a, m, by first | rfl | rw [show ((a : Nat) : Int) = (a : Int) by omega], rfl, Nat.le_refl _, by omega, Nat.le_refl _, by omega, S0, (⟨Or.inl rfl, Or.inl rfl⟩ : (a = a ∨ d[a - 1]!.tag ≤ d[mid + m - (a)]!.tag) ∧ (m = m ∨ d[mid + m - 1 - m]!.tag < d[m]!.tag))⟩
  case round =>
    clear S0
    obtain ⟨s, r, rfl, rfl, hls, hsr, hrh, hg1, S1, HS⟩ := hrel
    by_cases hlt : s < r
    · have hltz : (s : Int) < (r : Int) := by omega
      obtain ⟨c, hc⟩ : ∃ c, (s + r) / 2 = c := ⟨_, rfl⟩
      have hz : ((s : Int) + (r : Int)) / 2 = (c : Int) := by omega
      have hb1 : s ≤ c := by omega
      have hb2 : c < r := by omega
      clear hc
      obtain ⟨x, hx⟩ : ∃ x, mid + m - 1 - c = x := ⟨_, rfl⟩
      have hXz : (mid : Int) + (m : Int) - 1 - (c : Int) = (x : Int) := by omega
      have hb3 : x < b := by omega
      have hb4 : m ≤ x := by omega
      have HXX : Hid (mid + m - 1 - c = x) := hx
      clear hx
      have eX : ((x : Int)).toNat = x := by omega
      have pX : (0 : Int) ≤ (x : Int) := by omega
      have bX : (x : Int) < (d.size : Int) := by omega
      have rX : IntKind.i64.wrap ((x : Int)) = (x : Int) := by rw [IntKind.wrap_i64]; omega
      have eY : ((c : Int)).toNat = c := by omega
      have pY : (0 : Int) ≤ (c : Int) := by omega
      have bY : (c : Int) < (d.size : Int) := by omega
      have rY : IntKind.i64.wrap ((c : Int)) = (c : Int) := by rw [IntKind.wrap_i64]; omega
      obtain ⟨xX, hxX⟩ : ∃ xx, d[x]! = xx := ⟨_, rfl⟩
      have kX0 : ∀ n os, (grow (wr.drewN n) os).cell? ⟨blk, off + (x) * 3, none⟩ = some (.int .i64 xX.tag) := fun n os => by rw [← hxX]; exact (swk_cells (S1.out.grown n os) HR.out (by omega) (x) (by omega)).1.1
      have kX1 : ∀ n os, (grow (wr.drewN n) os).cell? ⟨blk, off + (x) * 3 + 1, none⟩ = some (.int .i64 xX.vend) := fun n os => by rw [← hxX]; exact (swk_cells (S1.out.grown n os) HR.out (by omega) (x) (by omega)).1.2.1
      have kX2 : ∀ n os, (grow (wr.drewN n) os).cell? ⟨blk, off + (x) * 3 + 2, none⟩ = some (.bool xX.old) := fun n os => by rw [← hxX]; exact (swk_cells (S1.out.grown n os) HR.out (by omega) (x) (by omega)).1.2.2
      obtain ⟨xY, hxY⟩ : ∃ xx, d[c]! = xx := ⟨_, rfl⟩
      have kY0 : ∀ n os, (grow (wr.drewN n) os).cell? ⟨blk, off + (c) * 3, none⟩ = some (.int .i64 xY.tag) := fun n os => by rw [← hxY]; exact (swk_cells (S1.out.grown n os) HR.out (by omega) (c) (by omega)).1.1
      have kY1 : ∀ n os, (grow (wr.drewN n) os).cell? ⟨blk, off + (c) * 3 + 1, none⟩ = some (.int .i64 xY.vend) := fun n os => by rw [← hxY]; exact (swk_cells (S1.out.grown n os) HR.out (by omega) (c) (by omega)).1.2.1
      have kY2 : ∀ n os, (grow (wr.drewN n) os).cell? ⟨blk, off + (c) * 3 + 2, none⟩ = some (.bool xY.old) := fun n os => by rw [← hxY]; exact (swk_cells (S1.out.grown n os) HR.out (by omega) (c) (by omega)).1.2.2
      have HX : Hid (d[x]! = xX ∧ d[c]! = xY) := ⟨hxX, hxY⟩
      clear hxX hxY
      obtain ⟨r9, hr9⟩ : ∃ r, cmpZ xX.tag xY.tag = r := ⟨_, rfl⟩
      have HC : ∀ W, Calls Try.prog 92 #[.agg #[.int .i64 xX.tag, .int .i64 xX.vend, .bool xX.old], .agg #[.int .i64 xY.tag, .int .i64 xY.vend, .bool xY.old]] W (fun e w' => e = .returned (.int .i64 r9) ∧ ∃ q os', w' = grow (W.drewN q) os') := fun W => hr9 ▸ byTag_any xX xY W
      have HL : Hid (r9 < 0 ↔ xX.tag < xY.tag) := hr9 ▸ cmpZ_lt _ _
      clear hr9
      by_cases hlv : r9 < 0
      · have hq9 : decide (r9 < 0) = true := decide_eq_true hlv
        go_wp2_with fail
        go_quiet_grown (first | (go_at_call 92; refine Calls.grown_of (HC _)))
        go_wp2
        go_roundg (c - s)
        case measure => omega
        case rel =>
          refine ⟨s, c, rfl, rfl, hls, hb1, by omega, by omega, SWK.grown S1.out nq osq, (show Hid _ from ?_)⟩
          show _ ∧ _
          refine ⟨HS.out.1, Or.inr ?_⟩
          have hl := HL.out.1 hlv
          rw [← HX.out.1, ← HX.out.2] at hl
          rw [HXX.out]
          exact hl
      · have hq9 : decide (r9 < 0) = false := decide_eq_false (by omega)
        go_wp2_with fail
        go_quiet_grown (first | (go_at_call 92; refine Calls.grown_of (HC _)))
        go_wp2
        go_roundg (r - (c + 1))
        case measure => omega
        case rel =>
          refine ⟨c + 1, r, by go_num, rfl, by omega, by omega, hrh, by omega, SWK.grown S1.out nq osq, (show Hid _ from ?_)⟩
          show _ ∧ _
          refine ⟨Or.inr ?_, HS.out.2⟩
          have hl : ¬ xX.tag < xY.tag := fun hl => by have := HL.out.2 hl; omega
          rw [← HX.out.1, ← HX.out.2] at hl
          rw [show c + 1 - 1 = c by omega, show mid + m - (c + 1) = mid + m - 1 - c by omega, HXX.out]
          omega
    · have hltz : ¬ (s : Int) < (r : Int) := by omega
      have hrs : r = s := by omega
      subst hrs
      obtain ⟨e, he⟩ : ∃ e, mid + m - r = e := ⟨_, rfl⟩
      have hez : (mid : Int) + (m : Int) - (r : Int) = (e : Int) := by omega
      have CUT : Aside (Cut En.tag a r m e b d) := he ▸ cut_found (lo := a) (hi := m) (by omega) (by omega) (by omega) (by omega) (by omega) hls hrh (by omega) (by omega) (by omega) UL.out UR.out HS.out.1 HS.out.2
      have hsum : r + (e - m) = mid := by omega
      have hsm : r ≤ m := by omega
      have hme : m ≤ e := by omega
      have heb : e ≤ b := by omega
      have har : a ≤ r := by omega
      have hrm : r ≤ mid := by omega
      have hem : mid ≤ e := by omega
      have HSU : Hid (r + (e - m) = mid) := hsum
      clear HS he hsum hg1 hls hrh hsr
      rcases (show (r < m ∧ m < e) ∨ (r < m ∧ ¬ m < e) ∨ ¬ r < m by omega) with ⟨h10, h20⟩ | ⟨h10, h20⟩ | h10
      · have y0 : (r : Int) < (m : Int) := by omega
        have v0 : (m : Int) < (e : Int) := by omega
        have hcall := rotate_any blk off cap r m e d0 d w0 wr (by omega) HR.out S1.out (.func (.func 92) #[] #[]) h10 h20 (by omega) (by omega)
        clear S1
        go_wp2_with fail
        go_at_call 117
        refine hcall.mono ?_
        rintro e0 w1 ⟨rfl, d1, hr0, S2⟩
        have S2 : Aside (SWK En.enc 3 w0 blk off d1 w1) := S2
        have ROT : Aside (Rot r m e d d1) := hr0
        have hs1 : d1.size = d.size := hr0.1
        clear hr0 hcall
        rcases (show (a < r ∧ r < mid) ∨ (a < r ∧ ¬ r < mid) ∨ ¬ a < r by omega) with ⟨h11, h21⟩ | ⟨h11, h21⟩ | h11
        · have y1 : (a : Int) < (r : Int) := by omega
          have v1 : (r : Int) < (mid : Int) := by omega
          have hcall := HI.out a r mid d1 w1 (by omega) (by omega) S2.out h11 h21 (by omega) (CUT.out.parts ROT.out).1 (HSU.out ▸ (CUT.out.parts ROT.out).2.1)
          rw [hs1] at hcall
          clear S2
          go_wp2_with fail
          go_at_call 116
          refine hcall.mono ?_
          rintro e1 w2 ⟨rfl, d2, ⟨st2, up2⟩, S3⟩
          have S3 : Aside (SWK En.enc 3 w0 blk off d2 w2) := S3
          have ST2 : Aside (Stb En.tag a mid d1 d2) := st2
          have UP2 : Aside (Up En.tag a mid d2) := up2
          have hs2 : d2.size = d.size := st2.1.trans hs1
          clear st2 up2 hcall
          rcases (show (mid < e ∧ e < b) ∨ (mid < e ∧ ¬ e < b) ∨ ¬ mid < e by omega) with ⟨h12, h22⟩ | ⟨h12, h22⟩ | h12
          · have y2 : (mid : Int) < (e : Int) := by omega
            have v2 : (e : Int) < (b : Int) := by omega
            have hh2 := (CUT.out.parts ROT.out).2.2.1
            rw [HSU.out] at hh2
            have UX : Aside (Up En.tag mid e d2) := Up.congr hh2 (fun i i1 _ => ST2.out.2.1 i (Or.inr i1))
            have UY : Aside (Up En.tag e b d2) := Up.congr (CUT.out.parts ROT.out).2.2.2 (fun i i1 _ => ST2.out.2.1 i (Or.inr (by omega)))
            clear hh2
            have hcall := HI.out mid e b d2 w2 (by omega) (by omega) S3.out h12 h22 (by omega) UX.out UY.out
            rw [hs2] at hcall
            clear S3
            go_wp2_with fail
            go_at_call 116
            refine hcall.mono ?_
            rintro e2 w3 ⟨rfl, d3, ⟨st3, up3⟩, S4⟩
            have S4 : Aside (SWK En.enc 3 w0 blk off d3 w3) := S4
            have ST3 : Aside (Stb En.tag mid b d2 d3) := st3
            have UP3 : Aside (Up En.tag mid b d3) := up3
            clear st3 up3 hcall
            go_wp2_with fail
            go_end0
            exact ⟨rfl, d3, CUT.out.done ROT.out (by rw [HSU.out]; exact ST2.out) (by rw [HSU.out]; exact UP2.out) (by rw [HSU.out]; exact ST3.out) (by rw [HSU.out]; exact UP3.out), S4.out⟩
          · exfalso; omega
          · exfalso; omega
        · exfalso; omega
        · have y1 : ¬ (a : Int) < (r : Int) := by omega
          have ST2 : Aside (Stb En.tag a mid d1 d1) := Stb.refl
          have UP2 : Aside (Up En.tag a mid d1) := by
            have hh := (CUT.out.parts ROT.out).2.1
            rw [HSU.out] at hh
            have e9 : r = a := by omega
            rw [e9] at hh
            exact hh
          have hs2 : d1.size = d.size := hs1
          rcases (show (mid < e ∧ e < b) ∨ (mid < e ∧ ¬ e < b) ∨ ¬ mid < e by omega) with ⟨h12, h22⟩ | ⟨h12, h22⟩ | h12
          · have y2 : (mid : Int) < (e : Int) := by omega
            have v2 : (e : Int) < (b : Int) := by omega
            have hh2 := (CUT.out.parts ROT.out).2.2.1
            rw [HSU.out] at hh2
            have UX : Aside (Up En.tag mid e d1) := Up.congr hh2 (fun i i1 _ => ST2.out.2.1 i (Or.inr i1))
            have UY : Aside (Up En.tag e b d1) := Up.congr (CUT.out.parts ROT.out).2.2.2 (fun i i1 _ => ST2.out.2.1 i (Or.inr (by omega)))
            clear hh2
            have hcall := HI.out mid e b d1 w1 (by omega) (by omega) S2.out h12 h22 (by omega) UX.out UY.out
            rw [hs2] at hcall
            clear S2
            go_wp2_with fail
            go_at_call 116
            refine hcall.mono ?_
            rintro e2 w3 ⟨rfl, d3, ⟨st3, up3⟩, S4⟩
            have S4 : Aside (SWK En.enc 3 w0 blk off d3 w3) := S4
            have ST3 : Aside (Stb En.tag mid b d1 d3) := st3
            have UP3 : Aside (Up En.tag mid b d3) := up3
            clear st3 up3 hcall
            go_wp2_with fail
            go_end0
            exact ⟨rfl, d3, CUT.out.done ROT.out (by rw [HSU.out]; exact ST2.out) (by rw [HSU.out]; exact UP2.out) (by rw [HSU.out]; exact ST3.out) (by rw [HSU.out]; exact UP3.out), S4.out⟩
          · have y2 : (mid : Int) < (e : Int) := by omega
            have v2 : ¬ (e : Int) < (b : Int) := by omega
            have hh2 := (CUT.out.parts ROT.out).2.2.1
            rw [HSU.out] at hh2
            have UX : Aside (Up En.tag mid e d1) := Up.congr hh2 (fun i i1 _ => ST2.out.2.1 i (Or.inr i1))
            have UY : Aside (Up En.tag e b d1) := Up.congr (CUT.out.parts ROT.out).2.2.2 (fun i i1 _ => ST2.out.2.1 i (Or.inr (by omega)))
            clear hh2
            have UP3 : Aside (Up En.tag mid b d1) := by
              have e9 : e = b := by omega
              have hh := UX.out
              rw [e9] at hh
              exact hh
            go_wp2_with fail
            go_end0
            exact ⟨rfl, d1, CUT.out.done ROT.out (by rw [HSU.out]; exact ST2.out) (by rw [HSU.out]; exact UP2.out) (by rw [HSU.out]; exact Stb.refl) (by rw [HSU.out]; exact UP3.out), S2.out⟩
          · exfalso; omega
      · exfalso; omega
      · have y0 : ¬ (r : Int) < (m : Int) := by omega
        have ROT : Aside (Rot r m e d d) := Rot.none (by omega) hsm hme
        rcases (show (a < r ∧ r < mid) ∨ (a < r ∧ ¬ r < mid) ∨ ¬ a < r by omega) with ⟨h11, h21⟩ | ⟨h11, h21⟩ | h11
        · have y1 : (a : Int) < (r : Int) := by omega
          have v1 : (r : Int) < (mid : Int) := by omega
          have hcall := HI.out a r mid d wr (by omega) (by omega) S1.out h11 h21 (by omega) (CUT.out.parts ROT.out).1 (HSU.out ▸ (CUT.out.parts ROT.out).2.1)
          clear S1
          go_wp2_with fail
          go_at_call 116
          refine hcall.mono ?_
          rintro e1 w2 ⟨rfl, d2, ⟨st2, up2⟩, S3⟩
          have S3 : Aside (SWK En.enc 3 w0 blk off d2 w2) := S3
          have ST2 : Aside (Stb En.tag a mid d d2) := st2
          have UP2 : Aside (Up En.tag a mid d2) := up2
          have hs2 : d2.size = d.size := st2.1
          clear st2 up2 hcall
          rcases (show (mid < e ∧ e < b) ∨ (mid < e ∧ ¬ e < b) ∨ ¬ mid < e by omega) with ⟨h12, h22⟩ | ⟨h12, h22⟩ | h12
          · exfalso; omega
          · exfalso; omega
          · have y2 : ¬ (mid : Int) < (e : Int) := by omega
            have hh2 := (CUT.out.parts ROT.out).2.2.1
            rw [HSU.out] at hh2
            have UX : Aside (Up En.tag mid e d2) := Up.congr hh2 (fun i i1 _ => ST2.out.2.1 i (Or.inr i1))
            have UY : Aside (Up En.tag e b d2) := Up.congr (CUT.out.parts ROT.out).2.2.2 (fun i i1 _ => ST2.out.2.1 i (Or.inr (by omega)))
            clear hh2
            have UP3 : Aside (Up En.tag mid b d2) := by
              have e9 : e = mid := by omega
              have hh := UY.out
              rw [e9] at hh
              exact hh
            go_wp2_with fail
            go_end0
            exact ⟨rfl, d2, CUT.out.done ROT.out (by rw [HSU.out]; exact ST2.out) (by rw [HSU.out]; exact UP2.out) (by rw [HSU.out]; exact Stb.refl) (by rw [HSU.out]; exact UP3.out), S3.out⟩
        · have y1 : (a : Int) < (r : Int) := by omega
          have v1 : ¬ (r : Int) < (mid : Int) := by omega
          have ST2 : Aside (Stb En.tag a mid d d) := Stb.refl
          have UP2 : Aside (Up En.tag a mid d) := by
            have hh := (CUT.out.parts ROT.out).1
            have e9 : r = mid := by omega
            rw [e9] at hh
            exact hh
          rcases (show (mid < e ∧ e < b) ∨ (mid < e ∧ ¬ e < b) ∨ ¬ mid < e by omega) with ⟨h12, h22⟩ | ⟨h12, h22⟩ | h12
          · exfalso; omega
          · exfalso; omega
          · have y2 : ¬ (mid : Int) < (e : Int) := by omega
            have hh2 := (CUT.out.parts ROT.out).2.2.1
            rw [HSU.out] at hh2
            have UX : Aside (Up En.tag mid e d) := Up.congr hh2 (fun i i1 _ => ST2.out.2.1 i (Or.inr i1))
            have UY : Aside (Up En.tag e b d) := Up.congr (CUT.out.parts ROT.out).2.2.2 (fun i i1 _ => ST2.out.2.1 i (Or.inr (by omega)))
            clear hh2
            have UP3 : Aside (Up En.tag mid b d) := by
              have e9 : e = mid := by omega
              have hh := UY.out
              rw [e9] at hh
              exact hh
            go_wp2_with fail
            go_end0
            exact ⟨rfl, d, CUT.out.done ROT.out (by rw [HSU.out]; exact ST2.out) (by rw [HSU.out]; exact UP2.out) (by rw [HSU.out]; exact Stb.refl) (by rw [HSU.out]; exact UP3.out), S1.out⟩
        · exfalso; omega
end Go.Proofs.Ytjmabidahofbbaa
