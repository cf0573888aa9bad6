/- A merge of many elements with one, by the library's own text. -/
import Derived.Test.YtjmabidahofbbaaSrt1
namespace Go.Proofs.Ytjmabidahofbbaa
open Go.Shelf Go.RowKit Go.Lib Go.Sort
set_option linter.unusedVariables false
set_option maxHeartbeats 2000000 in
set_option maxRecDepth 100000 in
theorem mergeB (blk off cap a m : Nat) (d0 d : Array En) (w0 w : World) (hs : d0.size = d.size) (R : RowK En.enc 3 w0 blk off d0) (S : SWK En.enc 3 w0 blk off d w) (ham : a + 1 < m) (hb : m + 1 ≤ d.size) (ul : Up En.tag a m d) (hsz : d.size < 1152921504606846976) :
    Calls Try.prog 116 #[.slice (some ⟨blk, off, none⟩) d.size cap, .int .i64 a, .int .i64 m, .int .i64 ((m : Int) + 1), .func (.func 92) #[] #[]] w fun e w' =>
      e = .returned (.tuple #[]) ∧ ∃ d', (Stb En.tag a (m + 1) d d' ∧ Up En.tag a (m + 1) d') ∧ SWK En.enc 3 w0 blk off d' w' := by
  have U : Aside _ := ul
  clear ul
  have hm1 : ¬ (m : Int) - (a : Int) = 1 := by omega
  have hm2 : ((m : Int) - (a : Int) == 1) = false := by simp; omega
  have hq1 : ((m : Int) + 1 - (m : Int) == 1) = true := by simp; omega
  have S0 : Aside _ := S
  have HR : Aside _ := R
  clear S R
  have mixed : Try.prog.follows .mixedOrders = true := by rfl
  go_enter Try.func116, Try.ntmps116
  go_wp2
  go_loopg [14, 15, 16] (m - a) (fun g1 vi vj vh wr => ∃ (i j : Nat), vi = .int .i64 i ∧ vj = .int .i64 j ∧ a ≤ i ∧ i ≤ j ∧ j ≤ m ∧ j - i ≤ g1 ∧ Aside (SWK En.enc 3 w0 blk off d wr) ∧ Hid ((∀ p, a ≤ p → p < i → d[p]!.tag ≤ d[m]!.tag) ∧ (∀ p, j ≤ p → p < m → d[m]!.tag < d[p]!.tag)))
  case atStart => exact ⟨a, m, rfl, rfl, Nat.le_refl _, by omega, Nat.le_refl _, by omega, S0, (⟨fun p h1 h2 => by omega, fun p h1 h2 => by omega⟩ : (∀ p, a ≤ p → p < a → d[p]!.tag ≤ d[m]!.tag) ∧ (∀ p, m ≤ p → p < m → d[m]!.tag < d[p]!.tag))⟩
  case round =>
    clear S0
    obtain ⟨i, j, rfl, rfl, hai, hij, hjb, hg1, S1, HS⟩ := hrel
    by_cases hlt : i < j
    · have hltz : (i : Int) < (j : Int) := by omega
      obtain ⟨h, hh⟩ : ∃ h, (i + j) / 2 = h := ⟨_, rfl⟩
      have hz : ((i : Int) + (j : Int)) / 2 = (h : Int) := by omega
      have hb1 : i ≤ h := by omega
      have hb2 : h < j := by omega
      have HH : Hid ((i + j) / 2 = h) := hh
      clear hh
      have eH : ((h : Int)).toNat = h := by omega
      have pH : (0 : Int) ≤ (h : Int) := by omega
      have bH : (h : Int) < (d.size : Int) := by omega
      have rH : IntKind.i64.wrap ((h : Int)) = (h : Int) := by rw [IntKind.wrap_i64]; omega
      have eM : ((m : Int)).toNat = m := by omega
      have pM : (0 : Int) ≤ (m : Int) := by omega
      have bM : (m : Int) < (d.size : Int) := by omega
      have rM : IntKind.i64.wrap ((m : Int)) = (m : Int) := by rw [IntKind.wrap_i64]; omega
      obtain ⟨xH, hxH⟩ : ∃ xx, d[h]! = xx := ⟨_, rfl⟩
      have kH0 : ∀ n os, (grow (wr.drewN n) os).cell? ⟨blk, off + (h) * 3, none⟩ = some (.int .i64 xH.tag) := fun n os => by rw [← hxH]; exact (swk_cells (S1.out.grown n os) HR.out (by omega) (h) (by omega)).1.1
      have kH1 : ∀ n os, (grow (wr.drewN n) os).cell? ⟨blk, off + (h) * 3 + 1, none⟩ = some (.int .i64 xH.vend) := fun n os => by rw [← hxH]; exact (swk_cells (S1.out.grown n os) HR.out (by omega) (h) (by omega)).1.2.1
      have kH2 : ∀ n os, (grow (wr.drewN n) os).cell? ⟨blk, off + (h) * 3 + 2, none⟩ = some (.bool xH.old) := fun n os => by rw [← hxH]; exact (swk_cells (S1.out.grown n os) HR.out (by omega) (h) (by omega)).1.2.2
      obtain ⟨xM, hxM⟩ : ∃ xx, d[m]! = xx := ⟨_, rfl⟩
      have kM0 : ∀ n os, (grow (wr.drewN n) os).cell? ⟨blk, off + (m) * 3, none⟩ = some (.int .i64 xM.tag) := fun n os => by rw [← hxM]; exact (swk_cells (S1.out.grown n os) HR.out (by omega) (m) (by omega)).1.1
      have kM1 : ∀ n os, (grow (wr.drewN n) os).cell? ⟨blk, off + (m) * 3 + 1, none⟩ = some (.int .i64 xM.vend) := fun n os => by rw [← hxM]; exact (swk_cells (S1.out.grown n os) HR.out (by omega) (m) (by omega)).1.2.1
      have kM2 : ∀ n os, (grow (wr.drewN n) os).cell? ⟨blk, off + (m) * 3 + 2, none⟩ = some (.bool xM.old) := fun n os => by rw [← hxM]; exact (swk_cells (S1.out.grown n os) HR.out (by omega) (m) (by omega)).1.2.2
      have HX : Hid (d[h]! = xH ∧ d[m]! = xM) := ⟨hxH, hxM⟩
      clear hxH hxM
      obtain ⟨r9, hr9⟩ : ∃ r, cmpZ xM.tag xH.tag = r := ⟨_, rfl⟩
      have HC : ∀ W, Calls Try.prog 92 #[.agg #[.int .i64 xM.tag, .int .i64 xM.vend, .bool xM.old], .agg #[.int .i64 xH.tag, .int .i64 xH.vend, .bool xH.old]] W (fun e w' => e = .returned (.int .i64 r9) ∧ ∃ q os', w' = grow (W.drewN q) os') := fun W => hr9 ▸ byTag_any xM xH W
      have HL : Hid (r9 < 0 ↔ xM.tag < xH.tag) := hr9 ▸ cmpZ_lt _ _
      clear hr9
      by_cases hlv : r9 < 0
      · go_wp2_with fail
        go_quiet_grown (first | (go_at_call 92; refine Calls.grown_of (HC _)))
        go_wp2
        go_roundg (h - i)
        case measure => omega
        case rel =>
          refine ⟨i, h, rfl, rfl, hai, hb1, by omega, by omega, SWK.grown S1.out nq osq, (show Hid _ from ?_)⟩
          show _ ∧ _
          refine ⟨HS.out.1, fun p p1 p2 => ?_⟩
          have hl := HL.out.1 hlv
          rw [← HX.out.1, ← HX.out.2] at hl
          by_cases e : p = h
          · subst e; exact hl
          · have := U.out h p (by omega) (by omega) p2
            omega
      · have hq9 : decide (r9 < 0) = false := decide_eq_false (by omega)
        go_wp2_with fail
        go_quiet_grown (first | (go_at_call 92; refine Calls.grown_of (HC _)))

        go_wp2
        go_roundg (j - (h + 1))
        case measure => omega
        case rel =>
          refine ⟨h + 1, j, by go_num, rfl, by omega, by omega, hjb, by omega, SWK.grown S1.out nq osq, (show Hid _ from ?_)⟩
          show _ ∧ _
          refine ⟨fun p p1 p2 => ?_, HS.out.2⟩
          have hl : ¬ xM.tag < xH.tag := fun hl => by have := HL.out.2 hl; omega
          rw [← HX.out.1, ← HX.out.2] at hl
          by_cases e : p = h
          · subst e; omega
          · have := U.out p h p1 (by omega) (by omega)
            omega
    · have hltz : ¬ (i : Int) < (j : Int) := by omega
      have hij2 : j = i := by omega
      subst hij2
      go_wp2
      go_loopg [17] (m - a) (fun g2 vk wr => ∃ (k : Nat) (dk : Array En), vk = .int .i64 k ∧ j ≤ k ∧ k ≤ m ∧ k - j ≤ g2 ∧ dk.size = d.size ∧ Aside (SWK En.enc 3 w0 blk off dk wr) ∧ Hid (Rot k m (m + 1) d dk))
      case atStart => exact ⟨m, d, rfl, hjb, Nat.le_refl _, by omega, rfl, S1, Rot.none (Or.inl (Nat.le_refl _)) (Nat.le_refl _) (by omega)⟩
      case round =>
        clear S1
        obtain ⟨k, dk, rfl, hak, hkj, hg2, hds, S1, HT⟩ := hrel
        by_cases hkl : j < k
        · obtain ⟨kp, rfl⟩ : ∃ kp, k = kp + 1 := ⟨k - 1, by omega⟩
          have hkz : (j : Int) < (kp : Int) + 1 := by omega
          go_wp2_with fail
          have eK : ((kp : Int) + 1).toNat = kp + 1 := by omega
          have pK : (0 : Int) ≤ (kp : Int) + 1 := by omega
          have bK : (kp : Int) + 1 < (d.size : Int) := by omega
          have rK : IntKind.i64.wrap ((kp : Int) + 1) = (kp : Int) + 1 := by rw [IntKind.wrap_i64]; omega
          have eL : ((kp : Int)).toNat = kp := by omega
          have pL : (0 : Int) ≤ (kp : Int) := by omega
          have bL : (kp : Int) < (d.size : Int) := by omega
          have rL : IntKind.i64.wrap ((kp : Int)) = (kp : Int) := by rw [IntKind.wrap_i64]; omega
          have S2 : Aside (SWK En.enc 3 w0 blk off (swp dk (kp + 1) (kp)) ((wr.drew.setCells blk (off + (kp + 1) * 3) (En.enc dk[kp]!)).setCells blk (off + (kp) * 3) (En.enc dk[kp + 1]!))) := S1.out.swapped HR.out (kp + 1) (kp) (by omega) (by omega)
          obtain ⟨⟨c0, c1, c2⟩, z0, z1, z2⟩ := swk_cells S1.out HR.out (by omega) (kp + 1) (by omega)
          obtain ⟨⟨e0, e1, e2⟩, y0, y1, y2⟩ := swk_cells S1.out HR.out (by omega) (kp) (by omega)
          clear S1
          generalize dk[kp + 1]! = xa at S2 c0 c1 c2
          generalize dk[kp]! = xb at S2 e0 e1 e2
          have n0 : off + (kp) * 3 ≠ off + (kp + 1) * 3 := by omega
          have n1 : off + (kp) * 3 ≠ off + (kp + 1) * 3 + 1 := by omega
          have n2 : off + (kp) * 3 ≠ off + (kp + 1) * 3 + 2 := by omega
          have n3 : off + (kp) * 3 + 1 ≠ off + (kp + 1) * 3 := by omega
          have n4 : off + (kp) * 3 + 1 ≠ off + (kp + 1) * 3 + 1 := by omega
          have n5 : off + (kp) * 3 + 1 ≠ off + (kp + 1) * 3 + 2 := by omega
          have n6 : off + (kp) * 3 + 2 ≠ off + (kp + 1) * 3 := by omega
          have n7 : off + (kp) * 3 + 2 ≠ off + (kp + 1) * 3 + 1 := by omega
          have n8 : off + (kp) * 3 + 2 ≠ off + (kp + 1) * 3 + 2 := by omega
          obtain ⟨A, hA⟩ : ∃ A, off + (kp + 1) * 3 = A := ⟨_, rfl⟩
          obtain ⟨B, hB⟩ : ∃ B, off + (kp) * 3 = B := ⟨_, rfl⟩
          rw [hA] at S2 c0 c1 c2 z0 z1 z2 n0 n1 n2 n3 n4 n5 n6 n7 n8
          rw [hB] at S2 e0 e1 e2 y0 y1 y2 n0 n1 n2 n3 n4 n5 n6 n7 n8
          rw [put_pair] at S2
          go_big_region
          all_goals go_wp2
          go_roundg (kp - j)
          case measure => omega
          case rel => exact ⟨kp, swp dk (kp + 1) kp, by first | rfl | go_num | (congr 1; omega), by omega, by omega, by omega, by rw [size_swp]; exact hds, S2, rot_back HT.out hkj (by omega)⟩
        · have hkz : ¬ (j : Int) < (k : Int) := by omega
          go_wp2
          refine bodyPost_ret (results_none rfl _ _ _) rfl ?_
          have e : j = k := by omega
          subst e
          exact ⟨rfl, dk, one_right hai hjb U.out HS.out.1 HS.out.2 HT.out, S1.out⟩
end Go.Proofs.Ytjmabidahofbbaa
