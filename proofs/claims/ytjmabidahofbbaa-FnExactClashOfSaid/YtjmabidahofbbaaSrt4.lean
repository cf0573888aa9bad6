/- A merge of one element with many, by the library's own text. -/
import Derived.Test.YtjmabidahofbbaaSrt1
namespace Go.Proofs.Ytjmabidahofbbaa
open Go.Shelf Go.RowKit Go.Lib Go.Sort
set_option linter.unusedVariables false
set_option maxHeartbeats 2000000 in
set_option maxRecDepth 100000 in
theorem mergeA (blk off cap a b : Nat) (d0 d : Array En) (w0 w : World) (hs : d0.size = d.size) (R : RowK En.enc 3 w0 blk off d0) (S : SWK En.enc 3 w0 blk off d w) (hab : a + 1 < b) (hb : b ≤ d.size) (ur : Up En.tag (a + 1) b d) (hsz : d.size < 1152921504606846976) :
    Calls Try.prog 116 #[.slice (some ⟨blk, off, none⟩) d.size cap, .int .i64 a, .int .i64 ((a : Int) + 1), .int .i64 b, .func (.func 92) #[] #[]] w fun e w' =>
      e = .returned (.tuple #[]) ∧ ∃ d', (Stb En.tag a (b) d d' ∧ Up En.tag a (b) d') ∧ SWK En.enc 3 w0 blk off d' w' := by
  have U : Aside _ := ur
  clear ur
  have hq1 : ((a : Int) + 1 - (a : Int) == 1) = true := by simp; omega
  have S0 : Aside _ := S
  have HR : Aside _ := R
  clear S R
  have mixed : Try.prog.follows .mixedOrders = true := by rfl
  go_enter Try.func116, Try.ntmps116
  go_wp2
  go_loopg [10, 11, 12] (b - a) (fun g1 vi vj vh wr => ∃ (i j : Nat), vi = .int .i64 i ∧ vj = .int .i64 j ∧ a + 1 ≤ i ∧ i ≤ j ∧ j ≤ b ∧ j - i ≤ g1 ∧ Aside (SWK En.enc 3 w0 blk off d wr) ∧ Hid ((∀ p, a + 1 ≤ p → p < i → d[p]!.tag < d[a]!.tag) ∧ (∀ p, j ≤ p → p < b → d[a]!.tag ≤ d[p]!.tag)))
  case atStart => exact ⟨a + 1, b, by go_num, rfl, Nat.le_refl _, by omega, Nat.le_refl _, by omega, S0, (⟨fun p h1 h2 => by omega, fun p h1 h2 => by omega⟩ : (∀ p, a + 1 ≤ p → p < a + 1 → d[p]!.tag < d[a]!.tag) ∧ (∀ p, b ≤ p → p < b → d[a]!.tag ≤ d[p]!.tag))⟩
  case round =>
    clear S0
    obtain ⟨i, j, rfl, rfl, hai, hij, hjb, hg1, S1, HS⟩ := hrel
    by_cases hlt : i < j
    · have hltz : (i : Int) < (j : Int) := by omega
      obtain ⟨h, hh⟩ : ∃ h, (i + j) / 2 = h := ⟨_, rfl⟩
      have hz : ((i : Int) + (j : Int)) / 2 = (h : Int) := by omega
      have hb1 : i ≤ h := by omega
      have hb2 : h < j := by omega
      have HH : Hid ((i + j) / 2 = h) := hh
      clear hh
      have eH : ((h : Int)).toNat = h := by omega
      have pH : (0 : Int) ≤ (h : Int) := by omega
      have bH : (h : Int) < (d.size : Int) := by omega
      have rH : IntKind.i64.wrap ((h : Int)) = (h : Int) := by rw [IntKind.wrap_i64]; omega
      have eA : ((a : Int)).toNat = a := by omega
      have pA : (0 : Int) ≤ (a : Int) := by omega
      have bA : (a : Int) < (d.size : Int) := by omega
      have rA : IntKind.i64.wrap ((a : Int)) = (a : Int) := by rw [IntKind.wrap_i64]; omega
      obtain ⟨xH, hxH⟩ : ∃ xx, d[h]! = xx := ⟨_, rfl⟩
      have kH0 : ∀ n os, (grow (wr.drewN n) os).cell? ⟨blk, off + (h) * 3, none⟩ = some (.int .i64 xH.tag) := fun n os => by rw [← hxH]; exact (swk_cells (S1.out.grown n os) HR.out (by omega) (h) (by omega)).1.1
      have kH1 : ∀ n os, (grow (wr.drewN n) os).cell? ⟨blk, off + (h) * 3 + 1, none⟩ = some (.int .i64 xH.vend) := fun n os => by rw [← hxH]; exact (swk_cells (S1.out.grown n os) HR.out (by omega) (h) (by omega)).1.2.1
      have kH2 : ∀ n os, (grow (wr.drewN n) os).cell? ⟨blk, off + (h) * 3 + 2, none⟩ = some (.bool xH.old) := fun n os => by rw [← hxH]; exact (swk_cells (S1.out.grown n os) HR.out (by omega) (h) (by omega)).1.2.2
      obtain ⟨xA, hxA⟩ : ∃ xx, d[a]! = xx := ⟨_, rfl⟩
      have kA0 : ∀ n os, (grow (wr.drewN n) os).cell? ⟨blk, off + (a) * 3, none⟩ = some (.int .i64 xA.tag) := fun n os => by rw [← hxA]; exact (swk_cells (S1.out.grown n os) HR.out (by omega) (a) (by omega)).1.1
      have kA1 : ∀ n os, (grow (wr.drewN n) os).cell? ⟨blk, off + (a) * 3 + 1, none⟩ = some (.int .i64 xA.vend) := fun n os => by rw [← hxA]; exact (swk_cells (S1.out.grown n os) HR.out (by omega) (a) (by omega)).1.2.1
      have kA2 : ∀ n os, (grow (wr.drewN n) os).cell? ⟨blk, off + (a) * 3 + 2, none⟩ = some (.bool xA.old) := fun n os => by rw [← hxA]; exact (swk_cells (S1.out.grown n os) HR.out (by omega) (a) (by omega)).1.2.2
      have HX : Hid (d[h]! = xH ∧ d[a]! = xA) := ⟨hxH, hxA⟩
      clear hxH hxA
      obtain ⟨r9, hr9⟩ : ∃ r, cmpZ xH.tag xA.tag = r := ⟨_, rfl⟩
      have HC : ∀ W, Calls Try.prog 92 #[.agg #[.int .i64 xH.tag, .int .i64 xH.vend, .bool xH.old], .agg #[.int .i64 xA.tag, .int .i64 xA.vend, .bool xA.old]] W (fun e w' => e = .returned (.int .i64 r9) ∧ ∃ q os', w' = grow (W.drewN q) os') := fun W => hr9 ▸ byTag_any xH xA W
      have HL : Hid (r9 < 0 ↔ xH.tag < xA.tag) := hr9 ▸ cmpZ_lt _ _
      clear hr9
      by_cases hlv : r9 < 0
      · go_wp2_with fail
        go_quiet_grown (first | (go_at_call 92; refine Calls.grown_of (HC _)))
        go_wp2
        go_roundg (j - (h + 1))
        case measure => omega
        case rel =>
          refine ⟨h + 1, j, by go_num, rfl, by omega, by omega, hjb, by omega, SWK.grown S1.out nq osq, (show Hid _ from ?_)⟩
          show _ ∧ _
          refine ⟨fun p p1 p2 => ?_, HS.out.2⟩
          have hl := HL.out.1 hlv
          rw [← HX.out.1, ← HX.out.2] at hl
          by_cases e : p = h
          · subst e; exact hl
          · have := U.out p h p1 (by omega) (by omega)
            omega
      · go_wp2_with fail
        go_quiet_grown (first | (go_at_call 92; refine Calls.grown_of (HC _)))
        go_wp2
        go_roundg (h - i)
        case measure => omega
        case rel =>
          refine ⟨i, h, rfl, rfl, hai, hb1, by omega, by omega, SWK.grown S1.out nq osq, (show Hid _ from ?_)⟩
          show _ ∧ _
          refine ⟨HS.out.1, fun p p1 p2 => ?_⟩
          have hl : ¬ xH.tag < xA.tag := fun hl => by have := HL.out.2 hl; omega
          rw [← HX.out.1, ← HX.out.2] at hl
          by_cases e : p = h
          · subst e; omega
          · have := U.out h p (by omega) (by omega) p2
            omega
    · have hltz : ¬ (i : Int) < (j : Int) := by omega
      have hij2 : j = i := by omega
      subst hij2
      go_wp2
      go_loopg [13] (b - a) (fun g2 vk wr => ∃ (k : Nat) (dk : Array En), vk = .int .i64 k ∧ a ≤ k ∧ k + 1 ≤ j ∧ j - k ≤ g2 ∧ dk.size = d.size ∧ Aside (SWK En.enc 3 w0 blk off dk wr) ∧ Hid (Rot a (a + 1) (k + 1) d dk))
      case atStart => exact ⟨a, d, rfl, Nat.le_refl _, hai, by omega, rfl, S1, Rot.none (Or.inr (Nat.le_refl _)) (by omega) (Nat.le_refl _)⟩
      case round =>
        clear S1
        obtain ⟨k, dk, rfl, hak, hkj, hg2, hds, S1, HT⟩ := hrel
        by_cases hkl : k + 1 < j
        · have hkz : (k : Int) < (j : Int) - 1 := by omega
          go_wp2_with fail
          have eK : ((k : Int)).toNat = k := by omega
          have pK : (0 : Int) ≤ (k : Int) := by omega
          have bK : (k : Int) < (d.size : Int) := by omega
          have rK : IntKind.i64.wrap ((k : Int)) = (k : Int) := by rw [IntKind.wrap_i64]; omega
          have eL : ((k : Int) + 1).toNat = k + 1 := by omega
          have pL : (0 : Int) ≤ (k : Int) + 1 := by omega
          have bL : (k : Int) + 1 < (d.size : Int) := by omega
          have rL : IntKind.i64.wrap ((k : Int) + 1) = (k : Int) + 1 := by rw [IntKind.wrap_i64]; omega
          have S2 : Aside (SWK En.enc 3 w0 blk off (swp dk (k) (k + 1)) ((wr.drew.setCells blk (off + (k) * 3) (En.enc dk[k + 1]!)).setCells blk (off + (k + 1) * 3) (En.enc dk[k]!))) := S1.out.swapped HR.out (k) (k + 1) (by omega) (by omega)
          obtain ⟨⟨c0, c1, c2⟩, z0, z1, z2⟩ := swk_cells S1.out HR.out (by omega) (k) (by omega)
          obtain ⟨⟨e0, e1, e2⟩, y0, y1, y2⟩ := swk_cells S1.out HR.out (by omega) (k + 1) (by omega)
          clear S1
          generalize dk[k]! = xa at S2 c0 c1 c2
          generalize dk[k + 1]! = xb at S2 e0 e1 e2
          have n0 : off + (k + 1) * 3 ≠ off + (k) * 3 := by omega
          have n1 : off + (k + 1) * 3 ≠ off + (k) * 3 + 1 := by omega
          have n2 : off + (k + 1) * 3 ≠ off + (k) * 3 + 2 := by omega
          have n3 : off + (k + 1) * 3 + 1 ≠ off + (k) * 3 := by omega
          have n4 : off + (k + 1) * 3 + 1 ≠ off + (k) * 3 + 1 := by omega
          have n5 : off + (k + 1) * 3 + 1 ≠ off + (k) * 3 + 2 := by omega
          have n6 : off + (k + 1) * 3 + 2 ≠ off + (k) * 3 := by omega
          have n7 : off + (k + 1) * 3 + 2 ≠ off + (k) * 3 + 1 := by omega
          have n8 : off + (k + 1) * 3 + 2 ≠ off + (k) * 3 + 2 := by omega
          obtain ⟨A, hA⟩ : ∃ A, off + (k) * 3 = A := ⟨_, rfl⟩
          obtain ⟨B, hB⟩ : ∃ B, off + (k + 1) * 3 = B := ⟨_, rfl⟩
          rw [hA] at S2 c0 c1 c2 z0 z1 z2 n0 n1 n2 n3 n4 n5 n6 n7 n8
          rw [hB] at S2 e0 e1 e2 y0 y1 y2 n0 n1 n2 n3 n4 n5 n6 n7 n8
          rw [put_pair] at S2
          go_big_region
          all_goals go_wp2
          go_roundg (j - (k + 1))
          case measure => omega
          case rel => exact ⟨k + 1, swp dk k (k + 1), by go_num, by omega, by omega, by omega, by rw [size_swp]; exact hds, S2, rot_on HT.out hak (by omega)⟩
        · have hkz : ¬ (k : Int) < (j : Int) - 1 := by omega
          go_wp2
          refine bodyPost_ret (results_none rfl _ _ _) rfl ?_
          have e : j = k + 1 := by omega
          subst e
          exact ⟨rfl, dk, one_left hai hjb U.out HS.out.1 HS.out.2 HT.out, S1.out⟩
end Go.Proofs.Ytjmabidahofbbaa
