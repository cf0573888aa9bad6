/- The library's insertion sort at entries. -/
import Derived.Test.YtjmabidahofbbaaSrt1
namespace Go.Proofs.Ytjmabidahofbbaa
open Go.Shelf Go.RowKit Go.Lib Go.Sort
set_option linter.unusedVariables false
set_option maxHeartbeats 2000000 in
set_option maxRecDepth 100000 in
theorem insertion_any (blk off cap a b : Nat) (d0 d : Array En) (w0 w : World) (hs : d0.size = d.size) (R : RowK En.enc 3 w0 blk off d0) (S : SWK En.enc 3 w0 blk off d w) (hab : a ≤ b) (hb : b ≤ d.size) (hsz : d.size < 4611686018427387904) :
    Calls Try.prog 115 #[.slice (some ⟨blk, off, none⟩) d.size cap, .int .i64 a, .int .i64 b, .func (.func 92) #[] #[]] w fun e w' =>
      e = .returned (.tuple #[]) ∧ ∃ d', (Stb En.tag a b d d' ∧ Up En.tag a b d') ∧ SWK En.enc 3 w0 blk off d' w' := by
  have S0 : Aside _ := S
  have HR : Aside _ := R
  clear S R
  have mixed : Try.prog.follows .mixedOrders = true := by rfl
  go_enter Try.func115, Try.ntmps115
  go_wp2
  go_loopg [8] (b - a) (fun g1 vi wr => ∃ (i : Nat) (dk : Array En), vi = .int .i64 i ∧ a < i ∧ i ≤ b + 1 ∧ b + 1 - i ≤ g1 + 1 ∧ dk.size = d.size ∧ Aside (SWK En.enc 3 w0 blk off dk wr) ∧ Hid (insOuter (ltK En.tag) a b i dk = insOuter (ltK En.tag) a b (a + 1) d))
  case atStart => exact ⟨a + 1, d, by go_num, by omega, by omega, by omega, rfl, S0, rfl⟩
  case round =>
    clear S0
    obtain ⟨i, dk, rfl, hai, hib, hg1, hsk, S1, HO⟩ := hrel
    by_cases hlt : i < b
    · have hltz : (i : Int) < (b : Int) := by omega
      go_wp2
      go_loopg [9] i (fun g2 vj wr2 => ∃ (j : Nat) (dj : Array En), vj = .int .i64 j ∧ a ≤ j ∧ j ≤ i ∧ j ≤ g2 ∧ dj.size = d.size ∧ Aside (SWK En.enc 3 w0 blk off dj wr2) ∧ Hid (insInner (ltK En.tag) a j dj = insInner (ltK En.tag) a i dk))
      case atStart => exact ⟨i, dk, rfl, by omega, Nat.le_refl _, Nat.le_refl _, hsk, S1, rfl⟩
      case round =>
        clear S1
        obtain ⟨j, dj, rfl, haj, hji, hg2, hsj, S1, HI⟩ := hrel
        have out : (j ≤ a ∨ ltK En.tag dj[j]! dj[j - 1]! = false) → Hid (insOuter (ltK En.tag) a b (i + 1) dj = insOuter (ltK En.tag) a b (a + 1) d) := fun hs => by
          show _ = _
          rw [← HO.out, insOuter_go _ _ _ _ _ hlt, ← HI.out, insInner_stop _ _ _ _ hs]
        have OUT : Aside _ := out
        clear out
        by_cases hja : a < j
        · have hjaz : (a : Int) < (j : Int) := by omega
          obtain ⟨jp, rfl⟩ : ∃ jp, j = jp + 1 := ⟨j - 1, by omega⟩
          have hjaz' : (a : Int) < (jp : Int) + 1 := by omega
          have hwp : IntKind.i64.wrap (jp : Int) = (jp : Int) := by rw [IntKind.wrap_i64]; omega
          have eJ : ((jp : Int) + 1).toNat = jp + 1 := by omega
          have pJ : (0 : Int) ≤ (jp : Int) + 1 := by omega
          have bJ : (jp : Int) + 1 < (d.size : Int) := by omega
          have rJ : IntKind.i64.wrap ((jp : Int) + 1) = (jp : Int) + 1 := by rw [IntKind.wrap_i64]; omega
          have eP : ((jp : Int)).toNat = jp := by omega
          have pP : (0 : Int) ≤ (jp : Int) := by omega
          have bP : (jp : Int) < (d.size : Int) := by omega
          have rP : IntKind.i64.wrap ((jp : Int)) = (jp : Int) := by rw [IntKind.wrap_i64]; omega
          obtain ⟨xJ, hxJ⟩ : ∃ xx, dj[jp + 1]! = xx := ⟨_, rfl⟩
          have kJ0 : ∀ n os, (grow (wr.drewN n) os).cell? ⟨blk, off + (jp + 1) * 3, none⟩ = some (.int .i64 xJ.tag) := fun n os => by rw [← hxJ]; exact (swk_cells (S1.out.grown n os) HR.out (by omega) (jp + 1) (by omega)).1.1
          have kJ1 : ∀ n os, (grow (wr.drewN n) os).cell? ⟨blk, off + (jp + 1) * 3 + 1, none⟩ = some (.int .i64 xJ.vend) := fun n os => by rw [← hxJ]; exact (swk_cells (S1.out.grown n os) HR.out (by omega) (jp + 1) (by omega)).1.2.1
          have kJ2 : ∀ n os, (grow (wr.drewN n) os).cell? ⟨blk, off + (jp + 1) * 3 + 2, none⟩ = some (.bool xJ.old) := fun n os => by rw [← hxJ]; exact (swk_cells (S1.out.grown n os) HR.out (by omega) (jp + 1) (by omega)).1.2.2
          obtain ⟨xP, hxP⟩ : ∃ xx, dj[jp]! = xx := ⟨_, rfl⟩
          have kP0 : ∀ n os, (grow (wr.drewN n) os).cell? ⟨blk, off + (jp) * 3, none⟩ = some (.int .i64 xP.tag) := fun n os => by rw [← hxP]; exact (swk_cells (S1.out.grown n os) HR.out (by omega) (jp) (by omega)).1.1
          have kP1 : ∀ n os, (grow (wr.drewN n) os).cell? ⟨blk, off + (jp) * 3 + 1, none⟩ = some (.int .i64 xP.vend) := fun n os => by rw [← hxP]; exact (swk_cells (S1.out.grown n os) HR.out (by omega) (jp) (by omega)).1.2.1
          have kP2 : ∀ n os, (grow (wr.drewN n) os).cell? ⟨blk, off + (jp) * 3 + 2, none⟩ = some (.bool xP.old) := fun n os => by rw [← hxP]; exact (swk_cells (S1.out.grown n os) HR.out (by omega) (jp) (by omega)).1.2.2
          obtain ⟨r, hr⟩ : ∃ r, cmpZ xJ.tag xP.tag = r := ⟨_, rfl⟩
          have HC : ∀ W, Calls Try.prog 92 #[.agg #[.int .i64 xJ.tag, .int .i64 xJ.vend, .bool xJ.old], .agg #[.int .i64 xP.tag, .int .i64 xP.vend, .bool xP.old]] W (fun e w' => e = .returned (.int .i64 r) ∧ ∃ q os', w' = grow (W.drewN q) os') := fun W => hr ▸ byTag_any xJ xP W
          have HX : Hid (dj[jp + 1]! = xJ ∧ dj[jp]! = xP ∧ cmpZ xJ.tag xP.tag = r) := ⟨hxJ, hxP, hr⟩
          clear hxJ hxP hr
          by_cases hlv : r < 0
          · go_wp2_with fail
            go_quiet_grown (first | (go_at_call 92; refine Calls.grown_of (HC _)))
            go_wp2_with fail
            have S3 : Aside (SWK En.enc 3 w0 blk off dj (grow (wr.drewN nq) osq)) := SWK.grown S1.out nq osq
            clear S1 kJ0 kJ1 kJ2 kP0 kP1 kP2
            generalize grow (wr.drewN nq) osq = wr3 at S3 ⊢
            have S2 : Aside (SWK En.enc 3 w0 blk off (swp dj (jp + 1) (jp)) ((wr3.drew.setCells blk (off + (jp + 1) * 3) (En.enc dj[jp]!)).setCells blk (off + (jp) * 3) (En.enc dj[jp + 1]!))) := S3.out.swapped HR.out (jp + 1) (jp) (by omega) (by omega)
            obtain ⟨⟨c0, c1, c2⟩, z0, z1, z2⟩ := swk_cells S3.out HR.out (by omega) (jp + 1) (by omega)
            obtain ⟨⟨e0, e1, e2⟩, y0, y1, y2⟩ := swk_cells S3.out HR.out (by omega) (jp) (by omega)
            clear S3
            generalize dj[jp + 1]! = xa at S2 c0 c1 c2
            generalize dj[jp]! = xb at S2 e0 e1 e2
            have n0 : off + (jp) * 3 ≠ off + (jp + 1) * 3 := by omega
            have n1 : off + (jp) * 3 ≠ off + (jp + 1) * 3 + 1 := by omega
            have n2 : off + (jp) * 3 ≠ off + (jp + 1) * 3 + 2 := by omega
            have n3 : off + (jp) * 3 + 1 ≠ off + (jp + 1) * 3 := by omega
            have n4 : off + (jp) * 3 + 1 ≠ off + (jp + 1) * 3 + 1 := by omega
            have n5 : off + (jp) * 3 + 1 ≠ off + (jp + 1) * 3 + 2 := by omega
            have n6 : off + (jp) * 3 + 2 ≠ off + (jp + 1) * 3 := by omega
            have n7 : off + (jp) * 3 + 2 ≠ off + (jp + 1) * 3 + 1 := by omega
            have n8 : off + (jp) * 3 + 2 ≠ off + (jp + 1) * 3 + 2 := by omega
            obtain ⟨A, hA⟩ : ∃ A, off + (jp + 1) * 3 = A := ⟨_, rfl⟩
            obtain ⟨B, hB⟩ : ∃ B, off + (jp) * 3 = B := ⟨_, rfl⟩
            rw [hA] at S2 c0 c1 c2 z0 z1 z2 n0 n1 n2 n3 n4 n5 n6 n7 n8
            rw [hB] at S2 e0 e1 e2 y0 y1 y2 n0 n1 n2 n3 n4 n5 n6 n7 n8
            rw [put_pair] at S2
            go_big_region
            all_goals go_wp2
            go_roundg jp
            case measure => omega
            case rel =>
              refine ⟨jp, swp dj (jp + 1) jp, by first | rfl | go_num | (congr 1; omega), by omega, by omega, Nat.le_refl _, by rw [size_swp]; exact hsj, S2, (show Hid _ from ?_)⟩
              show _ = _
              have := insInner_go (ltK En.tag) a (jp + 1) dj hja (by simp only [Nat.add_sub_cancel]; rw [HX.out.1, HX.out.2.1]; exact decide_eq_true ((cmpZ_lt _ _).1 (by rw [HX.out.2.2]; exact hlv)))
              simp only [Nat.add_sub_cancel] at this
              rw [← HI.out, this]
          · go_wp2_with fail
            go_quiet_grown (first | (go_at_call 92; refine Calls.grown_of (HC _)))
            go_wp2
            go_roundg (b - (i + 1))
            case measure => omega
            case rel => exact ⟨i + 1, dj, by go_num, by omega, by omega, by omega, hsj, SWK.grown S1.out nq osq, OUT.out (Or.inr (by simp only [Nat.add_sub_cancel]; rw [HX.out.1, HX.out.2.1]; exact decide_eq_false (fun hl => by have := (cmpZ_lt _ _).2 hl; rw [HX.out.2.2] at this; omega)))⟩
        · have hjaz : decide ((j : Int) > (a : Int)) = false := decide_eq_false (by omega)
          have hjaz' : ¬ (a : Int) < (j : Int) := by omega
          go_wp2_with fail
          go_big_region
          all_goals go_wp2
          go_roundg (b - (i + 1))
          case measure => omega
          case rel => exact ⟨i + 1, dj, by go_num, by omega, by omega, by omega, hsj, S1.out.drew, OUT.out (Or.inl (by omega))⟩
    · have hltz : ¬ (i : Int) < (b : Int) := by omega
      go_wp2
      go_end0
      refine ⟨rfl, dk, ?_, S1.out⟩
      have e : dk = insertionSort (ltK En.tag) d a b := by unfold Sort.insertionSort; rw [← HO.out, insOuter_stop _ _ _ _ _ hlt]
      rw [e]
      exact insertion_stb d hab hb
end Go.Proofs.Ytjmabidahofbbaa
