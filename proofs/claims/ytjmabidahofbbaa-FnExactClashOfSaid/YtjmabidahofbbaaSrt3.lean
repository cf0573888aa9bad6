/- A rotation, by the library's own text. -/
import Derived.Test.YtjmabidahofbbaaSrt0
namespace Go.Proofs.Ytjmabidahofbbaa
open Go.Shelf Go.RowKit Go.Lib Go.Sort
set_option linter.unusedVariables false
set_option maxHeartbeats 2000000 in
set_option maxRecDepth 100000 in
theorem rotate_any (blk off cap a m b : Nat) (d0 d : Array En) (w0 w : World) (hs : d0.size = d.size) (R : RowK En.enc 3 w0 blk off d0) (S : SWK En.enc 3 w0 blk off d w) (fv : Value) (ham : a < m) (hmb : m < b) (hb : b ≤ d.size) (hsz : d.size < 1152921504606846976) :
    Calls Try.prog 117 #[.slice (some ⟨blk, off, none⟩) d.size cap, .int .i64 a, .int .i64 m, .int .i64 b, fv] w fun e w' =>
      e = .returned (.tuple #[]) ∧ ∃ d', Rot a m b d d' ∧ SWK En.enc 3 w0 blk off d' w' := by
  have S0 : Aside _ := S
  have HR : Aside _ := R
  clear S R
  go_enter Try.func117, Try.ntmps117
  go_wp2
  go_loopg [10, 11] (b - a) (fun g1 vi vj wr => ∃ (i j : Nat) (dk : Array En), vi = .int .i64 i ∧ vj = .int .i64 j ∧ 0 < i ∧ 0 < j ∧ i ≤ m ∧ m + j ≤ d.size ∧ i + j ≤ g1 ∧ dk.size = d.size ∧ Aside (SWK En.enc 3 w0 blk off dk wr) ∧ Hid (∀ d', Rot (m - i) m (m + j) dk d' → Rot a m b d d'))
  case atStart =>
    refine ⟨m - a, b - m, d, by rw [show ((m - a : Nat) : Int) = (m : Int) - (a : Int) by omega], by rw [show ((b - m : Nat) : Int) = (b : Int) - (m : Int) by omega], by omega, by omega, by omega, by omega, by omega, rfl, S0, (show Hid _ from ?_)⟩
    show ∀ d', _
    intro d' h
    rw [show m - (m - a) = a by omega, show m + (b - m) = b by omega] at h
    exact h
  case round =>
    clear S0
    obtain ⟨i, j, dk, rfl, rfl, hi0, hj0, him, hmj, hg1, hds, S1, HK⟩ := hrel
    have ec1 : ((m - i : Nat) : Int) = (m : Int) - (i : Int) := by omega
    by_cases hij : i = j
    · subst hij
      have hcall := swapRange_any blk off cap (m - i) m i d0 dk w0 wr fv (by omega) HR.out S1.out (by omega) (by omega) (by omega)
      rw [ec1, hds] at hcall
      clear S1
      go_wp2_with (go_at_call 118; refine hcall.mono ?_; rintro e w1 ⟨rfl, d1, h1, S3⟩)
      go_end0
      exact ⟨rfl, d1, HK.out d1 (rot_last h1 him), S3⟩
    · have hne : ((i : Int) == (j : Int)) = false := by simp; omega
      have hne' : ((i : Int) != (j : Int)) = true := by simp; omega
      by_cases hgt : j < i
      · have hgz : (j : Int) < (i : Int) := by omega
        have hcall := swapRange_any blk off cap (m - i) m j d0 dk w0 wr fv (by omega) HR.out S1.out (by omega) (by omega) (by omega)
        rw [ec1, hds] at hcall
        clear S1
        go_wp2_with (go_at_call 118; refine hcall.mono ?_; rintro e w1 ⟨rfl, d1, h1, S3⟩)
        go_roundg (i - j + j)
        case measure => omega
        case rel => exact ⟨i - j, j, d1, by rw [show ((i - j : Nat) : Int) = (i : Int) - (j : Int) by omega], rfl, by omega, hj0, by omega, hmj, by omega, h1.1.trans hds, S3, (fun d' h => HK.out d' (rot_left h1 him hj0 hgt h) : ∀ d', Rot (m - (i - j)) m (m + j) d1 d' → Rot a m b d d')⟩
      · have hgz : ¬ (j : Int) < (i : Int) := by omega
        have ec2 : ((m + j - i : Nat) : Int) = (m : Int) + (j : Int) - (i : Int) := by omega
        have hcall := swapRange_any blk off cap (m - i) (m + j - i) i d0 dk w0 wr fv (by omega) HR.out S1.out (by omega) (by omega) (by omega)
        rw [ec1, ec2, hds] at hcall
        clear S1
        go_wp2_with (go_at_call 118; refine hcall.mono ?_; rintro e w1 ⟨rfl, d1, h1, S3⟩)
        go_roundg (i + (j - i))
        case measure => omega
        case rel => exact ⟨i, j - i, d1, rfl, by rw [show ((j - i : Nat) : Int) = (j : Int) - (i : Int) by omega], hi0, by omega, him, by omega, by omega, h1.1.trans hds, S3, (fun d' h => HK.out d' (rot_right h1 him hi0 (by omega) h) : ∀ d', Rot (m - i) m (m + (j - i)) d1 d' → Rot a m b d d')⟩
end Go.Proofs.Ytjmabidahofbbaa
