/- The library's stable sort at entries, by its own text: ascending by tag; entries of one tag in their order. -/
import Derived.Test.YtjmabidahofbbaaSrt2
import Derived.Test.YtjmabidahofbbaaSrt4
import Derived.Test.YtjmabidahofbbaaSrt5
import Derived.Test.YtjmabidahofbbaaSrt6
import Derived.Test.YtjmabidahofbbaaSrt7
namespace Go.Proofs.Ytjmabidahofbbaa
open Go.Shelf Go.RowKit Go.Lib Go.Sort
set_option linter.unusedVariables false
theorem symMerge_any (blk off cap : Nat) (d0 : Array En) (w0 : World) (R : RowK En.enc 3 w0 blk off d0) : ∀ (N a m b : Nat) (d : Array En) (w : World), b - a ≤ N → d0.size = d.size → SWK En.enc 3 w0 blk off d w → a < m → m < b → b ≤ d.size → d.size < 1152921504606846976 → Up En.tag a m d → Up En.tag m b d →
    Calls Try.prog 116 #[.slice (some ⟨blk, off, none⟩) d.size cap, .int .i64 a, .int .i64 m, .int .i64 b, .func (.func 92) #[] #[]] w fun e w' =>
      e = .returned (.tuple #[]) ∧ ∃ d', (Stb En.tag a b d d' ∧ Up En.tag a b d') ∧ SWK En.enc 3 w0 blk off d' w'
  | 0, a, m, b, d, w, hN, _, _, h1, h2, _, _, _, _ => by omega
  | N + 1, a, m, b, d, w, hN, hs, S, h1, h2, hb, hsz, ul, ur => by
    by_cases e1 : m = a + 1
    · subst e1
      have := mergeA blk off cap a b d0 d w0 w hs R S h2 hb ur hsz
      rw [show (a : Int) + 1 = ((a + 1 : Nat) : Int) by omega] at this
      exact this
    · by_cases e2 : b = m + 1
      · subst e2
        have := mergeB blk off cap a m d0 d w0 w hs R S (by omega) hb ul hsz
        rw [show (m : Int) + 1 = ((m + 1 : Nat) : Int) by omega] at this
        exact this
      · have IH : ∀ (x y z : Nat) (dx : Array En) (wx : World), z - x < b - a → d0.size = dx.size → SWK En.enc 3 w0 blk off dx wx → x < y → y < z → z ≤ dx.size → Up En.tag x y dx → Up En.tag y z dx → _ :=
          fun x y z dx wx hz hx Sx q1 q2 q3 u1 u2 => symMerge_any blk off cap d0 w0 R N x y z dx wx (by omega) hx Sx q1 q2 q3 (by omega) u1 u2
        by_cases e3 : (a + b) / 2 < m
        · exact mergeC blk off cap a m b _ d0 d w0 w hs R S (by omega) (by omega) hb rfl e3 ul ur IH hsz
        · exact mergeD blk off cap a m b _ d0 d w0 w hs R S (by omega) (by omega) hb rfl (by omega) ul ur IH hsz
set_option maxHeartbeats 4000000 in
set_option maxRecDepth 100000 in
theorem stable_any (blk off cap : Nat) (d0 d : Array En) (w0 w : World) (hs : d0.size = d.size) (R : RowK En.enc 3 w0 blk off d0) (S : SWK En.enc 3 w0 blk off d w) (hsz : d.size < 1152921504606846976) :
    Calls Try.prog 109 #[.slice (some ⟨blk, off, none⟩) d.size cap, .int .i64 d.size, .func (.func 92) #[] #[]] w fun e w' =>
      e = .returned (.tuple #[]) ∧ ∃ d', (Stb En.tag 0 d.size d d' ∧ Up En.tag 0 d.size d') ∧ SWK En.enc 3 w0 blk off d' w' := by
  have S0 : Aside _ := S
  have HR : Aside _ := R
  clear S R
  have mixed : Try.prog.follows .mixedOrders = true := by rfl
  go_enter Try.func109, Try.ntmps109
  go_wp2
  go_loopg [7, 8] d.size (fun g1 va vb wr => ∃ (a : Nat) (dk : Array En), va = .int .i64 a ∧ vb = .int .i64 ((a : Int) + 20) ∧ a ≤ d.size ∧ d.size - a ≤ g1 ∧ Hid (dk.size = d.size) ∧ Aside (SWK En.enc 3 w0 blk off dk wr) ∧ Hid (Stb En.tag 0 d.size d dk ∧ Ahead En.tag 20 d.size dk a))
  case atStart => exact ⟨0, d, rfl, by first | rfl | go_num, Nat.zero_le _, by omega, (rfl : d.size = d.size), S0, (⟨Stb.refl, Ahead.start⟩ : Stb En.tag 0 d.size d d ∧ Ahead En.tag 20 d.size d 0)⟩
  case round =>
    clear S0
    obtain ⟨a, dk, rfl, rfl, han, hg1, HDS, S1, HS⟩ := hrel
    have hds := HDS.out
    by_cases hlt : a + 20 ≤ d.size
    · have hltz : (a : Int) + 20 ≤ (d.size : Int) := by omega
      have hcall := insertion_any blk off cap a (a + 20) d0 dk w0 wr (by omega) HR.out S1.out (by omega) (by omega) (by omega)
      rw [hds, show ((a + 20 : Nat) : Int) = (a : Int) + 20 by omega] at hcall
      clear S1 hds
      go_wp2_with (go_at_call 115; refine hcall.mono ?_; rintro e w1 ⟨rfl, d1, ⟨st, up⟩, S3⟩)
      go_roundg (d.size - (a + 20))
      case measure => omega
      case rel =>
        have ST := HS.out.1
        exact ⟨a + 20, d1, by go_num, by go_num, hlt, Nat.le_refl _, st.1.trans HDS.out, S3, (⟨ST.trans (st.mono (Nat.zero_le _) (by omega) hlt), HS.out.2.step st up hlt (by omega)⟩ : Stb En.tag 0 d.size d d1 ∧ Ahead En.tag 20 d.size d1 (a + 20))⟩
    · have hltz : ¬ (a : Int) + 20 ≤ (d.size : Int) := by omega
      have hcall := insertion_any blk off cap a d.size d0 dk w0 wr (by omega) HR.out S1.out han (by omega) (by omega)
      rw [hds] at hcall
      clear S1 hds
      go_wp2_with fail
      go_at_call 115
      refine hcall.mono ?_
      rintro e w1 ⟨rfl, d1, ⟨st, up⟩, S3⟩
      have S3 : Aside (SWK En.enc 3 w0 blk off d1 w1) := S3
      have HT : Hid (Stb En.tag 0 d.size d d1 ∧ Runs En.tag 20 d.size d1 0) := ⟨HS.out.1.trans (st.mono (Nat.zero_le _) han (Nat.le_refl _)), HS.out.2.finish st up (by omega)⟩
      have HD1 : Hid (d1.size = d.size) := st.1.trans HDS.out
      clear hcall st up HS HDS
      go_wp2
      go_loopg [6, 7, 8, 9] d.size (fun g2 vs va vb vm wr => ∃ (s : Nat) (dk : Array En), vs = .int .i64 s ∧ 0 < s ∧ (s : Int) < 2305843009213693952 ∧ d.size - s ≤ g2 ∧ Hid (dk.size = d.size) ∧ Aside (SWK En.enc 3 w0 blk off dk wr) ∧ Hid (Stb En.tag 0 d.size d dk ∧ Runs En.tag s d.size dk 0))
      case atStart => exact ⟨20, d1, by first | rfl | go_num, by omega, by omega, by omega, HD1, S3, HT⟩
      case round =>
        clear S3 HT HD1 hg1 hltz hlt han
        obtain ⟨s, dk, rfl, hs0, hsm, hg2, HDS, S1, HS⟩ := hrel
        by_cases hlt : s < d.size
        · have hltz : (s : Int) < (d.size : Int) := by omega
          go_wp2
          go_loopg [7, 8] d.size (fun g3 va vb wr => ∃ (a : Nat) (dj : Array En), va = .int .i64 a ∧ vb = .int .i64 ((a : Int) + 2 * (s : Int)) ∧ a ≤ d.size ∧ d.size - a ≤ g3 ∧ Hid (dj.size = d.size) ∧ Aside (SWK En.enc 3 w0 blk off dj wr) ∧ Hid (Stb En.tag 0 d.size d dj ∧ Ahead En.tag (2 * s) d.size dj a ∧ Runs En.tag s d.size dj a))
          case atStart => exact ⟨0, dk, rfl, by first | rfl | go_num, Nat.zero_le _, by omega, HDS, S1, (⟨HS.out.1, Ahead.start, HS.out.2⟩ : Stb En.tag 0 d.size d dk ∧ Ahead En.tag (2 * s) d.size dk 0 ∧ Runs En.tag s d.size dk 0)⟩
          case round =>
            clear S1 HS HDS
            obtain ⟨a, dj, rfl, rfl, han, hg3, HDS, S1, HS⟩ := hrel
            have hds := HDS.out
            by_cases hab : a + 2 * s ≤ d.size
            · have habz : (a : Int) + 2 * (s : Int) ≤ (d.size : Int) := by omega
              have hf := HS.out.2.2.first (by omega)
              have hcall := symMerge_any blk off cap d0 w0 HR.out (2 * s) a (a + s) (a + 2 * s) dj wr (by omega) (by omega) S1.out (by omega) (by omega) (by omega) (by omega) hf.1 (hf.2.upto (by omega) hab)
              rw [hds, show ((a + 2 * s : Nat) : Int) = (a : Int) + 2 * (s : Int) by omega, show ((a + s : Nat) : Int) = (a : Int) + (s : Int) by omega] at hcall
              clear S1 hds hf
              go_wp2_with (go_at_call 116; refine hcall.mono ?_; rintro e w1 ⟨rfl, d1, ⟨st, up⟩, S3⟩)
              go_roundg (d.size - (a + 2 * s))
              case measure => omega
              case rel =>
                have hr : Runs En.tag s d.size dj (a + 2 * s) := by
                  by_cases e : a + s + s < d.size
                  · have := ((HS.out.2.2.first (by omega)).2.first e).2
                    rw [show a + s + s = a + 2 * s by omega] at this
                    exact this
                  · exact .last _ (by omega) (Up.short (by omega))
                exact ⟨a + 2 * s, d1, by first | rfl | go_num, by first | rfl | go_num, hab, Nat.le_refl _, st.1.trans HDS.out, S3, (⟨HS.out.1.trans (st.mono (Nat.zero_le _) (by omega) hab), HS.out.2.1.step st up hab (by omega), hr.congr fun i hi => st.2.1 i (Or.inr hi)⟩ : Stb En.tag 0 d.size d d1 ∧ Ahead En.tag (2 * s) d.size d1 (a + 2 * s) ∧ Runs En.tag s d.size d1 (a + 2 * s))⟩
            · have habz : ¬ (a : Int) + 2 * (s : Int) ≤ (d.size : Int) := by omega
              by_cases hm : a + s < d.size
              · have hmz : (a : Int) + (s : Int) < (d.size : Int) := by omega
                have hf := HS.out.2.2.first hm
                have hcall := symMerge_any blk off cap d0 w0 HR.out d.size a (a + s) d.size dj wr (by omega) (by omega) S1.out (by omega) hm (by omega) (by omega) hf.1 (hf.2.final (by omega))
                rw [hds, show ((a + s : Nat) : Int) = (a : Int) + (s : Int) by omega] at hcall
                clear S1 hds hf
                go_wp2_with (go_at_call 116; refine hcall.mono ?_; rintro e w1 ⟨rfl, d1, ⟨st, up⟩, S3⟩)
                go_roundg (d.size - 2 * s)
                case measure => omega
                case rel =>
                  exact ⟨2 * s, d1, by first | rfl | go_num | (congr 1; omega), by omega, by omega, by omega, st.1.trans HDS.out, S3, (⟨HS.out.1.trans (st.mono (Nat.zero_le _) han (Nat.le_refl _)), HS.out.2.1.finish st up (by omega)⟩ : Stb En.tag 0 d.size d d1 ∧ Runs En.tag (2 * s) d.size d1 0)⟩
              · have hmz : ¬ (a : Int) + (s : Int) < (d.size : Int) := by omega
                clear hds
                go_wp2
                go_roundg (d.size - 2 * s)
                case measure => omega
                case rel =>
                  exact ⟨2 * s, dj, by first | rfl | go_num | (congr 1; omega), by omega, by omega, by omega, HDS, S1, (⟨HS.out.1, HS.out.2.1.finish Stb.refl (HS.out.2.2.final (by omega)) (by omega)⟩ : Stb En.tag 0 d.size d dj ∧ Runs En.tag (2 * s) d.size dj 0)⟩
        · have hltz : ¬ (s : Int) < (d.size : Int) := by omega
          go_wp2
          go_end0
          exact ⟨rfl, dk, ⟨HS.out.1, HS.out.2.final (by omega)⟩, S1.out⟩
set_option maxHeartbeats 1000000 in
set_option maxRecDepth 100000 in
theorem sortStable_any (blk off cap : Nat) (d0 d : Array En) (w0 w : World) (hs : d0.size = d.size) (R : RowK En.enc 3 w0 blk off d0) (S : SWK En.enc 3 w0 blk off d w) (hsz : d.size < 1152921504606846976) :
    Calls Try.prog 91 #[.slice (some ⟨blk, off, none⟩) d.size cap, .func (.func 92) #[] #[]] w fun e w' =>
      e = .returned (.tuple #[]) ∧ ∃ d', (Stb En.tag 0 d.size d d' ∧ Up En.tag 0 d.size d') ∧ SWK En.enc 3 w0 blk off d' w' := by
  have hcall := stable_any blk off cap d0 d w0 w hs R S hsz
  clear R S
  go_enter Try.func91, Try.ntmps91
  go_wp2_with (go_at_call 109; refine hcall.mono ?_; rintro e w1 ⟨rfl, d1, hst, S3⟩)
  go_end0
  exact ⟨rfl, d1, hst, S3⟩
end Go.Proofs.Ytjmabidahofbbaa
