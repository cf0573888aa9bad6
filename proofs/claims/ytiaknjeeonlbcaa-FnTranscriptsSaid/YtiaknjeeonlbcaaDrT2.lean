/- The draws of transcripts: any list of lists, and what FinishOf is asked. -/
import Derived.Test.YtiaknjeeonlbcaaDrT
namespace Go.Proofs.Ytiaknjeeonlbcaa
open Go.ChangeShapes Go.WideShapes Go.ChangeAt Go.RowKit
set_option linter.unusedVariables false
set_option linter.unusedSimpArgs false

/-- How long a slice is. -/
def cutLen : Value → Nat
  | .slice _ n _ => n
  | _ => 0
set_option maxHeartbeats 4000000 in
set_option maxRecDepth 100000 in
theorem l16Any_any (b : Nat) (a : Option Addr) (n c : Nat) (w : World) (hc : Curs w b a n c) :
    Calls Try.prog 25 #[.pointer (some ⟨b, 0, none⟩)] w (DrewT 13 b a n c w) := by
  have HC := Lib.hid hc
  have hblt := hc.lt
  clear hc
  obtain ⟨i1, hi, hz0, hz1, hz2⟩ := info_parts infoRowS
  have HJ := Lib.hid (And.intro hi (And.intro hz0 (And.intro hz1 hz2)))
  clear hi hz0 hz1 hz2
  unfold DrewT
  go_enter Try.func25, Try.ntmps25
  go_wp2_with fail
  refine (l16Draw_any b a n c w HC.out).mono ?_
  rintro e w1 ⟨q, m, d, l, rfl, ho, hm, hs, hd⟩
  have HO1 := Lib.hid ho
  have HS := Lib.hid hs
  have HD1 := Lib.hid hd
  clear ho hs hd
  go_wp2_with fail
  refine (below_any b a n c 9 (by omega) (by omega) _ HD1.out.1).mono ?_
  rintro e w3 ⟨s, hs0, hs1, rfl, hd3⟩
  have HO3 := Lib.hid ((HO1.out.only hd3.2 hblt).upper hd3.2.size (Nat.le_refl _))
  have HD3 := Lib.hid (HD1.out.trans hd3)
  have hsz3 := HD3.out.2.size
  clear hd3 HO1 HD1
  by_cases e0 : s = 0
  · subst e0
    go_wp2_with fail
    refine (pickNew b a n c [-1, 255, 256] 3 (by omega) (by omega) rfl rfl w3 HD3.out.1).mono ?_
    rintro e w4 ⟨z, hz4, rfl, hd4⟩
    have hs4 := hd4.2.size
    have HO4 := Lib.hid (HO3.out.only hd4.2 hblt)
    have HD4 := Lib.hid (HD3.out.trans hd4)
    have HOA : Hid (OwnL w3.heap.size ((w4.alloc (.cells #[.int .i64 z] 3)).alloc (.cells #[.slice (some ⟨w4.heap.size, 0, none⟩) 1 1] 29)) w.heap.size q m d l) := Lib.hid ((HO4.out.same (alloc_same _ _)).same (alloc_same _ _))
    have HDA : Hid (Drawn b a n c w ((w4.alloc (.cells #[.int .i64 z] 3)).alloc (.cells #[.slice (some ⟨w4.heap.size, 0, none⟩) 1 1] 29))) := Lib.hid ((HD4.out.same (alloc_same _ _)).same (alloc_same _ _))
    have HNA : Hid (Own .i64 3 ((w4.alloc (.cells #[.int .i64 z] 3)).alloc (.cells #[.slice (some ⟨w4.heap.size, 0, none⟩) 1 1] 29)) w.heap.size (some ⟨w4.heap.size, 0, none⟩) 1 1 [z]) := Lib.hid ((own_one w4 z w.heap.size (by omega)).alloc _)
    have HX : Hid (Items Rh.enc 1 ((w4.alloc (.cells #[.int .i64 z] 3)).alloc (.cells #[.slice (some ⟨w4.heap.size, 0, none⟩) 1 1] 29)) (some ⟨w4.heap.size + 1, 0, none⟩) 1 [⟨some ⟨w4.heap.size, 0, none⟩, 1, 1⟩]) := Lib.hid (by
      have h := items_new Rh.enc_len (w4.alloc (.cells #[.int .i64 z] 3)) ⟨some ⟨w4.heap.size, 0, none⟩, 1, 1⟩ 29
      rw [World.size_alloc] at h
      exact h)
    clear hd4 hz4
    go_wp2_with (at_builtin; refine wpl_appL _ rfl (.tmp 10) (.tmp 15) 24 rfl 29 rfl i1 (.slice none 0 0) 24 Try.underlying24 HJ.out.1 HJ.out.2.1 HJ.out.2.2.1 HJ.out.2.2.2 rfl rfl HOA.out rfl HX.out HNA.out (fun ad e => by cases e; exact hs4) (by omega) (by omega) (by simp; omega) ?_)
    intro a6 c6 w6 ho6 hb6 hg6
    have HO6 := Lib.hid ho6
    have HD6 := Lib.hid (HDA.out.under HC.out hb6 (Nat.le_refl _))
    have HS6 := Lib.hid (HS.out.snoc (y := [z]) (by simp))
    clear ho6 hb6 hg6
    go_wp2_with fail
    go_ret
    exact ⟨a6, m + 1, c6, _, rfl, HO6.out, by omega, HS6.out, HD6.out⟩
  · have h0b : (s == 0) = false := by simpa using e0
    by_cases e1 : s = 1
    · subst e1
      go_wp2_with fail
      go_loopw [3] (fun v wr => ∃ (q : Option Addr) (m d : Nat) (l : List (List Int)), v = .slice q m d ∧ m ≤ 13 ∧ OwnL wr.heap.size wr w.heap.size q m d l ∧ Hid (Short l) ∧ Drawn b a n c w wr) (fun v _ => 13 - cutLen v)
      case atStart => exact ⟨q, m, d, l, rfl, by omega, HO3.out, HS, HD3.out⟩
      case round =>
        clear HO3 HS HD3 hsz3
        obtain ⟨q, m, d, l, rfl, hm, ho, HS, hd⟩ := hrel
        have HO := Lib.hid ho
        have HD := Lib.hid hd
        have hsr := hd.2.size
        clear ho hd
        by_cases h13 : m < 13
        · have h13I : (m : Int) < 13 := by omega
          have HOA : Hid (OwnL wr.heap.size ((wr.alloc (.cells #[.int .i64 1] 3)).alloc (.cells #[.slice (some ⟨wr.heap.size, 0, none⟩) 1 1] 29)) w.heap.size q m d l) := Lib.hid ((HO.out.same (alloc_same _ _)).same (alloc_same _ _))
          have HDA : Hid (Drawn b a n c w ((wr.alloc (.cells #[.int .i64 1] 3)).alloc (.cells #[.slice (some ⟨wr.heap.size, 0, none⟩) 1 1] 29))) := Lib.hid ((HD.out.same (alloc_same _ _)).same (alloc_same _ _))
          have HNA : Hid (Own .i64 3 ((wr.alloc (.cells #[.int .i64 1] 3)).alloc (.cells #[.slice (some ⟨wr.heap.size, 0, none⟩) 1 1] 29)) w.heap.size (some ⟨wr.heap.size, 0, none⟩) 1 1 [1]) := Lib.hid ((own_one wr 1 w.heap.size hsr).alloc _)
          have HX : Hid (Items Rh.enc 1 ((wr.alloc (.cells #[.int .i64 1] 3)).alloc (.cells #[.slice (some ⟨wr.heap.size, 0, none⟩) 1 1] 29)) (some ⟨wr.heap.size + 1, 0, none⟩) 1 [⟨some ⟨wr.heap.size, 0, none⟩, 1, 1⟩]) := Lib.hid (by
            have h := items_new Rh.enc_len (wr.alloc (.cells #[.int .i64 1] 3)) ⟨some ⟨wr.heap.size, 0, none⟩, 1, 1⟩ 29
            rw [World.size_alloc] at h
            exact h)
          go_wp2_with (at_builtin; refine wpl_appL _ rfl (.tmp 22) (.tmp 24) 24 rfl 29 rfl i1 (.slice none 0 0) 24 Try.underlying24 HJ.out.1 HJ.out.2.1 HJ.out.2.2.1 HJ.out.2.2.2 rfl rfl HOA.out rfl HX.out HNA.out (fun ad e => by cases e; exact Nat.le_refl _) (by omega) (by omega) (by simp; omega) ?_)
          intro a6 c6 w6 ho6 hb6 hg6
          have HO6 := Lib.hid ho6
          have HD6 := Lib.hid (HDA.out.under HC.out hb6 (Nat.le_refl _))
          have HS6 := Lib.hid (HS.out.snoc (y := [1]) (by simp))
          clear ho6 hb6 hg6
          go_wp2_with fail
          go_roundw
          case rel => exact ⟨a6, m + 1, c6, _, rfl, by omega, HO6.out, HS6, HD6.out⟩
          case measure => simp [cutLen]; omega
        · have h13I : ¬ (m : Int) < 13 := by omega
          go_wp2_with fail
          go_ret
          first | exact ⟨q, m, d, l, rfl, HO.out, by omega, HS.out, HD.out⟩ | exact ⟨q, m, d, rfl, l, HO.out, by omega, HS.out, HD.out⟩
    · have h1b : (s == 1) = false := by simpa using e1
      go_wp2_with fail
      go_ret
      exact ⟨q, m, d, l, rfl, HO3.out, by omega, HS.out, HD3.out⟩
/-- What FinishOf is asked. -/
def DrawnFin (w : World) (e : Ending) (w' : World) : Prop :=
  ∃ (k : Int) (q : Option Addr) (m d : Nat) (l : List (List Int)) (s : Int), e = .returned (.tuple #[.int .i64 k, .slice q m d, .int .i64 s]) ∧ -1 ≤ k ∧ k ≤ 77 ∧ -1 ≤ s ∧ s ≤ 2 ∧ m ≤ 13 ∧ OwnL w'.heap.size w' w.heap.size q m d l ∧ Short l ∧ Below w.heap.size w w'
set_option maxHeartbeats 4000000 in
set_option maxRecDepth 100000 in
theorem drawFinishOf_any (a : Option Addr) (n c : Nat) (w : World) (hC : Code w a n) : Calls Try.prog 10 #[.slice a n c] w (DrawnFin w) := by
  have HC := Lib.hid hC
  clear hC
  go_enter Try.func10, Try.ntmps10
  go_wp2_with fail
  refine (new_any a n c HC.out.2 w HC.out.1).mono ?_
  rintro e w1 ⟨rfl, hcu, hb1⟩
  have HCU := Lib.hid hcu
  have HB1 := Lib.hid hb1
  have hs1 := hb1.size
  have hlt := hcu.lt
  clear hcu hb1
  go_wp2_with fail
  refine (l16Any_any w.heap.size a n c w1 HCU.out).mono ?_
  rintro e w2 ⟨q, m, d, l, rfl, ho, hm, hv, hd2⟩
  have HO2 := Lib.hid ho
  have HV := Lib.hid hv
  have HD2 := Lib.hid hd2
  clear ho hv hd2
  go_wp2_with fail
  refine (pickNew w.heap.size a n c [5, 77, 0, -1] 4 (by omega) (by omega) rfl rfl w2 HD2.out.1).mono ?_
  rintro e w3 ⟨k, hk, rfl, hd3⟩
  have hkb : -1 ≤ k ∧ k ≤ 77 := by
    simp only [List.mem_cons, List.not_mem_nil, or_false] at hk
    omega
  have HO3 := Lib.hid ((HO2.out.only hd3.2 hlt).upper hd3.2.size (Nat.le_refl _))
  have HD3 := Lib.hid (HD2.out.trans hd3)
  clear hd3 hk HO2 HD2
  go_wp2_with fail
  refine (pickNew w.heap.size a n c [0, 1, 1, 2, -1] 5 (by omega) (by omega) rfl rfl w3 HD3.out.1).mono ?_
  rintro e w4 ⟨s, hs, rfl, hd4⟩
  have hsb : -1 ≤ s ∧ s ≤ 2 := by
    simp only [List.mem_cons, List.not_mem_nil, or_false] at hs
    omega
  have HO4 := Lib.hid (((HO3.out.only hd4.2 hlt).upper hd4.2.size (Nat.le_refl _)).lower hs1)
  have HB4 := Lib.hid (HB1.out.trans ((HD3.out.trans hd4).below (Nat.le_refl _) hs1))
  clear hd4 hs HO3 HD3
  go_wp2_with fail
  go_ret3
  exact ⟨k, q, m, d, l, s, rfl, hkb.1, hkb.2, hsb.1, hsb.2, hm, HO4.out, HV.out, HB4.out⟩
end Go.Proofs.Ytiaknjeeonlbcaa
