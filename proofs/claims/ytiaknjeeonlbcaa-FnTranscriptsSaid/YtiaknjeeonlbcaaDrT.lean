/- The draws of transcripts: lists of lists of integers. -/
import Derived.Test.YtiaknjeeonlbcaaDr
import Derived.Test.YtiaknjeeonlbcaaLlT
import Derived.Test.YtiaknjeeonlbcaaHash2
namespace Go.Proofs.Ytiaknjeeonlbcaa
open Go.ChangeShapes Go.WideShapes Go.ChangeAt Go.RowKit
set_option linter.unusedVariables false
set_option linter.unusedSimpArgs false

theorem row_below {w w' : World} {B s S n c m : Nat} {t : TypeId} {a : Option Addr} {xs : List Value} (h : w.ownsRow B t s (.slice a n c) m xs) (hS : ∀ ad, a = some ad → ad.block < S) (hb : Below S w w') : w'.ownsRow B t s (.slice a n c) m xs := by
  refine ⟨h.1, ?_⟩
  rcases h.2 with q | ⟨g, cap, cur, e, h1, h2, h3⟩
  · exact .inl q
  · injection e with e1 e2 e3
    subst e1
    subst e2 e3
    exact .inr ⟨g, _, cur, rfl, h1, (hb.block g (hS _ rfl)).trans h2, h3⟩
/-- Whatever is written from S on leaves a list of lists below S. -/
theorem OwnL.below {S : Nat} {w w' : World} {B n c : Nat} {a : Option Addr} {l : List (List Int)} (h : OwnL S w B a n c l) (hb : Below S w w') : OwnL S w' B a n c l := by
  obtain ⟨hs, h1, h2, h3, h4⟩ := h
  exact ⟨hs, ⟨h1.1, row_below h1.2 h3 hb⟩, ⟨h2.1, fun j g x q1 q2 => ⟨⟨(h2.2.1 j g x q1 q2).1.1, row_below (h2.2.1 j g x q1 q2).1.2 (fun ad e => ((h2.2.1 j g x q1 q2).2 ad e).1) hb⟩, (h2.2.1 j g x q1 q2).2⟩, h2.2.2⟩, h3, Nat.le_trans h4 hb.size⟩
theorem OwnL.only {S b : Nat} {w w' : World} {B n c : Nat} {a : Option Addr} {l : List (List Int)} (h : OwnL S w B a n c l) (ho : Only b w w') (hb : b < B) : OwnL S w' B a n c l := h.far (only_grown ho) fun r e => by cases e; exact Or.inl hb
/-- All lists are short. -/
def Short (l : List (List Int)) : Prop := ∀ y ∈ l, y.length ≤ 100
theorem Short.nil : Short [] := fun y h => by cases h
theorem Short.snoc {l : List (List Int)} {y : List Int} (h : Short l) (hy : y.length ≤ 100) : Short (l ++ [y]) := fun x hx => by
  rcases List.mem_append.1 hx with q | q
  · exact h x q
  · rw [List.mem_singleton.1 q]; exact hy
def DrewT (k : Nat) (b : Nat) (a : Option Addr) (n c : Nat) (w : World) (e : Ending) (w' : World) : Prop :=
  ∃ (q : Option Addr) (m d : Nat) (l : List (List Int)), e = .returned (.slice q m d) ∧ OwnL w'.heap.size w' w.heap.size q m d l ∧ m ≤ k ∧ Short l ∧ Drawn b a n c w w'
set_option maxHeartbeats 4000000 in
set_option maxRecDepth 100000 in
theorem l16Draw_any (b : Nat) (a : Option Addr) (n c : Nat) (w : World) (hc : Curs w b a n c) :
    Calls Try.prog 45 #[.pointer (some ⟨b, 0, none⟩)] w (DrewT 4 b a n c w) := by
  have HC := Lib.hid hc
  have hblt := hc.lt
  clear hc
  obtain ⟨i0, hi, hz0, hz1, hz2⟩ := info_parts infoIntS
  have HI := Lib.hid (And.intro hi (And.intro hz0 (And.intro hz1 hz2)))
  clear hi hz0 hz1 hz2
  obtain ⟨i1, hi, hz0, hz1, hz2⟩ := info_parts infoRowS
  have HJ := Lib.hid (And.intro hi (And.intro hz0 (And.intro hz1 hz2)))
  clear hi hz0 hz1 hz2
  unfold DrewT
  have HO1 : Hid (OwnL (w.heap.size + 1) (w.alloc (.cells #[] 29)) w.heap.size (some ⟨w.heap.size, 0, none⟩) 0 0 []) := Lib.hid (OwnL.empty (Nat.le_refl _))
  have HC1 : Hid (Drawn b a n c w (w.alloc (.cells #[] 29))) := Lib.hid ((Drawn.refl HC.out).same (alloc_same _ _))
  go_enter Try.func45, Try.ntmps45
  go_wp2_with fail
  refine (below_any b a n c 5 (by omega) (by omega) _ HC1.out.1).mono ?_
  rintro e w1 ⟨x, hx0, hx1, rfl, hd1⟩
  obtain ⟨r0, rfl⟩ : ∃ r : Nat, x = r := ⟨x.toNat, by omega⟩
  have HO2 := Lib.hid ((HO1.out.only hd1.2 hblt).upper (by have := hd1.2.size; simpa using this) (Nat.le_refl _))
  have HD2 := Lib.hid (HC1.out.trans hd1)
  clear hd1 HO1 HC1
  go_wp2_with fail
  go_loopw [3, 4] (fun s i wr => ∃ (r : Nat) (q : Option Addr) (m d : Nat) (l : List (List Int)), s = .slice q m d ∧ i = .int .i64 r ∧ m + r ≤ 4 ∧ OwnL wr.heap.size wr w.heap.size q m d l ∧ Hid (Short l) ∧ Drawn b a n c w wr) (fun _ i _ => (intOf i).toNat)
  case atStart => exact ⟨r0, _, 0, 0, [], rfl, rfl, by omega, HO2.out, Lib.hid Short.nil, HD2.out⟩
  case round =>
    clear HO2 HD2
    obtain ⟨r, q, m, d, l, rfl, rfl, hr, ho, HS, hd⟩ := hrel
    have HO := Lib.hid ho
    have HD := Lib.hid hd
    have hsr := hd.2.size
    clear ho hd
    by_cases h0 : 0 < r
    · have h0I : (0 : Int) < (r : Int) := by omega
      obtain ⟨S0, hS0, hSe⟩ : ∃ S0, w.heap.size ≤ S0 ∧ S0 = wr.heap.size := ⟨wr.heap.size, hsr, rfl⟩
      have HOE : Hid (OwnL S0 (wr.alloc (.cells #[] 3)) w.heap.size q m d l) := Lib.hid (by rw [hSe]; exact HO.out.same (alloc_same _ _))
      have HN : Hid (Own .i64 3 (wr.alloc (.cells #[] 3)) S0 (some ⟨wr.heap.size, 0, none⟩) 0 0 []) := Lib.hid (Own.empty (by omega))
      have HDE : Hid (Drawn b a n c w (wr.alloc (.cells #[] 3))) := Lib.hid (HD.out.same (alloc_same _ _))
      clear hSe
      go_wp2_with fail
      refine (below_any b a n c 4 (by omega) (by omega) _ HDE.out.1).mono ?_
      rintro e w3 ⟨y, hy0, hy1, rfl, hd3⟩
      obtain ⟨s0, rfl⟩ : ∃ s : Nat, y = s := ⟨y.toNat, by omega⟩
      have HO3 := Lib.hid (HOE.out.only hd3.2 hblt)
      have HN3 := Lib.hid (HN.out.only hd3.2 HN.out.span (Or.inl (by omega)))
      have HD3 := Lib.hid (HDE.out.trans hd3)
      clear hd3 HOE HN HDE
      go_wp2_with fail
      go_loopw [5, 6] (fun v i w4 => ∃ (s : Nat) (p : Option Addr) (k e : Nat) (y : List Int), v = .slice p k e ∧ i = .int .i64 s ∧ k + s ≤ 3 ∧ Own .i64 3 w4 S0 p k e y ∧ OwnL S0 w4 w.heap.size q m d l ∧ Drawn b a n c w w4 ∧ S0 ≤ w4.heap.size) (fun _ i _ => (intOf i).toNat)
      case atStart => exact ⟨s0, _, 0, 0, [], rfl, rfl, by omega, HN3.out, HO3.out, HD3.out, HO3.out.top⟩
      case round =>
        clear HN3 HO3 HD3
        obtain ⟨s, p, k, e, y, rfl, rfl, hs, hn, ho, hd, hw⟩ := hrel
        have HN := Lib.hid hn
        have HO4 := Lib.hid ho
        have HD4 := Lib.hid hd
        clear hn ho hd
        by_cases hs0 : 0 < s
        · have hsI : (0 : Int) < (s : Int) := by omega
          go_wp2_with fail
          refine (below_any b a n c 256 (by omega) (by omega) _ HD4.out.1).mono ?_
          rintro e w5 ⟨z, hz0, hz1, rfl, hd5⟩
          have hs5 := hd5.2.size
          have HN5 : Hid (Own .i64 3 (w5.alloc (.cells #[.int .i64 z] 3)) S0 p k e y) := Lib.hid ((HN.out.only hd5.2 HN.out.span (Or.inl (by omega))).alloc _)
          have HO5 : Hid (OwnL S0 (w5.alloc (.cells #[.int .i64 z] 3)) w.heap.size q m d l) := Lib.hid ((HO4.out.only hd5.2 hblt).same (alloc_same _ _))
          have HD5 : Hid (Drawn b a n c w (w5.alloc (.cells #[.int .i64 z] 3))) := Lib.hid ((HD4.out.trans hd5).same (alloc_same _ _))
          clear hd5
          go_wp2_with (at_builtin; refine wpl_app _ rfl (.tmp 21) (.tmp 24) 29 rfl .i64 3 i0 (.int .i64 0) 8 Try.underlying29 HI.out.1 HI.out.2.1 HI.out.2.2.1 HI.out.2.2.2 rfl rfl HN5.out rfl (nums_new _ _ _ _) (by omega) ?c3 ?c4 ?_)
          case c3 => omega
          case c4 => simp; omega
          intro a6 c6 w6 ho6 hb6
          have hs6 := hb6.size
          have HN6 := Lib.hid ho6
          have HO6 := Lib.hid (HO5.out.below hb6)
          have HD6 := Lib.hid (HD5.out.under HC.out (hb6.mono hS0) (Nat.le_refl _))
          clear ho6 hb6
          go_wp2_with fail
          go_roundw
          case rel => exact ⟨s - 1, a6, k + 1, c6, _, rfl, by go_num, by omega, HN6.out, HO6.out, HD6.out, by simp at hs6; omega⟩
          case measure => simp [intOf]; omega
        · obtain rfl : s = 0 := by omega
          have hyl := HN.out.len
          have HNA : Hid (Own .i64 3 (wr.alloc (.cells #[.slice p k e] 29)) w.heap.size p k e y) := Lib.hid ((HN.out.lower hS0).alloc _)
          have HOA : Hid (OwnL S0 (wr.alloc (.cells #[.slice p k e] 29)) w.heap.size q m d l) := Lib.hid (HO4.out.same (alloc_same _ _))
          have HDA : Hid (Drawn b a n c w (wr.alloc (.cells #[.slice p k e] 29))) := Lib.hid (HD4.out.same (alloc_same _ _))
          have HX : Hid (Items Rh.enc 1 (wr.alloc (.cells #[.slice p k e] 29)) (some ⟨wr.heap.size, 0, none⟩) 1 [⟨p, k, e⟩]) := Lib.hid (items_new Rh.enc_len wr ⟨p, k, e⟩ 29)
          go_wp2_with (at_builtin; refine wpl_appL _ rfl (.tmp 26) (.tmp 28) 24 rfl 29 rfl i1 (.slice none 0 0) 24 Try.underlying24 HJ.out.1 HJ.out.2.1 HJ.out.2.2.1 HJ.out.2.2.2 rfl rfl HOA.out rfl HX.out HNA.out (fun ad e => (HN.out.span ad e).1) (by omega) (by omega) (by simp; omega) ?_)
          intro a6 c6 w6 ho6 hb6 hg6
          have HO6 := Lib.hid ho6
          have HD6 := Lib.hid (HDA.out.under HC.out hb6 (Nat.le_refl _))
          have HS6 := Lib.hid (HS.out.snoc (y := y) (by omega))
          clear ho6 hb6 hg6
          go_wp2_with fail
          go_roundw
          case rel => exact ⟨r - 1, a6, m + 1, c6, _, rfl, by go_num, by omega, HO6.out, HS6, HD6.out⟩
          case measure => simp [intOf]; omega
    · obtain rfl : r = 0 := by omega
      go_wp2_with fail
      go_ret
      exact ⟨q, m, d, l, rfl, HO.out, by omega, HS.out, HD.out⟩
end Go.Proofs.Ytiaknjeeonlbcaa
