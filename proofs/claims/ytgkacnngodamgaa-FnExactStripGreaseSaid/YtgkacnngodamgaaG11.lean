/- A list of extensions is written: by the model. What chapter 9's law draws: a list of extensions, a list of integers to decode, a list of extensions with a list of tags. The parts of an extension, and an extension, read off the cursor: by the program. Extensions read off the cursor, one behind the other, and a list of integers decoded: by the program. A list of integers copied, by the program. -/
import Derived.Test.YtgkacnngodamgaaG10
import Derived.Deep.RegionHeld3
import Derived.Test.YtgkacnngodamgaaG7
import Derived.Test.YtgkacnngodamgaaG8
import Derived.Test.YtgkacnngodamgaaG9
import Derived.Test.YtgkacnngodamgaaG2
import Derived.Test.YtgkacnngodamgaaG1
import Derived.Test.YtgkacnngodamgaaG6
import Derived.RegionTactic
namespace Go.Proofs.Ytgkacnngodamgaa
open Go.ChangeShapes Go.WideShapes Go.ChangeAt Go.RowKit
set_option linter.unusedVariables false
set_option linter.unusedSimpArgs false

theorem nums_pair (w : World) (x z : Int) (t : TypeId) : Nums .i64 (w.alloc (.cells #[.int .i64 x, .int .i64 z] t)) (some ⟨w.heap.size, 0, none⟩) 2 [x, z] :=
  ⟨rfl, by omega, fun j hj => by
    have h0 := heap_alloc_new w (.cells #[.int .i64 x, .int .i64 z] t)
    refine ⟨_, rfl, ?_⟩
    rw [addr_zero, block_cell h0]
    rcases (show j = 0 ∨ j = 1 by omega) with rfl | rfl <;> rfl⟩
theorem own_oneE (w : World) (x : Int) (t : TypeId) : Own .i64 t (w.alloc (.cells #[.int .i64 x] t)) w.heap.size (some ⟨w.heap.size, 0, none⟩) 1 1 [x] :=
  ⟨rfl, World.ownsRow_lit w #[.int .i64 x] 1 (Nat.le_refl _) (by unfold maxLen; omega) rfl⟩
set_option maxHeartbeats 4000000 in
set_option maxRecDepth 100000 in
theorem specEncodeExts_any {a : Option Addr} {n c : Nat} {l : List Vl} {w : World} (h : Vals w a n l) :
    Calls Try.prog 49 #[.slice a n c] w (EncXT 3 l w) := by
  have H := Lib.hid h
  have hln := Lib.hid h.len
  have hfit := h.fits
  obtain ⟨i0, hi, hz0, hz1, hz2⟩ := info_parts infoIntS
  have HI := Lib.hid (And.intro hi (And.intro hz0 (And.intro hz1 hz2)))
  clear hi hz0 hz1 hz2 h
  have HA := Lib.hid (specAreExts_any (c := c) H.out)
  unfold EncXT
  cases har : areX l with
  | false =>
    rw [har] at HA
    rw [encW_no har]
    clear har
    go_enter Try.func49, Try.ntmps49
    go_wp2_with fail
    refine HA.out.mono ?_
    rintro e w1 ⟨rfl, rfl⟩
    go_wp2_with fail
    go_ret2
    exact ⟨_, _, _, rfl, Own.empty (Nat.le_refl _), alloc_same _ _⟩
  | true =>
    rw [har] at HA
    rw [encW_yes har]
    obtain ⟨hn6, hit⟩ := areX_few har
    rw [hln.out] at hn6
    clear har
    have HO2 : Hid (Own .i64 3 (w.alloc (.cells #[.int .i64 (n : Int)] 3)) w.heap.size (some ⟨w.heap.size, 0, none⟩) 1 1 ((n : Int) :: codesX (l.take 0))) := Lib.hid (own_oneE w n 3)
    go_enter Try.func49, Try.ntmps49
    go_wp2_with fail
    refine HA.out.mono ?_
    rintro e w1 ⟨rfl, rfl⟩
    go_wp2_with fail
    go_loopw [4, 5] (fun v i wr => ∃ (j : Nat) (q : Option Addr) (r e : Nat), j ≤ n ∧ i = .int .i64 j ∧ v = .slice q r e ∧ Own .i64 3 wr w.heap.size q r e ((n : Int) :: codesX (l.take j)) ∧ Below w.heap.size w wr) (fun _ i _ => n - (intOf i).toNat)
    case atStart => exact ⟨0, _, _, _, Nat.zero_le _, rfl, rfl, HO2.out, alloc_same _ _⟩
    case round =>
      obtain ⟨j, q, r, e, hj, rfl, rfl, hown, hb⟩ := hrel
      have HOr := Lib.hid hown
      have HBr := Lib.hid hb
      clear hown hb
      by_cases hlt : j < n
      · obtain ⟨bb, o, p, pm, pd, k, y, rfl, hx, hd0, hd1, hN, hr⟩ := H.out.at_ hlt
        have hsz := HBr.out.size
        have hym := hN.len
        have hyi := itemsOf_mem hx
        dsimp only at hyi
        have hpm : pm ≤ 24 := by omega
        have hrl : r ≤ 37 := by
          have h1 := HOr.out.len
          have h2 := itemsOf_le l j
          rw [List.length_cons, codesX_len, List.length_take] at h1
          omega
        have HX : Hid ((n : Int) :: codesX (l.take (j + 1)) = (n : Int) :: (codesX (l.take j) ++ k :: (pm : Int) :: y)) := Lib.hid (by rw [codesX_take hx]; simp [codeX, hym])
        have HSK : Hid (∀ w9, Below w.heap.size w w9 → w9.cell? ⟨bb, o + j * 2, none⟩ = some (.int .i64 k) ∧ w9.cell? ⟨bb, o + j * 2 + 1, none⟩ = some (.slice p pm pd)) := Lib.hid (fun w9 h9 => ⟨cell_stay hd0 h9, cell_stay hd1 h9⟩)
        obtain ⟨hc0, hc1⟩ := HSK.out wr HBr.out
        have HN := Lib.hid (fun w9 (h9 : Below w.heap.size w w9) => hN.same h9)
        clear hx hN hym hyi hd0 hd1
        have HBd : Hid (Below w.heap.size w wr.drew) := Lib.hid HBr.out.drew
        have HQ : Hid (Below wr.heap.size wr (wr.alloc (.cells #[.int .i64 k, .int .i64 (pm : Int)] 3)).drew) := Lib.hid (alloc_same _ _).drew
        have HOQ : Hid (Own .i64 3 (wr.alloc (.cells #[.int .i64 k, .int .i64 (pm : Int)] 3)).drew w.heap.size q r e ((n : Int) :: codesX (l.take j))) := Lib.hid (HOr.out.same HQ.out)
        have HNQ : Hid (Nums .i64 (wr.alloc (.cells #[.int .i64 k, .int .i64 (pm : Int)] 3)).drew (some ⟨wr.heap.size, 0, none⟩) 2 [k, (pm : Int)]) := Lib.hid ((nums_pair _ _ _ _).same (Below.refl _ _).drew)
        have HBQ : Hid (Below w.heap.size w (wr.alloc (.cells #[.int .i64 k, .int .i64 (pm : Int)] 3)).drew) := Lib.hid (HBr.out.trans (HQ.out.mono hsz))
        have hsQ : w.heap.size ≤ (wr.alloc (.cells #[.int .i64 k, .int .i64 (pm : Int)] 3)).drew.heap.size := HBQ.out.size
        go_wp2_with fail
        go_region_held3 (fun w9 => w9.cell? ⟨bb, o + j * 2, none⟩ = some (.int .i64 k) ∧ w9.cell? ⟨bb, o + j * 2 + 1, none⟩ = some (.slice p pm pd)) (first | exact HSK.out _ HBd.out | exact HSK.out _ HBQ.out | exact HSK.out _ HB3.out) ((first | (refine step_app_g _ (by rfl) (.tmp 19) (.tmp 31) 26 (by rfl) .i64 3 i0 (.int .i64 0) 8 Try.underlying26 HI.out.1 HI.out.2.1 HI.out.2.2.1 HI.out.2.2.2 rfl (by rfl) HOQ.out (by rfl) HNQ.out (by omega) (by omega) hsQ ?_; intro a3 c3 w3 ho3 hg3 hl3; have HO3 := Lib.hid ho3; have HB3 : Hid (Below w.heap.size w w3) := Lib.hid (grown_to hg3 HBQ.out HOQ.out.span (Nat.le_refl _) hsQ); have hs3 : w.heap.size ≤ w3.heap.size := HB3.out.size; obtain ⟨he0, he1⟩ := HSK.out w3 HB3.out; clear ho3 hg3 hl3)))
        go_wp2_with (at_builtin; refine wpl_app _ rfl (.tmp 33) (.tmp 38) 26 rfl .i64 3 i0 (.int .i64 0) 8 Try.underlying26 HI.out.1 HI.out.2.1 HI.out.2.2.1 HI.out.2.2.2 rfl rfl HO3.out rfl (HN.out _ HB3.out) (by omega) ?c1 ?c2 ?_)
        case c1 => omega
        case c2 => exact hs3
        intro a4 c4 w4 ho4 hb4
        have HO4 := Lib.hid ho4
        have HB4 : Hid (Below w.heap.size w w4) := Lib.hid (HB3.out.trans hb4)
        clear ho4 hb4
        go_wp2_with fail
        go_roundw
        case rel => exact ⟨j + 1, a4, _, c4, by omega, by go_num, rfl, by rw [HX.out]; exact HO4.out, HB4.out⟩
        case measure => simp [intOf]; omega
      · obtain rfl : j = n := by omega
        go_wp2_with fail
        go_ret2
        have h1 := HOr.out
        rw [List.take_of_length_le (by rw [hln.out]; omega)] at h1
        refine ⟨_, _, _, rfl, h1.take_len ?_, HBr.out⟩
        unfold encX
        rw [hln.out]
end Go.Proofs.Ytgkacnngodamgaa
namespace Go.Proofs.Ytgkacnngodamgaa
open Go.ChangeShapes Go.WideShapes Go.ChangeAt Go.RowKit
set_option linter.unusedVariables false
set_option linter.unusedSimpArgs false

/-- A list of extensions that is drawn off a code. -/
def DrawnX (w : World) (e : Ending) (w' : World) : Prop :=
  ∃ (ao : Option Addr) (m co : Nat) (v : List Vl), e = .returned (.slice ao m co) ∧ OwnV 57 3 w' w.heap.size ao m co v ∧ m ≤ 6 ∧ Vok 5 v ∧ Below w.heap.size w w'
set_option maxRecDepth 100000 in
theorem drawAreExts_any (a : Option Addr) (n c : Nat) (w : World) (hC : Code w a n) :
    Calls Try.prog 41 #[.slice a n c] w (DrawnX w) := by
  have HC := Lib.hid hC
  clear hC
  go_enter Try.func41, Try.ntmps41
  go_wp2_with fail
  refine (new_any a n c HC.out.2 w HC.out.1).mono ?_
  rintro e w1 ⟨rfl, hcu, hb1⟩
  have HCU := Lib.hid hcu
  have HB1 := Lib.hid hb1
  have hs1 := hb1.size
  clear hcu hb1
  go_wp2_with fail
  refine (anyE_any w.heap.size a n c w1 HCU.out).mono ?_
  rintro e w2 ⟨ao, m, co, v, rfl, ho, hm, hv, hd⟩
  have HO := Lib.hid (ho.lower hs1)
  have HB2 := Lib.hid (HB1.out.trans (hd.below (Nat.le_refl _) hs1))
  have HV := Lib.hid hv
  clear ho hv hd
  go_wp2_with fail
  go_ret
  exact ⟨_, _, _, v, rfl, HO.out, hm, HV.out, HB2.out⟩
set_option maxRecDepth 100000 in
theorem drawEncodeExts_any (a : Option Addr) (n c : Nat) (w : World) (hC : Code w a n) :
    Calls Try.prog 9 #[.slice a n c] w (DrawnX w) := by
  have K := Lib.hid (drawAreExts_any a n c w hC)
  clear hC
  unfold DrawnX at K ⊢
  go_enter Try.func9, Try.ntmps9
  go_wp2_with fail
  refine K.out.mono ?_
  rintro e w2 ⟨ao, m, co, v, rfl, ho, hm, hv, hb⟩
  have HO := Lib.hid ho
  have HB := Lib.hid hb
  have HV := Lib.hid hv
  clear ho hv hb
  go_wp2_with fail
  go_ret
  exact ⟨_, _, _, v, rfl, HO.out, hm, HV.out, HB.out⟩
set_option maxHeartbeats 4000000 in
set_option maxRecDepth 100000 in
theorem drawDecodeExts_any (a : Option Addr) (n c : Nat) (w : World) (hC : Code w a n) :
    Calls Try.prog 14 #[.slice a n c] w fun e w' => ∃ (q : Option Addr) (m d : Nat) (y : List Int), e = .returned (.slice q m d) ∧ Own .i64 3 w' w.heap.size q m d y ∧ m ≤ 40 ∧ Below w.heap.size w w' := by
  have HC := Lib.hid hC
  clear hC
  obtain ⟨i0, hi, hz0, hz1, hz2⟩ := info_parts infoIntS
  have HI := Lib.hid (And.intro hi (And.intro hz0 (And.intro hz1 hz2)))
  clear hi hz0 hz1 hz2
  go_enter Try.func14, Try.ntmps14
  go_wp2_with fail
  refine (new_any a n c HC.out.2 w HC.out.1).mono ?_
  rintro e w1 ⟨rfl, hcu, hb1⟩
  have HCU := Lib.hid hcu
  have HB1 := Lib.hid hb1
  have hs1 := hb1.size
  have hb := hcu.lt
  obtain ⟨b, hbe⟩ : ∃ b, b = w.heap.size := ⟨_, rfl⟩
  have HBE := Lib.hid hbe
  rw [← hbe] at HCU hb ⊢
  clear hcu hb1 hbe
  have hfin : Hid (∀ w9, Drawn b a n c w1 w9 → Below w.heap.size w w9) := Lib.hid (fun w9 h9 => HB1.out.trans (h9.below (by rw [HBE.out]; exact Nat.le_refl _) hs1))
  go_wp2_with fail
  refine (drawE_any b a n c w1 HCU.out).mono ?_
  rintro e w2 ⟨ao, m, co, v, rfl, ho, hm, hv, hd2⟩
  have ha : areX v = true := hv.are (by rw [ho.len]; omega)
  have HEV := Lib.hid ho.vals
  have HD2 := Lib.hid hd2
  have hs2 := hd2.2.size
  have KE := Lib.hid (specEncodeExts_any (c := co) ho.vals)
  unfold EncXT at KE
  have hew := encW_yes ha
  rw [ha, hew] at KE
  have hfew := encX_few ha
  have hpos : 1 ≤ (encX v).length := by simp [encX]
  obtain ⟨y, hy⟩ : ∃ y, y = encX v := ⟨_, rfl⟩
  rw [← hy] at KE hfew hpos
  clear ho hv hd2 ha hew hy
  go_wp2_with fail
  refine KE.out.mono ?_
  rintro e w3 ⟨a2, n2, c2, rfl, ho3, hb3⟩
  have hn2 : n2 = y.length := ho3.len.symm
  have hn2a : n2 ≤ 37 := by omega
  have hn0 : 0 < n2 := by omega
  have HO3 := Lib.hid (ho3.lower hs2)
  have HD3 := Lib.hid (HD2.out.same hb3)
  clear ho3 hb3 hn2 KE hfew hpos
  go_wp2_with fail
  refine (below_any b a n c 7 (by omega) (by omega) _ HD3.out.1).mono ?_
  rintro e w4 ⟨x, hx0, hx1, rfl, hd4⟩
  have HO4 := Lib.hid (HO3.out.only hd4.2 HO3.out.span (Or.inl hb))
  have HD4 := Lib.hid (HD3.out.trans hd4)
  have hs4 := HD4.out.2.size
  have hrm := HO4.out.room
  clear hd4
  by_cases q0 : x = 0
  · have b0 : (x == 0) = true := by simpa using q0
    clear q0
    go_wp2_with fail
    refine (below_any b a n c 3 (by omega) (by omega) _ HD4.out.1).mono ?_
    rintro e w5 ⟨z, hz0, hz1, rfl, hd5⟩
    have HO5 := Lib.hid (HO4.out.only hd5.2 HO4.out.span (Or.inl hb))
    have HD5 := Lib.hid (HD4.out.trans hd5)
    have hs5 := HD5.out.2.size
    clear hd5
    go_wp2_with (at_builtin; refine wpl_app _ rfl (.tmp 18) (.tmp 21) 26 rfl .i64 3 i0 (.int .i64 0) 8 Try.underlying26 HI.out.1 HI.out.2.1 HI.out.2.2.1 HI.out.2.2.2 rfl rfl (HO5.out.alloc _) rfl (nums_new _ _ _ _) (by omega) ?c1 ?c2 ?_)
    case c1 => omega
    case c2 => simp; omega
    intro a6 c6 w6 ho6 hb6
    have HO6 := Lib.hid ho6
    have HB6 : Hid (Below w.heap.size w w6) := Lib.hid (hfin.out _ (HD5.out.under HCU.out (((alloc_same _ _).mono hs5).trans hb6) (Nat.le_refl _)))
    clear ho6 hb6
    go_wp2_with fail
    go_ret
    exact ⟨_, _, _, _, rfl, HO6.out.lower hs1, by omega, HB6.out⟩
  have b0 : (x == 0) = false := by simpa using q0
  by_cases q1 : x = 1
  · have b1 : (x == 1) = true := by simpa using q1
    clear q0 q1
    have hni : (0 : Int) < (n2 : Int) := by omega
    obtain ⟨g, rfl, hg0, hg1⟩ := HO4.out.head hn0
    have HO5 := Lib.hid (HO4.out.cut (m := n2 - 1) (by omega) hn0)
    go_wp2_with fail
    go_ret
    exact ⟨_, n2 - 1, _, _, rfl, HO5.out.lower hs1, by omega, hfin.out _ HD4.out⟩
  have b1 : (x == 1) = false := by simpa using q1
  by_cases q2 : x = 2
  · have b2 : (x == 2) = true := by simpa using q2
    clear q0 q1 q2
    have hni : (0 : Int) < (n2 : Int) := by omega
    obtain ⟨g, rfl, hg0, hg1⟩ := HO4.out.head hn0
    go_wp2_with fail
    refine (below_any b a n c (n2 : Int) (by omega) (by omega) _ HD4.out.1).mono ?_
    rintro e w5 ⟨z, hz0, hz1, rfl, hd5⟩
    obtain ⟨k, rfl⟩ : ∃ k : Nat, z = k := ⟨z.toNat, by omega⟩
    have HO5 := Lib.hid (HO4.out.only hd5.2 HO4.out.span (Or.inl hb))
    have HD5 := Lib.hid (HD4.out.trans hd5)
    clear hd5
    go_wp2_with fail
    refine (pickNew b a n c [0, 1, 2, 7, 255, 256, -1, 9223372036854775807] 8 (by omega) (by omega) rfl rfl w5 HD5.out.1).mono ?_
    rintro e w6 ⟨z, hz, rfl, hd6⟩
    have HO6 := Lib.hid (HO5.out.only hd6.2 HO5.out.span (Or.inl hb))
    have HD6 := Lib.hid (HD5.out.trans hd6)
    have hf := HO6.out.2.frozenAt k
    obtain ⟨u, hu⟩ : ∃ u, w6.cell? ⟨g, k, none⟩ = some u := by
      rw [HO6.out.2.cellAt k (by omega)]
      exact ⟨_, List.getElem?_eq_getElem (by rw [HO6.out.2.1]; omega)⟩
    have hst := HO6.out.2.stored k (.int .i64 z)
    rw [← List.map_set] at hst
    have HO7 : Hid (Own .i64 3 (w6.setCell ⟨g, k, none⟩ (.int .i64 z)) w1.heap.size (some ⟨g, 0, none⟩) n2 c2 (y.set k z)) := Lib.hid ⟨by rw [List.length_set]; exact HO6.out.1, hst.1⟩
    have HB7 := Lib.hid (hfin.out _ (HD6.out.1.far hst.2 (by omega) HCU.out HD6.out hg0))
    clear hst hd6 hz
    go_wp2_with fail
    go_ret
    exact ⟨_, _, _, _, rfl, HO7.out.lower hs1, by omega, HB7.out⟩
  have b2 : (x == 2) = false := by simpa using q2
  clear q0 q1 q2
  go_wp2_with fail
  go_ret
  exact ⟨_, _, _, _, rfl, HO4.out.lower hs1, by omega, hfin.out _ HD4.out⟩
set_option maxHeartbeats 4000000 in
set_option maxRecDepth 100000 in
theorem drawKnownOf_any (a : Option Addr) (n c : Nat) (w : World) (hC : Code w a n) :
    Calls Try.prog 16 #[.slice a n c] w fun e w' => ∃ (ao : Option Addr) (m co : Nat) (v : List Vl) (q : Option Addr) (tn td : Nat) (y : List Int), e = .returned (.tuple #[.slice ao m co, .slice q tn td]) ∧
      OwnV 57 3 w' w.heap.size ao m co v ∧ m ≤ 6 ∧ Vok 5 v ∧ Own .i64 3 w' w.heap.size q tn td y ∧ tn ≤ 3 ∧ (∀ z ∈ y, I64 z) ∧ Below w.heap.size w w' := by
  have HC := Lib.hid hC
  clear hC
  obtain ⟨i0, hi, hz0, hz1, hz2⟩ := info_parts infoIntS
  have HI := Lib.hid (And.intro hi (And.intro hz0 (And.intro hz1 hz2)))
  clear hi hz0 hz1 hz2
  go_enter Try.func16, Try.ntmps16
  go_wp2_with fail
  refine (new_any a n c HC.out.2 w HC.out.1).mono ?_
  rintro e w1 ⟨rfl, hcu, hb1⟩
  have HCU := Lib.hid hcu
  have HB1 := Lib.hid hb1
  have hs1 := hb1.size
  have hb := hcu.lt
  obtain ⟨b, hbe⟩ : ∃ b, b = w.heap.size := ⟨_, rfl⟩
  have HBE := Lib.hid hbe
  rw [← hbe] at HCU hb ⊢
  clear hcu hb1 hbe
  have hfin : Hid (∀ w9, Drawn b a n c w1 w9 → Below w.heap.size w w9) := Lib.hid (fun w9 h9 => HB1.out.trans (h9.below (by rw [HBE.out]; exact Nat.le_refl _) hs1))
  go_wp2_with fail
  refine (anyE_any b a n c w1 HCU.out).mono ?_
  rintro e w2 ⟨ao, m, co, v, rfl, ho, hm, hv, hd2⟩
  have HV := Lib.hid hv
  have HL2 := Lib.hid (ho.lim.same (alloc_same w2 (.cells #[] 3)))
  have HD2 := Lib.hid (hd2.same (alloc_same w2 (.cells #[] 3)))
  have hs2 := hd2.2.size
  have HT2 : Hid (Own .i64 3 (w2.alloc (.cells #[] 3)) w2.heap.size (some ⟨w2.heap.size, 0, none⟩) 0 0 []) := Lib.hid (Own.empty (Nat.le_refl _))
  have hb2 : b < w2.heap.size := by omega
  clear ho hv hd2
  go_wp2_with fail
  refine (below_any b a n c 4 (by omega) (by omega) _ HD2.out.1).mono ?_
  rintro e w3 ⟨x, hx0, hx1, rfl, hd3⟩
  obtain ⟨q0, rfl⟩ : ∃ q0 : Nat, x = q0 := ⟨x.toNat, by omega⟩
  have HL3 := Lib.hid (HL2.out.only hd3.2 hb)
  have HT3 := Lib.hid (HT2.out.only hd3.2 HT2.out.span (Or.inl hb2))
  have HD3 := Lib.hid (HD2.out.trans hd3)
  have hs3 : w2.heap.size ≤ w3.heap.size := by have := hd3.2.size; simp at this; omega
  clear hd3
  go_wp2_with fail
  go_loopw [6, 7] (fun s i wr => ∃ (r : Nat) (q : Option Addr) (tn td : Nat) (y : List Int), s = .slice q tn td ∧ i = .int .i64 r ∧ tn + r ≤ 3 ∧ (∀ z ∈ y, I64 z) ∧ Own .i64 3 wr w2.heap.size q tn td y ∧ OwnVB w2.heap.size 57 3 wr w1.heap.size ao m co v ∧ w2.heap.size ≤ wr.heap.size ∧ Drawn b a n c w1 wr) (fun _ i _ => (intOf i).toNat)
  case atStart => exact ⟨q0, _, _, _, [], rfl, rfl, by omega, (fun z hz => by cases hz), HT3.out, HL3.out, hs3, HD3.out⟩
  case round =>
    obtain ⟨r, q, tn, td, y, rfl, rfl, hr, hy, ht, hl, hsr, hd⟩ := hrel
    have HT := Lib.hid ht
    have HL := Lib.hid hl
    have HD := Lib.hid hd
    have HY := Lib.hid hy
    clear ht hl hd hy
    by_cases hr0 : 0 < r
    · have hri : (0 : Int) < (r : Int) := by omega
      go_wp2_with fail
      refine (pickNew b a n c [1, 2, 3, 10, 200] 5 (by omega) (by omega) rfl rfl wr HD.out.1).mono ?_
      rintro e w4 ⟨z, hz, rfl, hd4⟩
      have hzi : I64 z := list_i64 (l := [1, 2, 3, 10, 200]) (by decide) hz
      have HT4 := Lib.hid (HT.out.only hd4.2 HT.out.span (Or.inl hb2))
      have HL4 := Lib.hid (HL.out.only hd4.2 hb)
      have HD4 := Lib.hid (HD.out.trans hd4)
      have hsp := HT4.out.span
      have hrow : ∀ rr, Value.ownBlock (.slice q tn td) = some rr → w2.heap.size ≤ rr := fun rr e => by
        cases q with
        | none => simp [Value.ownBlock] at e
        | some ad =>
          have := (hsp ad rfl).1
          simp only [Value.ownBlock, Option.some.injEq] at e
          omega
      have HROW := Lib.hid hrow
      have hs4 : w2.heap.size ≤ (w4.alloc (.cells #[.int .i64 z] 3)).heap.size := by have := hd4.2.size; simp at this ⊢; omega
      clear hd4 hz hsp hrow
      go_wp2_with (at_builtin; refine wpl_app_g _ rfl (.tmp 19) (.tmp 23) 26 rfl .i64 3 i0 (.int .i64 0) 8 Try.underlying26 HI.out.1 HI.out.2.1 HI.out.2.2.1 HI.out.2.2.2 rfl rfl (HT4.out.alloc _) rfl (nums_new _ _ _ _) (by omega) ?c1 ?c2 ?_)
      case c1 => omega
      case c2 => exact hs4
      intro a5 c5 w5 ho5 hg5
      have HT5 := Lib.hid ho5
      have hs5 : w2.heap.size ≤ w5.heap.size := Nat.le_trans hs4 hg5.size
      have HL5 := Lib.hid ((HL4.out.same (alloc_same w4 (.cells #[.int .i64 z] 3))).far hg5 (fun rr e => Or.inr (HROW.out rr e)))
      have HD5 : Hid (Drawn b a n c w1 w5) := Lib.hid ((HD4.out.same (alloc_same w4 (.cells #[.int .i64 z] 3))).row HCU.out hg5 (fun rr e => Nat.le_trans hs2 (HROW.out rr e)))
      have HY5 : Hid (∀ u ∈ y ++ [z], I64 u) := Lib.hid (fun u hu => by
        rcases List.mem_append.1 hu with e | e
        · exact HY.out u e
        · rw [List.mem_singleton.1 e]; exact hzi)
      clear ho5 hg5
      go_wp2_with fail
      go_roundw
      case rel => exact ⟨r - 1, a5, _, c5, _, rfl, by go_num, by omega, HY5.out, HT5.out, HL5.out, hs5, HD5.out⟩
      case measure => simp [intOf]; omega
    · obtain rfl : r = 0 := by omega
      go_wp2_with fail
      go_ret2
      exact ⟨_, _, _, v, _, _, _, y, rfl, HL.out.ownV.lower hs1, hm, HV.out, HT.out.lower (Nat.le_trans hs1 hs2), by omega, HY.out, hfin.out _ HD.out⟩
end Go.Proofs.Ytgkacnngodamgaa
namespace Go.Proofs.Ytgkacnngodamgaa
open Go.ChangeShapes Go.WideShapes Go.ChangeAt Go.RowKit
set_option linter.unusedVariables false
set_option linter.unusedSimpArgs false

/-- What is left by a part that is not read, by a number that is, by a body that is. -/
def PtNo (g : Nat) (w : World) (e : Ending) (w' : World) : Prop := e = .returned .nilIface ∧ w.grownBy w' (some g)
def PtNum (g : Nat) (b : Option Addr) (m d : Nat) (z : Int) (k' : Nat) (w : World) (e : Ending) (w' : World) : Prop :=
  e = .returned (.iface 3 (.int .i64 z)) ∧ Cur w' g b m d k' ∧ w.grownBy w' (some g)
def PtRow (g : Nat) (b : Option Addr) (m d : Nat) (it : List Int) (k' : Nat) (w : World) (e : Ending) (w' : World) : Prop :=
  ∃ p q r, e = .returned (.iface 26 (.slice p q r)) ∧ Own .i64 3 w' w.heap.size p q r it ∧ Cur w' g b m d k' ∧ w.grownBy w' (some g)
theorem rf_none {x : Fd} {y : List Int} {g : Nat} {b : Option Addr} {m d k : Nat} {w : World} (h : rdF x y k = none)
    (hc : Calls Try.prog 98 #[.pointer (some ⟨g, 0, none⟩), x.val] w (RfTold 3 g b m d x y k w)) :
    Calls Try.prog 98 #[.pointer (some ⟨g, 0, none⟩), x.val] w (Rdn g w) := by
  unfold RfTold at hc
  rw [h] at hc
  exact hc
theorem rf_some {x : Fd} {y : List Int} {g : Nat} {b : Option Addr} {m d k k' : Nat} {v : Vl} {w : World} (h : rdF x y k = some (v, k'))
    (hc : Calls Try.prog 98 #[.pointer (some ⟨g, 0, none⟩), x.val] w (RfTold 3 g b m d x y k w)) :
    Calls Try.prog 98 #[.pointer (some ⟨g, 0, none⟩), x.val] w (fun e w' => ∃ p q r, e = .returned (.tuple #[.agg #[.int .i64 v.num, .slice p q r], .bool true]) ∧ Own .i64 3 w' w.heap.size p q r v.items ∧ Cur w' g b m d k' ∧ w.grownBy w' (some g)) := by
  unfold RfTold at hc
  rw [h] at hc
  exact hc
set_option maxHeartbeats 2000000 in
set_option maxRecDepth 100000 in
theorem readPart_no {x : Fd} {ch : Int} {y : List Int} {g : Nat} {b : Option Addr} {m d k : Nat} {w : World} (hp : ∀ w0, Calls Try.prog 79 #[.int .i32 ch] w0 (Told x.val w0)) (hz : rdF x y k = none)
    (hr : ∀ w0, Below w.heap.size w w0 → Calls Try.prog 98 #[.pointer (some ⟨g, 0, none⟩), x.val] w0 (RfTold 3 g b m d x y k w0)) :
    Calls Try.prog 81 #[.pointer (some ⟨g, 0, none⟩), .int .i32 ch] w (PtNo g w) := by
  have KP := Lib.hid (hp w)
  have KR := Lib.hid (fun w0 (hb : Below w.heap.size w w0) => rf_none hz (hr w0 hb))
  clear hp hr hz
  unfold Rdn at KR
  go_enter Try.func81, Try.ntmps81
  go_wp2_with fail
  refine KP.out.mono ?_
  rintro e w1 ⟨rfl, hb1⟩
  have HB1 := Lib.hid hb1
  clear hb1
  go_wp2_with fail
  refine (KR.out w1 HB1.out).mono ?_
  rintro e w2 ⟨rfl, hg2⟩
  have HG2 := Lib.hid ((grown_below HB1.out (some g)).trans hg2)
  clear hg2
  go_wp2_with fail
  go_ret
  exact ⟨rfl, HG2.out.trans (grown_below (alloc_same _ _) _)⟩
set_option maxHeartbeats 2000000 in
set_option maxRecDepth 100000 in
theorem readPart_num {x : Fd} {ch : Int} {y : List Int} {g : Nat} {b : Option Addr} {m d k k' : Nat} {v : Vl} {w : World} (hch : (ch == 98) = false) (hp : ∀ w0, Calls Try.prog 79 #[.int .i32 ch] w0 (Told x.val w0)) (hz : rdF x y k = some (v, k'))
    (hr : ∀ w0, Below w.heap.size w w0 → Calls Try.prog 98 #[.pointer (some ⟨g, 0, none⟩), x.val] w0 (RfTold 3 g b m d x y k w0)) :
    Calls Try.prog 81 #[.pointer (some ⟨g, 0, none⟩), .int .i32 ch] w (PtNum g b m d v.num k' w) := by
  have KP := Lib.hid (hp w)
  have KR := Lib.hid (fun w0 (hb : Below w.heap.size w w0) => rf_some hz (hr w0 hb))
  clear hp hr hz
  go_enter Try.func81, Try.ntmps81
  go_wp2_with fail
  refine KP.out.mono ?_
  rintro e w1 ⟨rfl, hb1⟩
  have HB1 := Lib.hid hb1
  clear hb1
  go_wp2_with fail
  refine (KR.out w1 HB1.out).mono ?_
  rintro e w2 ⟨p, q, r, rfl, ho2, hc2, hg2⟩
  have HG2 := Lib.hid ((grown_below HB1.out (some g)).trans hg2)
  have HC2 := Lib.hid hc2
  clear hg2 hc2 ho2
  go_wp2_with fail
  go_ret
  exact ⟨rfl, HC2.out.same (alloc_same _ _), HG2.out.trans (grown_below (alloc_same _ _) _)⟩
set_option maxHeartbeats 2000000 in
set_option maxRecDepth 100000 in
theorem readPart_row {x : Fd} {y : List Int} {g : Nat} {b : Option Addr} {m d k k' : Nat} {v : Vl} {w : World} (hp : ∀ w0, Calls Try.prog 79 #[.int .i32 98] w0 (Told x.val w0)) (hz : rdF x y k = some (v, k'))
    (hr : ∀ w0, Below w.heap.size w w0 → Calls Try.prog 98 #[.pointer (some ⟨g, 0, none⟩), x.val] w0 (RfTold 3 g b m d x y k w0)) :
    Calls Try.prog 81 #[.pointer (some ⟨g, 0, none⟩), .int .i32 98] w (PtRow g b m d v.items k' w) := by
  have KP := Lib.hid (hp w)
  have KR := Lib.hid (fun w0 (hb : Below w.heap.size w w0) => rf_some hz (hr w0 hb))
  clear hp hr hz
  go_enter Try.func81, Try.ntmps81
  go_wp2_with fail
  refine KP.out.mono ?_
  rintro e w1 ⟨rfl, hb1⟩
  have HB1 := Lib.hid hb1
  clear hb1
  go_wp2_with fail
  refine (KR.out w1 HB1.out).mono ?_
  rintro e w2 ⟨p, q, r, rfl, ho2, hc2, hg2⟩
  have HG2 := Lib.hid ((grown_below HB1.out (some g)).trans hg2)
  have HC2 := Lib.hid hc2
  have HO2 := Lib.hid (ho2.lower HB1.out.size)
  clear hg2 hc2 ho2
  go_wp2_with fail
  go_ret
  exact ⟨_, _, _, rfl, HO2.out.same (alloc_same _ _), HC2.out.same (alloc_same _ _), HG2.out.trans (grown_below (alloc_same _ _) _)⟩
theorem is_int (z : Int) (w : World) : (Instr.typeAssert (.iface 3 (.int .i64 z)) 20 3 true).run Try.prog w = .ok (.tuple #[.int .i64 z, .bool true]) w := by kernel_rfl
theorem is_row (p : Option Addr) (q r : Nat) (w : World) : (Instr.typeAssert (.iface 26 (.slice p q r)) 20 26 true).run Try.prog w = .ok (.tuple #[.slice p q r, .bool true]) w := by kernel_rfl
theorem not_int (w : World) : (Instr.typeAssert .nilIface 20 3 true).run Try.prog w = .ok (.tuple #[.int .i64 0, .bool false]) w := by kernel_rfl
theorem not_row (w : World) : (Instr.typeAssert .nilIface 20 26 true).run Try.prog w = .ok (.tuple #[.slice none 0 0, .bool false]) w := by kernel_rfl
set_option maxHeartbeats 4000000 in
set_option maxRecDepth 100000 in
theorem readExt_no1 (g : Nat) (b : Option Addr) (m d k : Nat) (y : List Int) (w : World) (h : Cur w g b m d k) (hv : Fix w g b m y) (hd : m ≤ d ∧ (d : Int) ≤ 9223372036854775807) (hm : m ≤ 1000000000) (hk : k ≤ m) (h1 : rdF fdT y k = none) :
    Calls Try.prog 82 #[.pointer (some ⟨g, 0, none⟩)] w (Rdn g w) := by
  have hgl := h.lt
  have hb0 := alloc_same w (.cells #[.int .i64 0, .slice none 0 0] 57)
  have hM := heap_alloc_new w (.cells #[.int .i64 0, .slice none 0 0] 57)
  have hsz : w.heap.size + 1 = (w.alloc (.cells #[.int .i64 0, .slice none 0 0] 57)).heap.size := by simp
  have h0 := h.same hb0
  have hv0 := hv.same hb0
  have HB0 := Lib.hid hb0
  have KT := Lib.hid (readPart_no (w := w.alloc (.cells #[.int .i64 0, .slice none 0 0] 57)) partTag h1 (fun w0 hb => readField_any fdT g b m d k y w0 (h0.same hb) (hv0.same hb) hd hm hk (Or.inl rfl)))
  have NI := not_int
  unfold PtNo at KT
  unfold Rdn
  clear h hv h0 hv0 hb0 h1
  go_enter Try.func82, Try.ntmps82
  go_wp2_with fail
  generalize w.alloc (.cells #[.int .i64 0, .slice none 0 0] 57) = W0 at *
  refine KT.out.mono ?_
  rintro e w1 ⟨rfl, hg1⟩
  have hM1 : w1.heap[w.heap.size]? = some (.cells #[.int .i64 0, .slice none 0 0] 57 (0, 0)) := by rw [hg1.block _ (by omega) (by simp; omega)]; exact hM
  have HG1 := Lib.hid ((grown_below HB0.out (some g)).trans hg1)
  clear hM hg1
  obtain ⟨m0, m1, g0, g1⟩ := two_cells hM1
  obtain ⟨z0, z1, hZ⟩ := two_put hM1 (.int .i64 0) (.slice none 0 0)
  clear hM1 hZ
  go_wp2_with fail
  (try simp only [Exit.inBlock, Exit.then])
  refine bodyPost_ret (by simp [results, Try.results82, go_sem, z0, z1]; try rfl) rfl ?_
  exact ⟨rfl, grown_set2 HG1.out (by omega) _ _⟩
set_option maxHeartbeats 4000000 in
set_option maxRecDepth 100000 in
theorem readExt_no2 (g : Nat) (b : Option Addr) (m d k k1 : Nat) (y : List Int) (w : World) (h : Cur w g b m d k) (hv : Fix w g b m y) (hd : m ≤ d ∧ (d : Int) ≤ 9223372036854775807) (hm : m ≤ 1000000000) (hk : k ≤ m) (t : Vl) (hk1 : k1 ≤ m) (h1 : rdF fdT y k = some (t, k1)) (h2 : rdF fdB y k1 = none) :
    Calls Try.prog 82 #[.pointer (some ⟨g, 0, none⟩)] w (Rdn g w) := by
  have hgl := h.lt
  have hb0 := alloc_same w (.cells #[.int .i64 0, .slice none 0 0] 57)
  have hM := heap_alloc_new w (.cells #[.int .i64 0, .slice none 0 0] 57)
  have hsz : w.heap.size + 1 = (w.alloc (.cells #[.int .i64 0, .slice none 0 0] 57)).heap.size := by simp
  have h0 := h.same hb0
  have hv0 := hv.same hb0
  have HB0 := Lib.hid hb0
  have KT := Lib.hid (readPart_num (w := w.alloc (.cells #[.int .i64 0, .slice none 0 0] 57)) (by decide) partTag h1 (fun w0 hb => readField_any fdT g b m d k y w0 (h0.same hb) (hv0.same hb) hd hm hk (Or.inl rfl)))
  have NI := is_int t.num
  have HV := Lib.hid hv0
  unfold PtNum at KT
  have NR := not_row
  unfold Rdn
  clear h hv h0 hv0 hb0 h1
  go_enter Try.func82, Try.ntmps82
  go_wp2_with fail
  generalize w.alloc (.cells #[.int .i64 0, .slice none 0 0] 57) = W0 at *
  refine KT.out.mono ?_
  rintro e w1 ⟨rfl, hc1, hg1⟩
  have hs1 : w.heap.size + 1 ≤ w1.heap.size := by have := hg1.size; omega
  have hM1 : w1.heap[w.heap.size]? = some (.cells #[.int .i64 0, .slice none 0 0] 57 (0, 0)) := by rw [hg1.block _ (by omega) (by simp; omega)]; exact hM
  have HG1 := Lib.hid ((grown_below HB0.out (some g)).trans hg1)
  have KB := Lib.hid (readPart_no (w := w1) partBody h2 (fun w0 hb => readField_any fdB g b m d k1 y w0 (hc1.same hb) ((HV.out.on hg1).same hb) hd hm hk1 (Or.inr (Or.inl rfl))))
  unfold PtNo at KB
  clear hM hg1 hc1
  go_wp2_with fail
  refine KB.out.mono ?_
  rintro e w2 ⟨rfl, hg2⟩
  have hM2 : w2.heap[w.heap.size]? = some (.cells #[.int .i64 0, .slice none 0 0] 57 (0, 0)) := by rw [hg2.block _ (by omega) (by simp; omega)]; exact hM1
  have HG2 := Lib.hid (HG1.out.trans hg2)
  clear hM1 hg2
  obtain ⟨m0, m1, g0, g1⟩ := two_cells hM2
  obtain ⟨z0, z1, hZ⟩ := two_put hM2 (.int .i64 0) (.slice none 0 0)
  clear hM2 hZ
  go_wp2_with fail
  (try simp only [Exit.inBlock, Exit.then])
  refine bodyPost_ret (by simp [results, Try.results82, go_sem, z0, z1]; try rfl) rfl ?_
  exact ⟨rfl, grown_set2 HG2.out (by omega) _ _⟩
set_option maxHeartbeats 4000000 in
set_option maxRecDepth 100000 in
theorem readExt_yes (g : Nat) (b : Option Addr) (m d k k1 k2 : Nat) (y : List Int) (w : World) (h : Cur w g b m d k) (hv : Fix w g b m y) (hd : m ≤ d ∧ (d : Int) ≤ 9223372036854775807) (hm : m ≤ 1000000000) (hk : k ≤ m) (t v : Vl) (hk1 : k1 ≤ m) (h1 : rdF fdT y k = some (t, k1)) (h2 : rdF fdB y k1 = some (v, k2)) :
    Calls Try.prog 82 #[.pointer (some ⟨g, 0, none⟩)] w (fun e w' => ∃ p q r, e = .returned (.tuple #[.agg #[.int .i64 t.num, .slice p q r], .bool true]) ∧ Own .i64 3 w' w.heap.size p q r v.items ∧ Cur w' g b m d k2 ∧ w.grownBy w' (some g)) := by
  have hgl := h.lt
  have hb0 := alloc_same w (.cells #[.int .i64 0, .slice none 0 0] 57)
  have hM := heap_alloc_new w (.cells #[.int .i64 0, .slice none 0 0] 57)
  have hsz : w.heap.size + 1 = (w.alloc (.cells #[.int .i64 0, .slice none 0 0] 57)).heap.size := by simp
  have h0 := h.same hb0
  have hv0 := hv.same hb0
  have HB0 := Lib.hid hb0
  have KT := Lib.hid (readPart_num (w := w.alloc (.cells #[.int .i64 0, .slice none 0 0] 57)) (by decide) partTag h1 (fun w0 hb => readField_any fdT g b m d k y w0 (h0.same hb) (hv0.same hb) hd hm hk (Or.inl rfl)))
  have NI := is_int t.num
  have HV := Lib.hid hv0
  unfold PtNum at KT
  have NR := is_row
  clear h hv h0 hv0 hb0 h1
  go_enter Try.func82, Try.ntmps82
  go_wp2_with fail
  generalize w.alloc (.cells #[.int .i64 0, .slice none 0 0] 57) = W0 at *
  refine KT.out.mono ?_
  rintro e w1 ⟨rfl, hc1, hg1⟩
  have hs1 : w.heap.size + 1 ≤ w1.heap.size := by have := hg1.size; omega
  have hM1 : w1.heap[w.heap.size]? = some (.cells #[.int .i64 0, .slice none 0 0] 57 (0, 0)) := by rw [hg1.block _ (by omega) (by simp; omega)]; exact hM
  have HG1 := Lib.hid ((grown_below HB0.out (some g)).trans hg1)
  have KB := Lib.hid (readPart_row (w := w1) partBody h2 (fun w0 hb => readField_any fdB g b m d k1 y w0 (hc1.same hb) ((HV.out.on hg1).same hb) hd hm hk1 (Or.inr (Or.inl rfl))))
  unfold PtRow at KB
  clear hM hg1 hc1
  go_wp2_with fail
  refine KB.out.mono ?_
  rintro e w2 ⟨p, q, r, rfl, ho2, hc2, hg2⟩
  have hM2 : w2.heap[w.heap.size]? = some (.cells #[.int .i64 0, .slice none 0 0] 57 (0, 0)) := by rw [hg2.block _ (by omega) (by simp; omega)]; exact hM1
  have HG2 := Lib.hid (HG1.out.trans hg2)
  have HC2 := Lib.hid hc2
  have HO2 := Lib.hid (ho2.lower (B' := w.heap.size) (by omega))
  have HOUT : Hid (∀ ad, p = some ad → ad.block ≠ w.heap.size) := Lib.hid (fun ad e => by have := (ho2.span ad e).1; omega)
  clear hM1 hg2 hc2 ho2
  obtain ⟨m0, m1, g0, g1⟩ := two_cells hM2
  obtain ⟨z0, z1, hZ⟩ := two_put hM2 (.int .i64 t.num) (.slice p q r)
  clear hM2 hZ
  go_wp2_with fail
  (try simp only [Exit.inBlock, Exit.then])
  refine bodyPost_ret (by simp [results, Try.results82, go_sem, z0, z1]; try rfl) rfl ?_
  exact ⟨p, q, r, rfl, (HO2.out.set HOUT.out _ _).set HOUT.out _ _, HC2.out.set2 (by omega) _ _, grown_set2 HG2.out (by omega) _ _⟩
/-- What is left by the reading of one extension. -/
def RxTold (tI : TypeId) (g : Nat) (b : Option Addr) (m d : Nat) (y : List Int) (k : Nat) (w : World) (e : Ending) (w' : World) : Prop :=
  match rdX y k with
  | none => Rdn g w e w'
  | some (x, k') => ∃ p q r, e = .returned (.tuple #[.agg #[.int .i64 x.num, .slice p q r], .bool true]) ∧ Own .i64 tI w' w.heap.size p q r x.items ∧ Cur w' g b m d k' ∧ w.grownBy w' (some g)
theorem readExt_any (g : Nat) (b : Option Addr) (m d k : Nat) (y : List Int) (w : World) (h : Cur w g b m d k) (hv : Fix w g b m y) (hd : m ≤ d ∧ (d : Int) ≤ 9223372036854775807) (hm : m ≤ 1000000000) (hk : k ≤ m) :
    Calls Try.prog 82 #[.pointer (some ⟨g, 0, none⟩)] w (RxTold 3 g b m d y k w) := by
  have hyl := hv.len
  unfold RxTold rdX
  cases h1 : rdF fdT y k with
  | none => exact readExt_no1 g b m d k y w h hv hd hm hk h1
  | some p =>
    obtain ⟨t, k1⟩ := p
    have hk1 : k1 ≤ m := by have := (rdF_form h1).2.1; omega
    dsimp only
    cases h2 : rdF fdB y k1 with
    | none => exact readExt_no2 g b m d k k1 y w h hv hd hm hk t hk1 h1 h2
    | some q =>
      obtain ⟨v, k2⟩ := q
      exact readExt_yes g b m d k k1 k2 y w h hv hd hm hk t v hk1 h1 h2
end Go.Proofs.Ytgkacnngodamgaa
namespace Go.Proofs.Ytgkacnngodamgaa
open Go.ChangeShapes Go.WideShapes Go.ChangeAt Go.RowKit
set_option linter.unusedVariables false
set_option linter.unusedSimpArgs false

theorem rdXs_stop {b : List Int} {j : Nat} (h : rdXs b j = none) : ∀ q, j ≤ q → rdXs b q = none
  | 0, hq => by
    obtain rfl : j = 0 := by omega
    exact h
  | q + 1, hq => by
    by_cases e : j = q + 1
    · rw [← e]; exact h
    · rw [rdXs, rdXs_stop h q (by omega)]
theorem rdXs_step {b : List Int} {j k : Nat} {l : List Vl} (h : rdXs b j = some (l, k)) : rdXs b (j + 1) = (rdX b k).map fun p => (l ++ [p.1], p.2) := by rw [rdXs, h]
theorem grown_then {n : Nat} {w W w' : World} {row : Option Nat} (h : w.grownBy W row) (hb : Below n W w') (hn : w.heap.size ≤ n) (hs : n ≤ W.heap.size) : w.grownBy w' row :=
  ⟨hb.os.trans h.os, hb.tape.trans h.tape, hb.output.trans h.output, Nat.le_trans h.size hb.size, fun i hi hr => (hb.block i (by omega)).trans (h.block i hi hr)⟩
/-- What is left by the reading of all extensions. -/
def RaTold (tO tI : TypeId) (g : Nat) (b : Option Addr) (m d : Nat) (o : Option (List Vl × Nat)) (w : World) (e : Ending) (w' : World) : Prop :=
  match o with
  | none => e = .returned (.tuple #[.slice none 0 0, .bool false]) ∧ w.grownBy w' (some g)
  | some (l, k) => ∃ q n c, e = .returned (.tuple #[.slice q n c, .bool true]) ∧ OwnV tO tI w' w.heap.size q n c l ∧ Cur w' g b m d k ∧ w.grownBy w' (some g)
set_option maxHeartbeats 4000000 in
set_option maxRecDepth 100000 in
theorem readExts_no (g : Nat) (b : Option Addr) (m d : Nat) (y : List Int) (w : World) (h : Cur w g b m d 0) (hv : Fix w g b m y) (hd : m ≤ d ∧ (d : Int) ≤ 9223372036854775807) (hm : m ≤ 1000000000) (h1 : rdF fdN y 0 = none) :
    Calls Try.prog 45 #[.pointer (some ⟨g, 0, none⟩)] w (RaTold 57 3 g b m d none w) := by
  have KT := Lib.hid (readPart_no (w := w) partCount h1 (fun w0 hb => readField_any fdN g b m d 0 y w0 (h.same hb) (hv.same hb) hd hm (Nat.zero_le _) (Or.inl rfl)))
  have NI := not_int
  unfold PtNo at KT
  unfold RaTold
  clear h hv h1
  go_enter Try.func45, Try.ntmps45
  go_wp2_with fail
  refine KT.out.mono ?_
  rintro e w1 ⟨rfl, hg1⟩
  have HG1 := Lib.hid hg1
  clear hg1
  go_wp2_with fail
  go_ret2
  exact ⟨rfl, HG1.out⟩
set_option maxHeartbeats 4000000 in
set_option maxRecDepth 100000 in
theorem readExts_yes (g : Nat) (b : Option Addr) (m d N : Nat) (y : List Int) (w : World) (h : Cur w g b m d 0) (hv : Fix w g b m y) (hd : m ≤ d ∧ (d : Int) ≤ 9223372036854775807) (hm : m ≤ 1000000000) (hN : N ≤ 6) (h1 : rdF fdN y 0 = some (⟨(N : Int), []⟩, 1)) (hy1 : y.take 1 = [(N : Int)]) :
    Calls Try.prog 45 #[.pointer (some ⟨g, 0, none⟩)] w (RaTold 57 3 g b m d (rdXs y N) w) := by
  have hgl := h.lt
  have KT := Lib.hid (readPart_num (w := w) (by decide) partCount h1 (fun w0 hb => readField_any fdN g b m d 0 y w0 (h.same hb) (hv.same hb) hd hm (Nat.zero_le _) (Or.inl rfl)))
  have NI := is_int (N : Int)
  have HV := Lib.hid hv
  have hyl := hv.len
  have HF := Lib.hid (fun (j k : Nat) (l : List Vl) (hr : rdXs y j = some (l, k)) => (rdXs_form hy1 j l k hr))
  have HS := Lib.hid (fun (j : Nat) (hj : j ≤ N) (hr : rdXs y j = none) => rdXs_stop hr N hj)
  have HD := Lib.hid hd
  obtain ⟨i0, hi, hz0, hz1, hz2⟩ := info_parts infoExtS
  have HI := Lib.hid (And.intro hi (And.intro hz0 (And.intro hz1 hz2)))
  unfold PtNum at KT
  clear h hv h1 hi hz0 hz1 hz2 hy1 hd
  dsimp only at KT
  go_enter Try.func45, Try.ntmps45
  go_wp2_with fail
  refine KT.out.mono ?_
  rintro e w1 ⟨rfl, hc1, hg1⟩
  have HC1 := Lib.hid hc1
  have HG1 := Lib.hid hg1
  have hs1 := hg1.size
  clear hc1 hg1 KT
  go_wp2_with (with_reducible refine wpList_make_own _ rfl (.const (.int .i64 0)) (.tmp 17) 24 rfl w.heap.size 57 i0 (.agg #[.int .i64 0, .slice none 0 0]) 2 Try.underlying24 HI.out.1 HI.out.2.1 HI.out.2.2.1 .i64 .i64 _ N rfl rfl rfl ?c1 ?c2 ?c3 ?_)
  case c1 => rw [HI.out.2.2.2]; omega
  case c2 => unfold maxLen; omega
  case c3 => exact hs1
  intro w2 hown hgrow
  have HO2 : Hid (OwnV 57 3 w2 w.heap.size (some ⟨w1.heap.size, 0, none⟩) 0 N []) := Lib.hid ⟨[], ⟨rfl, hown⟩, rfl, fun j g x h => by simp at h, fun i j h k _ h' => by simp at h'⟩
  have hb2 : Below w1.heap.size w1 w2 := (Below.refl _ w1).grown hgrow (Nat.le_refl _) (fun _ e => by cases e)
  have HC2 := Lib.hid (HC1.out.same hb2)
  have HG2 := Lib.hid (HG1.out.trans (grown_below hb2 (some g)))
  clear hown hgrow hb2
  go_wp2_with fail
  go_loopw [6, 20] (fun v i wr => ∃ (j k : Nat) (l : List Vl) (q : Option Addr) (e : Nat), j ≤ N ∧ i = .int .i64 j ∧ v = .slice q j e ∧ rdXs y j = some (l, k) ∧ OwnV 57 3 wr w.heap.size q j e l ∧ Cur wr g b m d k ∧ w.grownBy wr (some g)) (fun _ i _ => N - (intOf i).toNat)
  case atStart => exact ⟨0, 1, [], _, _, Nat.zero_le _, rfl, rfl, rfl, HO2.out, HC2.out, HG2.out⟩
  case round =>
    obtain ⟨j, k, l, q, e, hj, rfl, rfl, hr, hown, hc, hg⟩ := hrel
    have HOr := Lib.hid hown
    have HCr := Lib.hid hc
    have HGr := Lib.hid hg
    have hk : k ≤ m := by have := (HF.out j k l hr).2.1; omega
    have hst := rdXs_step hr
    have HR := Lib.hid hr
    have hsr := hg.size
    clear hown hc hg hr
    by_cases hlt : j < N
    · have KX := readExt_any g b m d k y wr HCr.out (HV.out.on HGr.out) HD.out hm hk
      unfold RxTold at KX
      cases hx : rdX y k with
      | none =>
        rw [hx] at KX hst
        have HE := Lib.hid (HS.out (j + 1) (by omega) (by rw [hst]; rfl))
        have KX := Lib.hid KX
        unfold Rdn at KX
        clear hx hst
        go_wp2_with fail
        refine KX.out.mono ?_
        rintro e3 w3 ⟨rfl, hg3⟩
        have HG3 := Lib.hid (HGr.out.trans hg3)
        clear hg3
        go_wp2_with fail
        go_ret2
        rw [HE.out]
        exact ⟨rfl, HG3.out.trans (grown_below (alloc_same _ _) _)⟩
      | some p =>
        obtain ⟨x, k2⟩ := p
        rw [hx] at KX hst
        obtain ⟨xn, xi⟩ := x
        have HE : Hid (rdXs y (j + 1) = some (l ++ [⟨xn, xi⟩], k2)) := Lib.hid (by rw [hst]; rfl)
        have KX := Lib.hid KX
        clear hx hst
        dsimp only at KX
        go_wp2_with fail
        refine KX.out.mono ?_
        rintro e3 w3 ⟨p3, q3, r3, rfl, ho3, hc3, hg3⟩
        have HO3 := Lib.hid ho3
        have HC3 := Lib.hid hc3
        have HG3 := Lib.hid (HGr.out.trans hg3)
        have HL3 := Lib.hid (HOr.out.lim.far hg3 (fun r e => by cases e; exact Or.inl hgl))
        have hs3 := hg3.size
        have HNN : Hid (Items Vh.enc 2 ((w3.alloc (.cells #[.int .i64 xn, .slice p3 q3 r3] 57)).alloc (.cells #[.int .i64 xn, .slice p3 q3 r3] 57)) (some ⟨w3.heap.size + 1, 0, none⟩) 1 [⟨xn, p3, q3, r3⟩]) := Lib.hid (by
          have : Items Vh.enc 2 ((w3.alloc (.cells #[.int .i64 xn, .slice p3 q3 r3] 57)).alloc (.cells #[.int .i64 xn, .slice p3 q3 r3] 57)) (some ⟨(w3.alloc (.cells #[.int .i64 xn, .slice p3 q3 r3] 57)).heap.size, 0, none⟩) 1 [⟨xn, p3, q3, r3⟩] := items_new Vh.enc_len (w3.alloc (.cells #[.int .i64 xn, .slice p3 q3 r3] 57)) ⟨xn, p3, q3, r3⟩ 57
          simpa using this)
        clear ho3 hc3 hg3
        go_wp2_with (at_builtin; refine wpl_appV (S := wr.heap.size) (B := w.heap.size) _ rfl (.tmp 29) (.tmp 31) 24 rfl 57 3 i0 (.agg #[.int .i64 0, .slice none 0 0]) 32 Try.underlying24 HI.out.1 HI.out.2.1 HI.out.2.2.1 HI.out.2.2.2 rfl rfl ((HL3.out.same (alloc_same _ _)).same (alloc_same _ _)) rfl HNN.out (((HO3.out.lower hsr).alloc _).alloc _) (fun ad e => (HO3.out.span ad e).1) (by omega) ?c4 ?c5 ?_)
        case c4 => omega
        case c5 => simp; omega
        intro a4 c4 w4 ho4 hb4
        have HO4 := Lib.hid ho4
        have hW : Below w3.heap.size w3 ((w3.alloc (.cells #[.int .i64 xn, .slice p3 q3 r3] 57)).alloc (.cells #[.int .i64 xn, .slice p3 q3 r3] 57)) := ((Below.refl _ w3).alloc (Nat.le_refl _) _).alloc (by simp) _
        have HC4 : Hid (Cur w4 g b m d k2) := Lib.hid ((hb4.block g hgl).trans (HC3.out.same hW))
        have HG4 : Hid (w.grownBy w4 (some g)) := Lib.hid (grown_then (HG3.out.trans (grown_below hW (some g))) hb4 (Nat.le_refl _) (by simp; omega))
        clear ho4 hb4 hW
        go_wp2_with fail
        go_roundw
        case rel => exact ⟨j + 1, k2, _, a4, c4, by omega, by go_num, rfl, HE.out, HO4.out, HC4.out, HG4.out⟩
        case measure => simp [intOf]; omega
    · obtain rfl : j = N := by omega
      go_wp2_with fail
      go_ret2
      rw [HR.out]
      exact ⟨_, _, _, rfl, HOr.out, HCr.out, HGr.out⟩
theorem readExts_any (g : Nat) (b : Option Addr) (m d : Nat) (y : List Int) (w : World) (h : Cur w g b m d 0) (hv : Fix w g b m y) (hd : m ≤ d ∧ (d : Int) ≤ 9223372036854775807) (hm : m ≤ 1000000000) :
    Calls Try.prog 45 #[.pointer (some ⟨g, 0, none⟩)] w (RaTold 57 3 g b m d (rdAll y) w) := by
  unfold rdAll
  cases h1 : rdF fdN y 0 with
  | none => exact readExts_no g b m d y w h hv hd hm h1
  | some p =>
    obtain ⟨⟨cn, ci⟩, k0⟩ := p
    have f := rdF_form h1
    have q := rdF_kind1 (x := fdN) rfl h1
    dsimp only at f q ⊢
    obtain ⟨rfl, rfl⟩ := q
    rw [fitsN] at f
    have hc : 0 ≤ cn ∧ cn ≤ 6 := by simpa using f.2.2.2
    obtain ⟨N, rfl⟩ : ∃ N : Nat, cn = N := ⟨cn.toNat, by omega⟩
    rw [Int.toNat_natCast]
    exact readExts_yes g b m d N y w h hv hd hm (by omega) h1 (by rw [show (1 : Nat) = 0 + 1 from rfl, f.2.2.1]; rfl)
def decL (y : List Int) : List Vl := (decX y).getD []
def decOk (y : List Int) : Bool := (decX y).isSome
theorem dec_none {y : List Int} (h : decX y = none) : decL y = [] ∧ decOk y = false := by unfold decL decOk; rw [h]; exact ⟨rfl, rfl⟩
theorem dec_some {y : List Int} {l : List Vl} (h : decX y = some l) : decL y = l ∧ decOk y = true := by unfold decL decOk; rw [h]; exact ⟨rfl, rfl⟩
theorem decL_few (y : List Int) : (decL y).length ≤ 6 ∧ itemsOf (decL y) ≤ 24 := by
  cases h : decX y with
  | none => rw [(dec_none h).1]; simp [itemsOf]
  | some l => rw [(dec_some h).1]; exact decX_few h
/-- What is left by a function that decodes extensions. -/
def DxTold (tO tI : TypeId) (y : List Int) (w : World) (e : Ending) (w' : World) : Prop :=
  ∃ q n c, e = .returned (.tuple #[.slice q n c, .bool (decOk y)]) ∧ OwnV tO tI w' w.heap.size q n c (decL y) ∧ Below w.heap.size w w'
set_option maxHeartbeats 4000000 in
set_option maxRecDepth 100000 in
theorem decodeExts_any {b : Option Addr} {m d : Nat} {y : List Int} {w : World} (hv : Nums .i64 w b m y) (hd : m ≤ d ∧ (d : Int) ≤ 9223372036854775807) (hm : m ≤ 1000000000) :
    Calls Try.prog 12 #[.slice b m d] w (DxTold 57 3 y w) := by
  have hyl := Lib.hid hv.len
  have hb0 := alloc_same w (.cells #[.slice b m d, .int .i64 0] 66)
  have hC0 : Cur (w.alloc (.cells #[.slice b m d, .int .i64 0] 66)) w.heap.size b m d 0 := heap_alloc_new w _
  have hF0 : Fix (w.alloc (.cells #[.slice b m d, .int .i64 0] 66)) w.heap.size b m y := fun w' hg => hv.same (hb0.grown hg (by simp) (fun j e => by cases e; exact Nat.le_refl _))
  have KA := Lib.hid (readExts_any w.heap.size b m d y _ hC0 hF0 hd hm)
  have HB0 := Lib.hid hb0
  have hs0 := hb0.size
  unfold RaTold at KA
  unfold DxTold
  clear hv hC0 hF0 hb0
  cases hr : rdAll y with
  | none =>
    rw [hr] at KA
    have HE := Lib.hid (dec_none (y := y) (by unfold decX; rw [hr]))
    clear hr
    dsimp only at KA
    go_enter Try.func12, Try.ntmps12
    go_wp2_with fail
    refine KA.out.mono ?_
    rintro e w1 ⟨rfl, hg1⟩
    have HB1 := Lib.hid (HB0.out.grown hg1 hs0 (fun j e => by cases e; exact Nat.le_refl _))
    clear hg1 KA
    go_wp2_with fail
    go_ret2
    exact ⟨_, _, _, by rw [HE.out.2]; rfl, by rw [HE.out.1]; exact OwnV.empty HB1.out.size, HB1.out.alloc HB1.out.size _⟩
  | some p =>
    obtain ⟨l, k⟩ := p
    rw [hr] at KA
    dsimp only at KA
    by_cases hk : k = m
    · subst hk
      cases ha : areX l with
      | true =>
        have HE := Lib.hid (dec_some (y := y) (l := l) (by unfold decX; rw [hr]; dsimp only; rw [if_pos ⟨hyl.out.symm, ha⟩]))
        go_enter Try.func12, Try.ntmps12
        go_wp2_with fail
        refine KA.out.mono ?_
        rintro e w1 ⟨q, n, c, rfl, ho1, hc1, hg1⟩
        have HB1 := Lib.hid (HB0.out.grown hg1 hs0 (fun j e => by cases e; exact Nat.le_refl _))
        have HO1 := Lib.hid (ho1.lower hs0)
        have KV := Lib.hid (areExts_any (c := c) ho1.vals)
        rw [ha] at KV
        obtain ⟨c0, c1, _, _⟩ := two_cells hc1
        clear hg1 KA hr ha ho1 hc1
        go_wp2_with (go_at_call 11; refine KV.out.mono ?_; rintro e w2 ⟨rfl, hb2⟩; have HB2 := Lib.hid hb2; clear hb2)
        go_ret2
        exact ⟨_, _, _, by rw [HE.out.2]; rfl, by rw [HE.out.1]; exact HO1.out.same HB2.out, HB1.out.trans (HB2.out.mono HB1.out.size)⟩
      | false =>
        have HE := Lib.hid (dec_none (y := y) (by unfold decX; rw [hr]; dsimp only; rw [if_neg (fun h => by rw [ha] at h; cases h.2)]))
        go_enter Try.func12, Try.ntmps12
        go_wp2_with fail
        refine KA.out.mono ?_
        rintro e w1 ⟨q, n, c, rfl, ho1, hc1, hg1⟩
        have HB1 := Lib.hid (HB0.out.grown hg1 hs0 (fun j e => by cases e; exact Nat.le_refl _))
        have KV := Lib.hid (areExts_any (c := c) ho1.vals)
        rw [ha] at KV
        obtain ⟨c0, c1, _, _⟩ := two_cells hc1
        clear hg1 KA hr ha ho1 hc1
        go_wp2_with (go_at_call 11; refine KV.out.mono ?_; rintro e w2 ⟨rfl, hb2⟩; have HB2 := Lib.hid (HB1.out.trans (hb2.mono HB1.out.size)); clear hb2)
        go_ret2
        exact ⟨_, _, _, by rw [HE.out.2]; rfl, by rw [HE.out.1]; exact OwnV.empty HB2.out.size, HB2.out.alloc HB2.out.size _⟩
    · have HE := Lib.hid (dec_none (y := y) (by unfold decX; rw [hr]; dsimp only; rw [if_neg (fun h => hk (h.1.trans hyl.out))]))
      have hkm : ((k : Int) != (m : Int)) = true := by simp; omega
      go_enter Try.func12, Try.ntmps12
      go_wp2_with fail
      refine KA.out.mono ?_
      rintro e w1 ⟨q, n, c, rfl, ho1, hc1, hg1⟩
      have HB1 := Lib.hid (HB0.out.grown hg1 hs0 (fun j e => by cases e; exact Nat.le_refl _))
      obtain ⟨c0, c1, _, _⟩ := two_cells hc1
      clear hg1 KA hr ho1 hc1
      go_wp2_with fail
      go_ret2
      exact ⟨_, _, _, by rw [HE.out.2]; rfl, by rw [HE.out.1]; exact OwnV.empty HB1.out.size, HB1.out.alloc HB1.out.size _⟩
end Go.Proofs.Ytgkacnngodamgaa
namespace Go.Proofs.Ytgkacnngodamgaa
open Go.ChangeShapes Go.WideShapes Go.ChangeAt Go.RowKit
set_option linter.unusedVariables false

set_option maxRecDepth 100000 in
theorem copyList_any {a : Option Addr} {n c : Nat} {l : List Int} {w : World} (h : Nums .i64 w a n l) (hn : n ≤ 1000000000000) :
    Calls Try.prog 99 #[.slice a n c] w (Made .i64 3 w.heap.size l w) := by
  have H := Lib.hid h
  clear h
  obtain ⟨i0, hi, hz0, hz1, hz2⟩ := info_parts infoIntS
  have HI := Lib.hid (And.intro hi (And.intro hz0 (And.intro hz1 hz2)))
  clear hi hz0 hz1 hz2
  have KO := Lib.hid (Own.empty (k := .i64) (t := 3) (w := w) (B := w.heap.size) (Nat.le_refl _))
  unfold Made
  go_enter Try.func99, Try.ntmps99
  go_wp2_with (at_builtin; refine wpl_app _ rfl (.tmp 3) (.tmp 4) 26 rfl .i64 3 i0 (.int .i64 0) 8 Try.underlying26 HI.out.1 HI.out.2.1 HI.out.2.2.1 HI.out.2.2.2 rfl rfl KO.out rfl (H.out.same (alloc_same _ _)) (by omega) ?c1 ?c2 ?_)
  case c1 => omega
  case c2 => simp
  intro a1 c1 w1 ho1 hb1
  have HO1 := Lib.hid ho1
  have HB1 := Lib.hid ((alloc_same w (.cells #[] 3)).trans hb1)
  clear ho1 hb1
  go_wp2_with fail
  go_ret
  refine ⟨_, _, _, rfl, ?_, HB1.out⟩
  simpa using HO1.out
end Go.Proofs.Ytgkacnngodamgaa
