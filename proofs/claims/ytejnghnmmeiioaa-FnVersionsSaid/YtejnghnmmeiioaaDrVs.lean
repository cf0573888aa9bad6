/- What the law of versions draws: lists of numbers, ascending or spoiled, and a number. -/
import Derived.Test.YtejnghnmmeiioaaDr
import Derived.Test.YtejnghnmmeiioaaPut4
import Derived.Test.YtejnghnmmeiioaaIntI
import Derived.Test.YtejnghnmmeiioaaItems
namespace Go.Proofs.Ytejnghnmmeiioaa
open Go.ChangeShapes Go.WideShapes Go.ChangeAt Go.RowKit
set_option linter.unusedVariables false
set_option linter.unusedSimpArgs false

theorem own_oneV (w : World) (x : Int) (t : TypeId) {B : Nat} (hB : B ≤ w.heap.size) : Own .i64 t (w.alloc (.cells #[.int .i64 x] t)) B (some ⟨w.heap.size, 0, none⟩) 1 1 [x] :=
  ⟨rfl, World.ownsRow_lit w #[.int .i64 x] 1 hB (by unfold maxLen; omega) rfl⟩
theorem putL_more (n : Int) : ∀ l : List Int, l.length ≤ (putL l n).length
  | [] => by simp [putL]
  | x :: t => by
    have := putL_more n t
    unfold putL
    split
    · simp; omega
    · split <;> simp
/-- The numbers that are drawn. -/
def Small (l : List Int) : Prop := ∀ z ∈ l, -1 ≤ z ∧ z ≤ 10
theorem Small.put {l : List Int} {x : Int} (h : Small l) (h0 : 1 ≤ x) (h1 : x ≤ 6) : Small (putL l x) := fun z hz => by
  rcases mem_putL.1 hz with rfl | q
  · omega
  · exact h z q
theorem Small.wf {l : List Int} (h : Small l) : ∀ z ∈ l, (Lit.int .i64 z).wf = true := fun z hz => by
  have := h z hz
  simp [Lit.wf, IntKind.min, IntKind.max, IntKind.signed, IntKind.bits]
  omega
/-- What a draw of a list leaves. -/
def DrewL (b : Nat) (a : Option Addr) (n c : Nat) (w : World) (e : Ending) (w' : World) : Prop :=
  ∃ (q : Option Addr) (m d : Nat) (l : List Int), e = .returned (.slice q m d) ∧ Own .i64 3 w' w.heap.size q m d l ∧ m ≤ 6 ∧ Small l ∧ Drawn b a n c w w'
set_option maxHeartbeats 2000000 in
set_option maxRecDepth 100000 in
theorem l12Draw_any (b : Nat) (a : Option Addr) (n c : Nat) (w : World) (hc : Curs w b a n c) :
    Calls Try.prog 48 #[.pointer (some ⟨b, 0, none⟩)] w (fun e w' => ∃ (q : Option Addr) (m d : Nat) (l : List Int), e = .returned (.slice q m d) ∧ Own .i64 3 w' w.heap.size q m d l ∧ 1 ≤ m ∧ m ≤ 5 ∧ Small l ∧ Drawn b a n c w w') := by
  have HC := Lib.hid hc
  have hblt := hc.lt
  clear hc
  go_enter Try.func48, Try.ntmps48
  go_wp2_with fail
  refine (below_any b a n c 4 (by omega) (by omega) _ HC.out).mono ?_
  rintro e w1 ⟨x, hx0, hx1, rfl, hd1⟩
  have hs1 := hd1.2.size
  have HO2 : Hid (Own .i64 3 (w1.alloc (.cells #[.int .i64 (1 + x)] 3)) w.heap.size (some ⟨w1.heap.size, 0, none⟩) 1 1 [1 + x]) := Lib.hid (own_oneV w1 (1 + x) 3 hs1)
  have HD2 : Hid (Drawn b a n c w (w1.alloc (.cells #[.int .i64 (1 + x)] 3))) := Lib.hid (hd1.same (alloc_same _ _))
  have HS0 : Hid (Small [1 + x]) := Lib.hid (fun z hz => by rw [List.mem_singleton.1 hz]; omega)
  clear hd1
  go_wp2_with fail
  refine (below_any b a n c 4 (by omega) (by omega) _ HD2.out.1).mono ?_
  rintro e w3 ⟨y, hy0, hy1, rfl, hd3⟩
  obtain ⟨r0, rfl⟩ : ∃ r : Nat, y = r := ⟨y.toNat, by omega⟩
  have HO3 := Lib.hid (HO2.out.only hd3.2 HO2.out.span (Or.inl hblt))
  have HD3 := Lib.hid (HD2.out.trans hd3)
  clear hd3 HO2 HD2
  go_wp2_with fail
  go_loopw [3, 4] (fun s i wr => ∃ (r : Nat) (q : Option Addr) (m d : Nat) (l : List Int), s = .slice q m d ∧ i = .int .i64 r ∧ 1 ≤ m ∧ m + r ≤ 5 ∧ Own .i64 3 wr w.heap.size q m d l ∧ Hid (Small l) ∧ Drawn b a n c w wr) (fun _ i _ => (intOf i).toNat)
  case atStart => exact ⟨r0, _, 1, 1, [1 + x], rfl, rfl, by omega, by omega, HO3.out, HS0, HD3.out⟩
  case round =>
    clear HO3 HD3
    obtain ⟨r, q, m, d, l, rfl, rfl, hm1, hr, ho, HS, hd⟩ := hrel
    have HO := Lib.hid ho
    have HD := Lib.hid hd
    have hsr := hd.2.size
    clear ho hd
    by_cases h0 : 0 < r
    · have h0I : (0 : Int) < (r : Int) := by omega
      go_wp2_with fail
      refine (below_any b a n c 6 (by omega) (by omega) _ HD.out.1).mono ?_
      rintro e w4 ⟨z, hz0, hz1, rfl, hd4⟩
      have HO4 := Lib.hid (HO.out.only hd4.2 HO.out.span (Or.inl hblt))
      have HD4 := Lib.hid (HD.out.trans hd4)
      have hs4 := hd4.2.size
      obtain ⟨g, rfl, _, _⟩ := HO.out.head (by omega)
      clear hd4
      go_wp2_with fail
      refine (specPut_any g m d l (1 + z) w4 HO4.out.nums HO4.out.room (by omega)).mono ?_
      rintro e w5 ⟨q5, m5, d5, rfl, ho5, hb5⟩
      have HO5 := Lib.hid (ho5.lower (show w.heap.size ≤ w4.heap.size by omega))
      have HD5 := Lib.hid (HD4.out.same hb5)
      have hm5 : 1 ≤ m5 ∧ m5 ≤ m + 1 := by
        have e1 := ho5.len
        have e2 := HO4.out.len
        have e3 := putL_len (1 + z) l
        have e4 := putL_more (1 + z) l
        omega
      have HS5 : Hid (Small (putL l (1 + z))) := Lib.hid (HS.out.put (by omega) (by omega))
      clear ho5 hb5
      go_wp2_with fail
      go_roundw
      case rel => exact ⟨r - 1, q5, m5, d5, _, rfl, by go_num, by omega, by omega, HO5.out, HS5, HD5.out⟩
      case measure => simp [intOf]; omega
    · obtain rfl : r = 0 := by omega
      go_wp2_with fail
      go_ret
      exact ⟨q, m, d, l, rfl, HO.out, hm1, by omega, HS.out, HD.out⟩
theorem small_set {l : List Int} (h : Small l) (k : Nat) {x : Int} (h0 : -1 ≤ x) (h1 : x ≤ 10) : Small (l.set k x) := fun z hz => by
  rcases List.mem_or_eq_of_mem_set hz with q | rfl
  · exact h z q
  · omega
set_option maxHeartbeats 2000000 in
set_option maxRecDepth 100000 in
theorem l12Any_any (b : Nat) (a : Option Addr) (n c : Nat) (w : World) (hc : Curs w b a n c) :
    Calls Try.prog 32 #[.pointer (some ⟨b, 0, none⟩)] w (DrewL b a n c w) := by
  have HC := Lib.hid hc
  have hblt := hc.lt
  obtain ⟨i0, hi, hz0, hz1, hz2⟩ := info_parts infoIntS
  have HI := Lib.hid (And.intro hi (And.intro hz0 (And.intro hz1 hz2)))
  clear hi hz0 hz1 hz2 hc
  unfold DrewL
  go_enter Try.func32, Try.ntmps32
  go_wp2_with fail
  refine (l12Draw_any b a n c w HC.out).mono ?_
  rintro e w1 ⟨q, m, d, l, rfl, ho, hm1, hm, hs, hd⟩
  have HO1 := Lib.hid ho
  have HS := Lib.hid hs
  have HD1 := Lib.hid hd
  clear ho hs hd
  go_wp2_with fail
  refine (below_any b a n c 9 (by omega) (by omega) _ HD1.out.1).mono ?_
  rintro e w3 ⟨s, hs0, hs1, rfl, hd3⟩
  have HO3 := Lib.hid (HO1.out.only hd3.2 HO1.out.span (Or.inl hblt))
  have HD3 := Lib.hid (HD1.out.trans hd3)
  have hsz3 := HD3.out.2.size
  clear hd3 HO1 HD1
  by_cases e0 : s = 0
  · subst e0
    go_wp2_with fail
    refine (pickNew b a n c [0, -1, 9, 10] 4 (by omega) (by omega) rfl rfl w3 HD3.out.1).mono ?_
    rintro e w4 ⟨z, hz4, rfl, hd4⟩
    have hzb : -1 ≤ z ∧ z ≤ 10 := by
      simp only [List.mem_cons, List.not_mem_nil, or_false] at hz4
      omega
    have HO4 := Lib.hid (HO3.out.only hd4.2 HO3.out.span (Or.inl hblt))
    have HD4 := Lib.hid (HD3.out.trans hd4)
    clear hd4 hz4
    obtain ⟨g, rfl, hg1, hg2⟩ := HO4.out.head (by omega)
    have hf := HO4.out.row.frozenAt 0
    obtain ⟨u, hu⟩ : ∃ u, w4.cell? ⟨g, 0, none⟩ = some u := by
      rw [HO4.out.row.cellAt 0 (by omega)]
      have : 0 < (l.map (Value.int .i64)).length := by rw [List.length_map, HO4.out.len]; omega
      exact ⟨_, List.getElem?_eq_getElem this⟩
    have hst := HO4.out.row.stored 0 (.int .i64 z)
    rw [← List.map_set] at hst
    have HO5 : Hid (Own .i64 3 (w4.setCell ⟨g, 0, none⟩ (.int .i64 z)) w.heap.size (some ⟨g, 0, none⟩) m d (l.set 0 z)) := Lib.hid ⟨by rw [List.length_set]; exact HO4.out.len, hst.1⟩
    have HB5 : Hid (Below w.heap.size w4 (w4.setCell ⟨g, 0, none⟩ (.int .i64 z))) := Lib.hid ((Below.refl _ w4).setCell hg1 _)
    have HD5 := Lib.hid (HD4.out.under HC.out HB5.out (Nat.le_refl _))
    clear hst
    go_wp2_with fail
    go_ret
    exact ⟨_, _, _, _, rfl, HO5.out, by omega, small_set HS.out 0 hzb.1 hzb.2, HD5.out⟩
  · have n0 : (s == 0) = false := by simp [e0]
    by_cases e1 : s = 1
    · subst e1
      obtain ⟨g, rfl, hg1, hg2⟩ := HO3.out.head (by omega)
      obtain ⟨ad, z, e9, hz, hcell⟩ := HO3.out.nums.at_ (show 0 < m by omega)
      cases e9
      have hzb := HS.out z (List.mem_of_getElem? hz)
      have hcell2 : w3.cell? ⟨g, 0, none⟩ = some (.int .i64 z) := by simpa [Addr.add] using hcell
      clear hcell hz
      go_wp2_with (at_builtin; refine wpl_app _ rfl (.tmp 17) (.tmp 21) 24 rfl .i64 3 i0 (.int .i64 0) 8 Try.underlying24 HI.out.1 HI.out.2.1 HI.out.2.2.1 HI.out.2.2.2 rfl rfl (HO3.out.alloc _) rfl (nums_new _ _ _ _) (by omega) ?c6 ?c7 ?_)
      case c6 => omega
      case c7 => simp; omega
      intro a4 c4 w4 ho4 hb4
      have HO4 := Lib.hid ho4
      have HD4 := Lib.hid (HD3.out.under HC.out (((alloc_same _ _).mono hsz3).trans hb4) (Nat.le_refl _))
      clear ho4 hb4
      go_wp2_with fail
      go_ret
      exact ⟨_, _, _, _, rfl, HO4.out, by omega, (fun y hy => by
        rcases List.mem_append.1 hy with q | q
        · exact HS.out y q
        · rw [List.mem_singleton.1 q]; exact hzb), HD4.out⟩
    · have n1 : (s == 1) = false := by simp [e1]
      by_cases e2 : s = 2
      · subst e2
        have HO4 := Lib.hid (Own.empty (k := .i64) (t := 3) (w := w3) (B := w.heap.size) hsz3)
        have HD4 := Lib.hid (HD3.out.same (alloc_same w3 (.cells #[] 3)))
        go_wp2_with fail
        go_ret
        exact ⟨_, _, _, _, rfl, HO4.out, by omega, (fun y hy => by cases hy), HD4.out⟩
      · have n2 : (s == 2) = false := by simp [e2]
        go_wp2_with fail
        go_ret
        exact ⟨_, _, _, _, rfl, HO3.out, by omega, HS.out, HD3.out⟩
set_option maxHeartbeats 1000000 in
set_option maxRecDepth 100000 in
theorem drawBestCommon_any (a : Option Addr) (n c : Nat) (w : World) (hC : Code w a n) :
    Calls Try.prog 11 #[.slice a n c] w (fun e w' => ∃ (q : Option Addr) (m d : Nat) (l : List Int) (q' : Option Addr) (m' d' : Nat) (l' : List Int), e = .returned (.tuple #[.slice q m d, .slice q' m' d']) ∧ Own .i64 3 w' w.heap.size q m d l ∧ Own .i64 3 w' w.heap.size q' m' d' l' ∧ m ≤ 6 ∧ m' ≤ 6 ∧ Small l ∧ Small l' ∧ Below w.heap.size w w') := by
  have HC := Lib.hid hC
  clear hC
  go_enter Try.func11, Try.ntmps11
  go_wp2_with fail
  refine (new_any a n c HC.out.2 w HC.out.1).mono ?_
  rintro e w1 ⟨rfl, hcu, hb1⟩
  have HCU := Lib.hid hcu
  have HB1 := Lib.hid hb1
  have hs1 := hb1.size
  have hlt := hcu.lt
  clear hcu hb1
  go_wp2_with fail
  refine (l12Any_any w.heap.size a n c w1 HCU.out).mono ?_
  rintro e w2 ⟨q, m, d, l, rfl, ho, hm, hsm, hd⟩
  have HO := Lib.hid ho
  have HS := Lib.hid hsm
  have HD2 := Lib.hid hd
  have hs2 := hd.2.size
  clear ho hd hsm
  go_wp2_with fail
  refine (l12Any_any w.heap.size a n c w2 HD2.out.1).mono ?_
  rintro e w3 ⟨q', m', d', l', rfl, ho', hm', hsm', hd3⟩
  have HO3 := Lib.hid ((HO.out.only hd3.2 HO.out.span (Or.inl hlt)).lower hs1)
  have HO3' := Lib.hid (ho'.lower (show w.heap.size ≤ w2.heap.size by omega))
  have HS' := Lib.hid hsm'
  have HB3 := Lib.hid (HB1.out.trans ((HD2.out.trans hd3).below (Nat.le_refl _) hs1))
  clear hd3 ho' hsm'
  go_wp2_with fail
  go_ret2
  exact ⟨q, m, d, l, q', m', d', l', rfl, HO3.out, HO3'.out, hm, hm', HS.out, HS'.out, HB3.out⟩
set_option maxRecDepth 100000 in
theorem drawAddVersion_any (a : Option Addr) (n c : Nat) (w : World) (hC : Code w a n) :
    Calls Try.prog 17 #[.slice a n c] w (fun e w' => ∃ (q : Option Addr) (m d : Nat) (l : List Int) (x : Int), e = .returned (.tuple #[.slice q m d, .int .i64 x]) ∧ Own .i64 3 w' w.heap.size q m d l ∧ m ≤ 6 ∧ Small l ∧ -1 ≤ x ∧ x ≤ 10 ∧ Below w.heap.size w w') := by
  have HC := Lib.hid hC
  clear hC
  go_enter Try.func17, Try.ntmps17
  go_wp2_with fail
  refine (new_any a n c HC.out.2 w HC.out.1).mono ?_
  rintro e w1 ⟨rfl, hcu, hb1⟩
  have HCU := Lib.hid hcu
  have HB1 := Lib.hid hb1
  have hs1 := hb1.size
  have hlt := hcu.lt
  clear hcu hb1
  go_wp2_with fail
  refine (l12Any_any w.heap.size a n c w1 HCU.out).mono ?_
  rintro e w2 ⟨q, m, d, l, rfl, ho, hm, hsm, hd⟩
  have HO := Lib.hid ho
  have HS := Lib.hid hsm
  have HD2 := Lib.hid hd
  clear ho hd hsm
  go_wp2_with fail
  refine (below_any w.heap.size a n c 12 (by omega) (by omega) _ HD2.out.1).mono ?_
  rintro e w3 ⟨x, hx0, hx1, rfl, hd3⟩
  have HO3 := Lib.hid ((HO.out.only hd3.2 HO.out.span (Or.inl hlt)).lower hs1)
  have HB3 := Lib.hid (HB1.out.trans ((HD2.out.trans hd3).below (Nat.le_refl _) hs1))
  clear hd3
  go_wp2_with fail
  go_ret2
  exact ⟨q, m, d, l, x - 1, rfl, HO3.out, hm, HS.out, by omega, by omega, HB3.out⟩
end Go.Proofs.Ytejnghnmmeiioaa
