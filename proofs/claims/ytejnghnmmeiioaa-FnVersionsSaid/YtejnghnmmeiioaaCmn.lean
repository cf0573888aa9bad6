/- What two lists have in common, by the program: a call through an interface, behind which a word or a map stands. -/
import Derived.Test.YtejnghnmmeiioaaWd
import Derived.Test.YtejnghnmmeiioaaPl
import Derived.Test.YtejnghnmmeiioaaIntI
import Derived.Laws.EntriesVeiled
namespace Go.Proofs.Ytejnghnmmeiioaa
open Go.ChangeShapes Go.WideShapes Go.ChangeAt Go.RowKit Go.Shelf
set_option linter.unusedVariables false
set_option linter.unusedSimpArgs false

theorem numbersOf_word {a : Option Addr} {n c : Nat} {l : List Int} {w : World} (h : Nums .i64 w a n l) (h0 : word l ≠ 0) :
    Calls Try.prog 36 #[.slice a n c] w fun e w' => e = .returned (.iface 43 (.int .u16 (word l : Int))) ∧ w = w' := by
  have H := Lib.hid (versionsOf_any (c := c) h)
  obtain ⟨k, hk⟩ : ∃ k : Nat, word l = k := ⟨_, rfl⟩
  rw [hk] at H h0 ⊢
  have hk0 : ((k : Int) == 0) = false := by simpa using h0
  clear h hk
  go_enter Try.func36, Try.ntmps36
  go_wp2_with fail
  refine H.out.mono ?_
  rintro e w' ⟨rfl, rfl⟩
  go_wp2_with fail
  go_ret
  exact ⟨rfl, rfl⟩
theorem numbersOf_map {a : Option Addr} {n c : Nat} {l : List Int} {w : World} (h : Nums .i64 w a n l) (h0 : word l = 0) (hz : ∀ z ∈ l, (Lit.int .i64 z).wf = true) (hn : n ≤ 1048576000) :
    Calls Try.prog 36 #[.slice a n c] w fun e w' => e = .returned (.iface 61 (.map (some w.heap.size))) ∧ w'.ownsMap Try.prog 3 (plainElem (H := Unit) Try.prog 3) w.heap.size n (pl 0 l) ∧ Below w.heap.size w w' := by
  have H := Lib.hid (versionsOf_any (c := c) h)
  have HP := Lib.hid (placesOf_any a n c l w h hz hn)
  rw [h0] at H
  clear h h0 hz
  go_enter Try.func36, Try.ntmps36
  go_wp2_with fail
  refine H.out.mono ?_
  rintro e w' ⟨rfl, rfl⟩
  go_wp2_with fail
  refine HP.out.mono ?_
  rintro e w' ⟨rfl, hown, hb⟩
  have HO := Lib.hid hown
  have HB := Lib.hid hb
  clear hown hb
  go_wp2_with fail
  go_ret
  exact ⟨rfl, HO.out, HB.out⟩
set_option maxHeartbeats 1000000 in
set_option maxRecDepth 100000 in
theorem hasPlace_any {ts : List Int} {b m : Nat} (k : Int) (W : World) (hk : (Lit.int .i64 k).wf = true) (hm : W.ownsMap Try.prog 3 (plainElem (H := Unit) Try.prog 3) b m (pl 0 ts)) :
    Calls Try.prog 71 #[.map (some b), .int .i64 k] W fun e w' => e = .returned (.bool (decide (k ∈ ts))) ∧ w' = W := by
  have hkey := Maps.keyOf_int_mk Try.underlying3 hk
  have HH : Hid (Maps.has (pl 0 ts) (.int .i64 k) = decide (k ∈ ts)) := Lib.hid (pl_has _ _ _)
  have HM := Lib.hid hm
  clear hm
  go_enter Try.func71, Try.ntmps71
  go_wp2_with (at_lookup; refine wpList_lookup_own_ok_int _ rfl _ _ 61 rfl 3 3 .i64 int_keys Try.underlying61 Try.underlying3 (map_zero _) b m (pl 0 ts) rfl HM.out _ _ rfl hkey ?_; intro cc hcc _; rw [HH.out])
  go_ret
  exact ⟨rfl, rfl⟩
set_option maxHeartbeats 4000000 in
set_option maxRecDepth 100000 in
/-- The loop, whatever stands behind the interface: 'hH' says that its method tells of each number whether it is in the second list, in every later world. -/
theorem commonOf_any {a b : Option Addr} {n m c d : Nat} {l l' : List Int} {w : World} (h : Nums .i64 w a n l) (h' : Nums .i64 w b m l') (hz : ∀ z ∈ l, (Lit.int .i64 z).wf = true) (hz' : ∀ z ∈ l', (Lit.int .i64 z).wf = true) (hn : n ≤ 1048576000) (hm : m ≤ 1048576000) :
    Calls Try.prog 16 #[.slice a n c, .slice b m d] w (Made .i64 3 w.heap.size (common l l') w) := by
  have H := Lib.hid h
  have hl := Lib.hid h.len
  have HZ := Lib.hid hz
  obtain ⟨i0, hi, hz0, hz1, hz2⟩ := info_parts infoIntS
  have HI := Lib.hid (And.intro hi (And.intro hz0 (And.intro hz1 hz2)))
  clear hi hz0 hz1 hz2
  unfold Made
  by_cases h0 : word l' = 0
  · have HN := Lib.hid (numbersOf_map (c := d) h' h0 hz' hm)
    clear h h' hz hz' h0
    go_enter Try.func16, Try.ntmps16
    go_wp2_with fail
    refine HN.out.mono ?_
    rintro e w1 ⟨rfl, hown, hb1⟩
    have HM := Lib.hid hown
    have HB1 := Lib.hid hb1
    have hs1 := hb1.size
    have hlt1 := hown.lt
    clear hown hb1 HN
    have KO := Lib.hid (Own.empty (k := .i64) (t := 3) (w := w1) (B := w1.heap.size) (Nat.le_refl _))
    go_wp2_with fail
    go_loopw [6, 8, 14] (fun s _ i wr => ∃ (a' : Option Addr) (c' n' j : Nat), s = .slice a' n' c' ∧ i = .int .i64 (j : Int) ∧ j ≤ n ∧ Own .i64 3 wr w1.heap.size a' n' c' (common (l.take j) l') ∧ Below w1.heap.size w1 wr) (fun _ _ i _ => n - (intOf i).toNat)
    case atStart => exact ⟨_, _, _, 0, rfl, rfl, Nat.zero_le _, by rw [List.take_zero]; exact KO.out, alloc_same _ _⟩
    case round =>
      obtain ⟨a', c', n', j, rfl, rfl, hj, ho, hb⟩ := hrel
      have HO := Lib.hid ho
      have HB := Lib.hid hb
      have hn9 : n' ≤ 1048576000 := by
        have h1 := ho.len
        have h2 := common_few (l.take j) l'
        rw [List.length_take] at h2
        omega
      have hsw : w1.heap.size ≤ wr.heap.size := hb.size
      clear ho hb
      by_cases hlt : j < n
      · obtain ⟨ad, z, rfl, hx, hc⟩ := ((H.out.same HB1.out).same (HB.out.mono (Nat.le_refl _))).at_ hlt
        have hzw := HZ.out z (List.mem_of_getElem? hx)
        have HV := Lib.hid (hasPlace_any z wr hzw (HM.out.kept (grown_below HB.out none) (by simp)))
        cases hq : decide (z ∈ l') with
        | true =>
          have HY := Lib.hid (common_yes hx (of_decide_eq_true hq))
          rw [hq] at HV
          clear hq hx hzw
          go_wp2_with fail
          refine HV.out.mono ?_
          rintro e w2 ⟨rfl, rfl⟩
          go_wp2_with (at_builtin; refine wpl_app _ rfl (.tmp 21) (.tmp 23) 24 rfl .i64 3 i0 (.int .i64 0) 8 Try.underlying24 HI.out.1 HI.out.2.1 HI.out.2.2.1 HI.out.2.2.2 rfl rfl (HO.out.alloc _) rfl (nums_new _ _ _ _) (by omega) ?c6 ?c7 ?_)
          case c6 => omega
          case c7 => simp; omega
          intro a3 c3 w3 ho3 hb3
          have HO3 := Lib.hid ho3
          have HB3 := Lib.hid hb3
          clear ho3 hb3
          go_wp2
          go_roundw
          case rel => exact ⟨a3, c3, _, j + 1, rfl, by go_num, by omega, by rw [HY.out]; exact HO3.out, HB.out.trans (((alloc_same _ _).mono hsw).trans HB3.out)⟩
          case measure => simp [intOf]; omega
        | false =>
          have HY := Lib.hid (common_no hx (of_decide_eq_false hq))
          rw [hq] at HV
          clear hq hx hzw
          go_wp2_with fail
          refine HV.out.mono ?_
          rintro e w2 ⟨rfl, rfl⟩
          go_wp2
          go_roundw
          case rel => exact ⟨a', c', n', j + 1, rfl, by go_num, by omega, by rw [HY.out]; exact HO.out, HB.out⟩
          case measure => simp [intOf]; omega
      · obtain rfl : j = n := by omega
        have HY : Hid (common (l.take j) l' = common l l') := Lib.hid (by rw [← hl.out, List.take_length])
        go_wp2
        go_ret
        exact ⟨_, _, _, rfl, by rw [← HY.out]; exact HO.out.lower hs1, HB1.out.trans (HB.out.mono hs1)⟩
  · have HN := Lib.hid (numbersOf_word (c := d) h' h0)
    have hlw := lw_word h0
    have hlt := word_lt l'
    obtain ⟨k, hk⟩ : ∃ k : Nat, word l' = k := ⟨_, rfl⟩
    rw [hk] at HN hlw hlt
    have HH := Lib.hid (fun n W => has_any hlt n W)
    rw [hlw] at HH
    have KO := Lib.hid (Own.empty (k := .i64) (t := 3) (w := w) (B := w.heap.size) (Nat.le_refl _))
    clear h h' hz hz' h0 hk hlw hlt
    go_enter Try.func16, Try.ntmps16
    go_wp2_with fail
    refine HN.out.mono ?_
    rintro e w1 ⟨rfl, rfl⟩
    go_wp2_with fail
    go_loopw [6, 8, 14] (fun s _ i wr => ∃ (a' : Option Addr) (c' n' j : Nat), s = .slice a' n' c' ∧ i = .int .i64 (j : Int) ∧ j ≤ n ∧ Own .i64 3 wr w.heap.size a' n' c' (common (l.take j) l') ∧ Below w.heap.size w wr) (fun _ _ i _ => n - (intOf i).toNat)
    case atStart => exact ⟨_, _, _, 0, rfl, rfl, Nat.zero_le _, by rw [List.take_zero]; exact KO.out, alloc_same _ _⟩
    case round =>
      obtain ⟨a', c', n', j, rfl, rfl, hj, ho, hb⟩ := hrel
      have HO := Lib.hid ho
      have HB := Lib.hid hb
      have hn9 : n' ≤ 1048576000 := by
        have h1 := ho.len
        have h2 := common_few (l.take j) l'
        rw [List.length_take] at h2
        omega
      have hsw : w.heap.size ≤ wr.heap.size := hb.size
      clear ho hb
      by_cases hlt : j < n
      · obtain ⟨ad, z, rfl, hx, hc⟩ := (H.out.same HB.out).at_ hlt
        have HV := Lib.hid (HH.out z wr)
        cases hq : decide (z ∈ l') with
        | true =>
          have HY := Lib.hid (common_yes hx (of_decide_eq_true hq))
          rw [hq] at HV
          clear hq hx
          go_wp2_with fail
          refine HV.out.mono ?_
          rintro e w2 ⟨rfl, rfl⟩
          go_wp2_with (at_builtin; refine wpl_app _ rfl (.tmp 21) (.tmp 23) 24 rfl .i64 3 i0 (.int .i64 0) 8 Try.underlying24 HI.out.1 HI.out.2.1 HI.out.2.2.1 HI.out.2.2.2 rfl rfl (HO.out.alloc _) rfl (nums_new _ _ _ _) (by omega) ?c6 ?c7 ?_)
          case c6 => omega
          case c7 => simp; omega
          intro a3 c3 w3 ho3 hb3
          have HO3 := Lib.hid ho3
          have HB3 := Lib.hid hb3
          clear ho3 hb3
          go_wp2
          go_roundw
          case rel => exact ⟨a3, c3, _, j + 1, rfl, by go_num, by omega, by rw [HY.out]; exact HO3.out, HB.out.trans (((alloc_same _ _).mono hsw).trans HB3.out)⟩
          case measure => simp [intOf]; omega
        | false =>
          have HY := Lib.hid (common_no hx (of_decide_eq_false hq))
          rw [hq] at HV
          clear hq hx
          go_wp2_with fail
          refine HV.out.mono ?_
          rintro e w2 ⟨rfl, rfl⟩
          go_wp2
          go_roundw
          case rel => exact ⟨a', c', n', j + 1, rfl, by go_num, by omega, by rw [HY.out]; exact HO.out, HB.out⟩
          case measure => simp [intOf]; omega
      · obtain rfl : j = n := by omega
        have HY : Hid (common (l.take j) l' = common l l') := Lib.hid (by rw [← hl.out, List.take_length])
        go_wp2
        go_ret
        exact ⟨_, _, _, rfl, by rw [← HY.out]; exact HO.out, HB.out⟩
end Go.Proofs.Ytejnghnmmeiioaa
