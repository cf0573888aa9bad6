/- The draws of chapter 3: some values under a key, a label under a key. -/
import Derived.Test.YtnkbahnhngajfaaWord
import Derived.Test.YtnkbahnhngajfaaIntS
namespace Go.Proofs.Ytnkbahnhngajfaa
open Go.ChangeShapes Go.WideShapes Go.ChangeAt Go.RowKit
set_option linter.unusedVariables false

def Words (l : List Int) : Prop := ∀ x ∈ l, Word x
theorem Words.nil : Words [] := fun _ h => by cases h
theorem Words.snoc {l : List Int} {x : Int} (h : Words l) (hx : Word x) : Words (l ++ [x]) := by
  intro y hy
  rcases List.mem_append.1 hy with h1 | h1
  · exact h y h1
  · rw [List.mem_singleton.1 h1]; exact hx
def DrewWords (b : Nat) (a : Option Addr) (n c : Nat) (w : World) (e : Ending) (w' : World) : Prop :=
  ∃ (a' : Option Addr) (n' c' : Nat) (l : List Int), e = .returned (.slice a' n' c') ∧ Own .i64 3 w' w.heap.size a' n' c' l ∧ Words l ∧ n' ≤ 4 ∧ Drawn b a n c w w'

set_option maxRecDepth 100000 in
theorem words_any (b : Nat) (a : Option Addr) (n c : Nat) (w : World) (hc : Curs w b a n c) :
    Calls Try.prog 47 #[.pointer (some ⟨b, 0, none⟩)] w (DrewWords b a n c w) := by
  have hblt := hc.lt
  have H := Lib.hid hc
  clear hc
  obtain ⟨i0, hi, hz0, hz1, hz2⟩ := info_parts infoIntS
  have HI := Lib.hid (And.intro hi (And.intro hz0 (And.intro hz1 hz2)))
  clear hi hz0 hz1 hz2
  go_enter Try.func47, Try.ntmps47
  go_wp2_with fail
  refine (below_any b a n c 5 (by omega) (by omega) _ (H.out.same (alloc_same _ _))).mono ?_
  rintro e w0 ⟨y, hy0, hy1, rfl, hd0⟩
  obtain ⟨m, rfl⟩ : ∃ m : Nat, y = m := ⟨y.toNat, by omega⟩
  have hs0 : w.heap.size ≤ w0.heap.size := Nat.le_trans (by simp) hd0.2.size
  have HO0 : Hid (Own .i64 3 w0 w.heap.size (some ⟨w.heap.size, 0, none⟩) 0 0 []) := Lib.hid ((Own.empty (Nat.le_refl _)).only hd0.2 (lo := w.heap.size) (hi := w.heap.size + 1) (fun ad e => by cases e; exact ⟨Nat.le_refl _, Nat.lt_succ_self _⟩) (Or.inl hblt))
  have HD0 : Hid (Drawn b a n c w w0) := Lib.hid ⟨hd0.1, ((Only.refl b w).alloc _).trans hd0.2⟩
  clear hd0
  go_wp2
  go_loopw [3, 4] (fun v i wr => ∃ (a' : Option Addr) (c' j r : Nat) (l : List Int), v = .slice a' j c' ∧ i = .int .i64 r ∧ j + r = m ∧ w.heap.size ≤ wr.heap.size ∧ Own .i64 3 wr w.heap.size a' j c' l ∧ Words l ∧ Drawn b a n c w wr) (fun _ i _ => (intOf i).toNat)
  case atStart => exact ⟨_, 0, 0, m, [], rfl, rfl, by omega, hs0, HO0.out, Words.nil, HD0.out⟩
  case round =>
    obtain ⟨a', c', j, r, l, rfl, rfl, hj, hsz, ho, hB, hd⟩ := hrel
    have HO := Lib.hid ho
    have HS := Lib.hid ho.span
    have HBs := Lib.hid hB
    have HD := Lib.hid hd
    clear ho hB hd
    by_cases hlt : 0 < r
    · go_wp2_with fail
      refine (word_any b a n c _ HD.out.1).mono ?_
      rintro e w1 ⟨x, rfl, hx, hd1⟩
      have hs1 : wr.heap.size ≤ w1.heap.size := hd1.2.size
      have HO1 := Lib.hid (HO.out.only hd1.2 HS.out (Or.inl hblt))
      have HD1 := Lib.hid (HD.out.trans hd1)
      have HX := Lib.hid hx
      clear hd1 hx
      go_wp2_with (at_builtin; refine wpl_app _ rfl (.tmp 12) (.tmp 15) 28 rfl .i64 3 i0 (.int .i64 0) 8 Try.underlying28 HI.out.1 HI.out.2.1 HI.out.2.2.1 HI.out.2.2.2 rfl rfl (HO1.out.alloc _) rfl (nums_new _ _ _ _) (by omega) ?c1 ?c2 ?_)
      case c1 => omega
      case c2 => simp; omega
      intro a2 c2 w2 ho2 hb2
      have hs2 : w1.heap.size + 1 ≤ w2.heap.size := by have := hb2.size; simpa using this
      have HO2 := Lib.hid ho2
      have HB2 := Lib.hid hb2
      clear ho2 hb2
      go_wp2
      go_roundw
      case rel => exact ⟨a2, c2, j + 1, r - 1, _, rfl, by go_num, by omega, by omega, HO2.out, HBs.out.snoc HX.out, (HD1.out.same (alloc_same _ _)).under H.out HB2.out (Nat.le_refl _)⟩
      case measure => simp [intOf]; omega
    · obtain rfl : r = 0 := by omega
      go_wp2
      go_ret
      exact ⟨a', j, c', l, rfl, HO.out, HBs.out, by omega, HD.out⟩

set_option maxRecDepth 100000 in
theorem drawKeyedHash_any (a : Option Addr) (n c : Nat) (w : World) (hc : Code w a n) :
    Calls Try.prog 17 #[.slice a n c] w fun e w' => ∃ (k : Int) (a' : Option Addr) (n' c' : Nat) (l : List Int), e = .returned (.tuple #[.int .i64 k, .slice a' n' c']) ∧ Own .i64 3 w' w.heap.size a' n' c' l ∧ Words l ∧ n' ≤ 4 ∧ Word k ∧ Below w.heap.size w w' := by
  have H := Lib.hid hc
  clear hc
  go_enter Try.func17, Try.ntmps17
  go_wp2_with fail
  refine (new_any a n c H.out.2 _ H.out.1).mono ?_
  rintro e w1 ⟨rfl, hc1, hb1⟩
  have hlt := hc1.lt
  have H1 := Lib.hid hc1
  have HB := Lib.hid hb1
  clear hc1 hb1
  go_wp2_with fail
  refine (word_any w.heap.size a n c _ H1.out).mono ?_
  rintro e w2 ⟨k, rfl, hk, hd2⟩
  have hs2 : w1.heap.size ≤ w2.heap.size := hd2.2.size
  have HW := Lib.hid hk
  have H2 := Lib.hid hd2
  clear hd2 hk
  go_wp2_with fail
  refine (words_any w.heap.size a n c _ H2.out.1).mono ?_
  rintro e w3 ⟨a3, n3, c3, l, rfl, ho, hws, hn3, hd3⟩
  have HO3 := Lib.hid ho
  have HWs := Lib.hid hws
  have H3 := Lib.hid (H2.out.trans hd3)
  clear ho hws hd3
  go_wp2_with fail
  go_ret2
  exact ⟨k, a3, n3, c3, l, rfl, HO3.out.lower (by omega), HWs.out, hn3, HW.out, HB.out.trans (H3.out.below (Nat.le_refl _) HB.out.size)⟩

set_option maxRecDepth 100000 in
theorem str_any (b : Nat) (a : Option Addr) (n c : Nat) (lb m : Nat) (hm : 1 ≤ m) (hm2 : (m : Int) ≤ 9223372036854775807) (w : World) (hc : Curs w b a n c) (hlb : lb ≠ b)
    (hz : ∀ j, j < m → ∃ s : ByteArray, s.size ≤ 100 ∧ w.cell? ⟨lb, j, none⟩ = some (.string s)) :
    Calls Try.prog 51 #[.pointer (some ⟨b, 0, none⟩), .slice (some ⟨lb, 0, none⟩) m m] w fun e w' => ∃ s : ByteArray, s.size ≤ 100 ∧ e = .returned (.string s) ∧ Drawn b a n c w w' := by
  have H := Lib.hid hc
  have HZ := Lib.hid hz
  clear hc hz
  go_enter Try.func51, Try.ntmps51
  go_wp2_with fail
  refine (below_any b a n c m (by omega) hm2 _ H.out).mono ?_
  rintro e w1 ⟨x, hx0, hx1, rfl, hd1⟩
  obtain ⟨k, rfl⟩ : ∃ k : Nat, x = k := ⟨x.toNat, by omega⟩
  obtain ⟨s, hs, hcs⟩ := HZ.out k (by omega)
  have hcell : w1.cell? ⟨lb, k, none⟩ = some (.string s) := by
    rw [hd1.2.cell (cell_in hcs) hlb]
    exact hcs
  have H1 := Lib.hid hd1
  clear hd1 hcs
  go_wp2_with fail
  go_ret
  exact ⟨s, hs, rfl, H1.out⟩
end Go.Proofs.Ytnkbahnhngajfaa
