/- Bytes as integers: what the program makes of a byte string is its length and its bytes. -/
import Derived.Test.YtnkbahnhngajfaaHash2
namespace Go.Proofs.Ytnkbahnhngajfaa
open Go.ChangeShapes Go.WideShapes Go.ChangeAt Go.RowKit
set_option linter.unusedVariables false

set_option maxRecDepth 100000 in
theorem bytesToInts_any (a : Option Addr) (n c : Nat) (l : List Int) (w : World) (h : Nums .u8 w a n l) (hn : n ≤ 1000000000000) (hB : ∀ x ∈ l, 0 ≤ x ∧ x ≤ 255) :
    Calls Try.prog 32 #[.slice a n c] w (Made .i64 3 w.heap.size (b2i l) w) := by
  have hlen := h.len
  have H := Lib.hid h
  have HBs := Lib.hid hB
  clear h hB
  obtain ⟨i0, hi, hz0, hz1, hz2⟩ := info_parts infoIntS
  have HI := Lib.hid (And.intro hi (And.intro hz0 (And.intro hz1 hz2)))
  clear hi hz0 hz1 hz2
  obtain rfl := hlen
  go_enter Try.func32, Try.ntmps32
  go_wp2_with (with_reducible refine wpList_make_own _ rfl (.const (.int .i64 0)) (.tmp 8) 28 rfl w.heap.size 3 i0 (.int .i64 0) 1 Try.underlying28 HI.out.1 HI.out.2.1 HI.out.2.2.1 .i64 .i64 _ (l.length + 1) rfl rfl (by omega) ?c1 ?c2 ?c3 ?_)
  case c1 => rw [HI.out.2.2.2]; omega
  case c2 => unfold maxLen; omega
  case c3 => omega
  intro w1 hown hgrow
  have HO1 : Hid (Own .i64 3 w1 w.heap.size (some ⟨w.heap.size, 0, none⟩) 0 (l.length + 1) []) := Lib.hid ⟨rfl, hown⟩
  have HB1 := Lib.hid ((Below.refl w.heap.size w).grown hgrow (Nat.le_refl _) (fun _ e => by cases e))
  clear hown hgrow
  go_wp2_with (at_builtin; refine wpl_app _ rfl (.tmp 10) (.tmp 13) 28 rfl .i64 3 i0 (.int .i64 0) 8 Try.underlying28 HI.out.1 HI.out.2.1 HI.out.2.2.1 HI.out.2.2.2 rfl rfl (HO1.out.alloc _) rfl (nums_new _ _ _ _) (by omega) ?c4 ?c5 ?_)
  case c4 => omega
  case c5 => have := HB1.out.size; simp; omega
  intro a2 c2 w2 ho2 hb2
  have HO2 : Hid (Own .i64 3 w2 w.heap.size a2 (0 + 1) c2 (b2iTo l 0)) := Lib.hid (by rw [b2iTo_zero]; exact ho2)
  have HB2 := Lib.hid (HB1.out.trans (((alloc_same _ _).mono HB1.out.size).trans hb2))
  clear ho2 hb2
  go_wp2
  go_loopw [3, 17] (fun v i wr => ∃ (a' : Option Addr) (c' j : Nat), v = .slice a' (j + 1) c' ∧ i = .int .i64 j ∧ j ≤ l.length ∧ Own .i64 3 wr w.heap.size a' (j + 1) c' (b2iTo l j) ∧ Below w.heap.size w wr) (fun _ i _ => l.length - (intOf i).toNat)
  case atStart => exact ⟨_, c2, 0, rfl, rfl, Nat.zero_le _, HO2.out, HB2.out⟩
  case round =>
    obtain ⟨a', c', j, rfl, rfl, hj, ho, hb⟩ := hrel
    have HO := Lib.hid ho
    have HB := Lib.hid hb
    clear ho hb
    by_cases hlt : j < l.length
    · obtain ⟨ad, x, rfl, hx, hc⟩ := (H.out.same HB.out).at_ hlt
      obtain ⟨hx0, hx1⟩ := HBs.out x (List.mem_of_getElem? hx)
      have HX := Lib.hid hx
      clear hx
      go_wp2_with (at_builtin; refine wpl_app _ rfl (.tmp 21) (.tmp 24) 28 rfl .i64 3 i0 (.int .i64 0) 8 Try.underlying28 HI.out.1 HI.out.2.1 HI.out.2.2.1 HI.out.2.2.2 rfl rfl (HO.out.alloc _) rfl (nums_new _ _ _ _) (by omega) ?c6 ?c7 ?_)
      case c6 => omega
      case c7 => have := HB.out.size; simp; omega
      intro a3 c3 w3 ho3 hb3
      have HO3 := Lib.hid ho3
      have HB3 := Lib.hid hb3
      clear ho3 hb3
      go_wp2
      go_roundw
      case rel => exact ⟨a3, c3, j + 1, rfl, by go_num, by omega, by rw [← b2iTo_step HX.out]; exact HO3.out, HB.out.trans (((alloc_same _ _).mono HB.out.size).trans HB3.out)⟩
      case measure => simp [intOf]; omega
    · obtain rfl : j = l.length := by omega
      go_wp2
      go_ret
      exact ⟨_, _, _, rfl, by rw [← b2iTo_all l l.length (Nat.le_refl _)]; exact HO.out, HB.out⟩
end Go.Proofs.Ytnkbahnhngajfaa
