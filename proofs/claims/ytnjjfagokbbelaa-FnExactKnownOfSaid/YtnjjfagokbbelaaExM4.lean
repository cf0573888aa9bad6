/- A list of extensions is written: by the model. -/
import Derived.Test.YtnjjfagokbbelaaExM2
import Derived.Test.YtnjjfagokbbelaaEncE
import Derived.Deep.RegionHeld3
namespace Go.Proofs.Ytnjjfagokbbelaa
open Go.ChangeShapes Go.WideShapes Go.ChangeAt Go.RowKit
set_option linter.unusedVariables false
set_option linter.unusedSimpArgs false

theorem nums_pair (w : World) (x z : Int) (t : TypeId) : Nums .i64 (w.alloc (.cells #[.int .i64 x, .int .i64 z] t)) (some ⟨w.heap.size, 0, none⟩) 2 [x, z] :=
  ⟨rfl, by omega, fun j hj => by
    have h0 := heap_alloc_new w (.cells #[.int .i64 x, .int .i64 z] t)
    refine ⟨_, rfl, ?_⟩
    rw [addr_zero, block_cell h0]
    rcases (show j = 0 ∨ j = 1 by omega) with rfl | rfl <;> rfl⟩
theorem own_oneE (w : World) (x : Int) (t : TypeId) : Own .i64 t (w.alloc (.cells #[.int .i64 x] t)) w.heap.size (some ⟨w.heap.size, 0, none⟩) 1 1 [x] :=
  ⟨rfl, World.ownsRow_lit w #[.int .i64 x] 1 (Nat.le_refl _) (by unfold maxLen; omega) rfl⟩
set_option maxHeartbeats 4000000 in
set_option maxRecDepth 100000 in
theorem specEncodeExts_any {a : Option Addr} {n c : Nat} {l : List Vl} {w : World} (h : Vals w a n l) :
    Calls Try.prog 55 #[.slice a n c] w (EncXT 3 l w) := by
  have H := Lib.hid h
  have hln := Lib.hid h.len
  have hfit := h.fits
  obtain ⟨i0, hi, hz0, hz1, hz2⟩ := info_parts infoIntS
  have HI := Lib.hid (And.intro hi (And.intro hz0 (And.intro hz1 hz2)))
  clear hi hz0 hz1 hz2 h
  have HA := Lib.hid (specAreExts_any (c := c) H.out)
  unfold EncXT
  cases har : areX l with
  | false =>
    rw [har] at HA
    rw [encW_no har]
    clear har
    go_enter Try.func55, Try.ntmps55
    go_wp2_with fail
    refine HA.out.mono ?_
    rintro e w1 ⟨rfl, rfl⟩
    go_wp2_with fail
    go_ret2
    exact ⟨_, _, _, rfl, Own.empty (Nat.le_refl _), alloc_same _ _⟩
  | true =>
    rw [har] at HA
    rw [encW_yes har]
    obtain ⟨hn6, hit⟩ := areX_few har
    rw [hln.out] at hn6
    clear har
    have HO2 : Hid (Own .i64 3 (w.alloc (.cells #[.int .i64 (n : Int)] 3)) w.heap.size (some ⟨w.heap.size, 0, none⟩) 1 1 ((n : Int) :: codesX (l.take 0))) := Lib.hid (own_oneE w n 3)
    go_enter Try.func55, Try.ntmps55
    go_wp2_with fail
    refine HA.out.mono ?_
    rintro e w1 ⟨rfl, rfl⟩
    go_wp2_with fail
    go_loopw [4, 5] (fun v i wr => ∃ (j : Nat) (q : Option Addr) (r e : Nat), j ≤ n ∧ i = .int .i64 j ∧ v = .slice q r e ∧ Own .i64 3 wr w.heap.size q r e ((n : Int) :: codesX (l.take j)) ∧ Below w.heap.size w wr) (fun _ i _ => n - (intOf i).toNat)
    case atStart => exact ⟨0, _, _, _, Nat.zero_le _, rfl, rfl, HO2.out, alloc_same _ _⟩
    case round =>
      obtain ⟨j, q, r, e, hj, rfl, rfl, hown, hb⟩ := hrel
      have HOr := Lib.hid hown
      have HBr := Lib.hid hb
      clear hown hb
      by_cases hlt : j < n
      · obtain ⟨bb, o, p, pm, pd, k, y, rfl, hx, hd0, hd1, hN, hr⟩ := H.out.at_ hlt
        have hsz := HBr.out.size
        have hym := hN.len
        have hyi := itemsOf_mem hx
        dsimp only at hyi
        have hpm : pm ≤ 24 := by omega
        have hrl : r ≤ 37 := by
          have h1 := HOr.out.len
          have h2 := itemsOf_le l j
          rw [List.length_cons, codesX_len, List.length_take] at h1
          omega
        have HX : Hid ((n : Int) :: codesX (l.take (j + 1)) = (n : Int) :: (codesX (l.take j) ++ k :: (pm : Int) :: y)) := Lib.hid (by rw [codesX_take hx]; simp [codeX, hym])
        have HSK : Hid (∀ w9, Below w.heap.size w w9 → w9.cell? ⟨bb, o + j * 2, none⟩ = some (.int .i64 k) ∧ w9.cell? ⟨bb, o + j * 2 + 1, none⟩ = some (.slice p pm pd)) := Lib.hid (fun w9 h9 => ⟨cell_stay hd0 h9, cell_stay hd1 h9⟩)
        obtain ⟨hc0, hc1⟩ := HSK.out wr HBr.out
        have HN := Lib.hid (fun w9 (h9 : Below w.heap.size w w9) => hN.same h9)
        clear hx hN hym hyi hd0 hd1
        have HBd : Hid (Below w.heap.size w wr.drew) := Lib.hid HBr.out.drew
        have HQ : Hid (Below wr.heap.size wr (wr.alloc (.cells #[.int .i64 k, .int .i64 (pm : Int)] 3)).drew) := Lib.hid (alloc_same _ _).drew
        have HOQ : Hid (Own .i64 3 (wr.alloc (.cells #[.int .i64 k, .int .i64 (pm : Int)] 3)).drew w.heap.size q r e ((n : Int) :: codesX (l.take j))) := Lib.hid (HOr.out.same HQ.out)
        have HNQ : Hid (Nums .i64 (wr.alloc (.cells #[.int .i64 k, .int .i64 (pm : Int)] 3)).drew (some ⟨wr.heap.size, 0, none⟩) 2 [k, (pm : Int)]) := Lib.hid ((nums_pair _ _ _ _).same (Below.refl _ _).drew)
        have HBQ : Hid (Below w.heap.size w (wr.alloc (.cells #[.int .i64 k, .int .i64 (pm : Int)] 3)).drew) := Lib.hid (HBr.out.trans (HQ.out.mono hsz))
        have hsQ : w.heap.size ≤ (wr.alloc (.cells #[.int .i64 k, .int .i64 (pm : Int)] 3)).drew.heap.size := HBQ.out.size
        go_wp2_with fail
        go_region_held3 (fun w9 => w9.cell? ⟨bb, o + j * 2, none⟩ = some (.int .i64 k) ∧ w9.cell? ⟨bb, o + j * 2 + 1, none⟩ = some (.slice p pm pd)) (first | exact HSK.out _ HBd.out | exact HSK.out _ HBQ.out | exact HSK.out _ HB3.out) ((first | (refine step_app_g _ (by rfl) (.tmp 19) (.tmp 31) 26 (by rfl) .i64 3 i0 (.int .i64 0) 8 Try.underlying26 HI.out.1 HI.out.2.1 HI.out.2.2.1 HI.out.2.2.2 rfl (by rfl) HOQ.out (by rfl) HNQ.out (by omega) (by omega) hsQ ?_; intro a3 c3 w3 ho3 hg3 hl3; have HO3 := Lib.hid ho3; have HB3 : Hid (Below w.heap.size w w3) := Lib.hid (grown_to hg3 HBQ.out HOQ.out.span (Nat.le_refl _) hsQ); have hs3 : w.heap.size ≤ w3.heap.size := HB3.out.size; obtain ⟨he0, he1⟩ := HSK.out w3 HB3.out; clear ho3 hg3 hl3)))
        go_wp2_with (at_builtin; refine wpl_app _ rfl (.tmp 33) (.tmp 38) 26 rfl .i64 3 i0 (.int .i64 0) 8 Try.underlying26 HI.out.1 HI.out.2.1 HI.out.2.2.1 HI.out.2.2.2 rfl rfl HO3.out rfl (HN.out _ HB3.out) (by omega) ?c1 ?c2 ?_)
        case c1 => omega
        case c2 => exact hs3
        intro a4 c4 w4 ho4 hb4
        have HO4 := Lib.hid ho4
        have HB4 : Hid (Below w.heap.size w w4) := Lib.hid (HB3.out.trans hb4)
        clear ho4 hb4
        go_wp2_with fail
        go_roundw
        case rel => exact ⟨j + 1, a4, _, c4, by omega, by go_num, rfl, by rw [HX.out]; exact HO4.out, HB4.out⟩
        case measure => simp [intOf]; omega
      · obtain rfl : j = n := by omega
        go_wp2_with fail
        go_ret2
        have h1 := HOr.out
        rw [List.take_of_length_le (by rw [hln.out]; omega)] at h1
        refine ⟨_, _, _, rfl, h1.take_len ?_, HBr.out⟩
        unfold encX
        rw [hln.out]
end Go.Proofs.Ytnjjfagokbbelaa
