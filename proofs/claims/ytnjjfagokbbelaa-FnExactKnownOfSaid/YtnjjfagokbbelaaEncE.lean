/- A list of extensions is written: by the program. -/
import Derived.Test.YtnjjfagokbbelaaAre
import Derived.Test.YtnjjfagokbbelaaRfI
namespace Go.Proofs.Ytnjjfagokbbelaa
open Go.ChangeShapes Go.WideShapes Go.ChangeAt Go.RowKit
set_option linter.unusedVariables false
set_option linter.unusedSimpArgs false

def encW (l : List Vl) : List Int := if areX l = true then encX l else []
theorem encW_yes {l : List Vl} (h : areX l = true) : encW l = encX l := if_pos h
theorem encW_no {l : List Vl} (h : areX l = false) : encW l = [] := if_neg (by rw [h]; decide)
theorem encW_few (l : List Vl) : (encW l).length ≤ 37 := by
  cases h : areX l with
  | true => rw [encW_yes h]; exact encX_few h
  | false => rw [encW_no h]; simp
/-- What is left by a function that writes extensions. -/
def EncXT (tI : TypeId) (l : List Vl) (w : World) (e : Ending) (w' : World) : Prop :=
  ∃ q m d, e = .returned (.tuple #[.slice q m d, .bool (areX l)]) ∧ Own .i64 tI w' w.heap.size q m d (encW l) ∧ Below w.heap.size w w'
theorem Own.take_len {k : IntKind} {t : TypeId} {w : World} {B n c : Nat} {a : Option Addr} {l : List Int} (h : Own k t w B a n c l) {l' : List Int} (e : l = l') : Own k t w B a n c l' := by rw [← e]; exact h
set_option maxHeartbeats 4000000 in
set_option maxRecDepth 100000 in
theorem encodeExts_any {a : Option Addr} {n c : Nat} {l : List Vl} {w : World} (h : Vals w a n l) :
    Calls Try.prog 13 #[.slice a n c] w (EncXT 3 l w) := by
  have H := Lib.hid h
  have hln := Lib.hid h.len
  have hfit := h.fits
  obtain ⟨i0, hi, hz0, hz1, hz2⟩ := info_parts infoIntS
  have HI := Lib.hid (And.intro hi (And.intro hz0 (And.intro hz1 hz2)))
  clear hi hz0 hz1 hz2 h
  have HA := Lib.hid (areExts_any (c := c) (H.out.same (alloc_same w (.cells #[] 3))))
  have HO0 : Hid (Own .i64 3 (w.alloc (.cells #[] 3)) w.heap.size (some ⟨w.heap.size, 0, none⟩) 0 0 []) := Lib.hid (Own.empty (Nat.le_refl _))
  have HB0 : Hid (Below w.heap.size w (w.alloc (.cells #[] 3))) := Lib.hid (alloc_same _ _)
  unfold EncXT
  cases har : areX l with
  | false =>
    rw [har] at HA
    rw [encW_no har]
    clear har
    go_enter Try.func13, Try.ntmps13
    go_wp2_with fail
    refine HA.out.mono ?_
    rintro e w1 ⟨rfl, hb1⟩
    have HB1 := Lib.hid (HB0.out.trans (hb1.mono HB0.out.size))
    have HO1 := Lib.hid (HO0.out.same hb1)
    clear hb1 HA
    go_wp2_with fail
    go_ret2
    exact ⟨_, _, _, rfl, HO1.out, HB1.out⟩
  | true =>
    rw [har] at HA
    rw [encW_yes har]
    obtain ⟨hn6, hit⟩ := areX_few har
    rw [hln.out] at hn6
    clear har
    go_enter Try.func13, Try.ntmps13
    go_wp2_with fail
    refine HA.out.mono ?_
    rintro e w1 ⟨rfl, hb1⟩
    have HB1 := Lib.hid (HB0.out.trans (hb1.mono HB0.out.size))
    have HO1 := Lib.hid (HO0.out.same hb1)
    have hs1 := HB1.out.size
    clear hb1 HA
    go_wp2_with (at_builtin; refine wpl_app _ rfl (.tmp 12) (.tmp 15) 26 rfl .i64 3 i0 (.int .i64 0) 8 Try.underlying26 HI.out.1 HI.out.2.1 HI.out.2.2.1 HI.out.2.2.2 rfl rfl (HO1.out.alloc _) rfl (nums_new _ _ _ _) (by omega) ?c1 ?c2 ?_)
    case c1 => omega
    case c2 => simp; omega
    intro a2 c2 w2 ho2 hb2
    have HO2 : Hid (Own .i64 3 w2 w.heap.size a2 1 c2 ((n : Int) :: codesX (l.take 0))) := Lib.hid ho2
    have HB2 : Hid (Below w.heap.size w w2) := Lib.hid (HB1.out.trans (((alloc_same _ _).mono hs1).trans hb2))
    clear ho2 hb2
    go_wp2_with fail
    go_loopw [4, 19] (fun v i wr => ∃ (j : Nat) (q : Option Addr) (r e : Nat), j ≤ n ∧ i = .int .i64 j ∧ v = .slice q r e ∧ Own .i64 3 wr w.heap.size q r e ((n : Int) :: codesX (l.take j)) ∧ Below w.heap.size w wr) (fun _ i _ => n - (intOf i).toNat)
    case atStart => exact ⟨0, _, _, _, Nat.zero_le _, rfl, rfl, HO2.out, HB2.out⟩
    case round =>
      obtain ⟨j, q, r, e, hj, rfl, rfl, hown, hb⟩ := hrel
      have HOr := Lib.hid hown
      have HBr := Lib.hid hb
      clear hown hb
      by_cases hlt : j < n
      · obtain ⟨bb, o, p, pm, pd, k, y, rfl, hx, hd0, hd1, hN, hr⟩ := H.out.at_ hlt
        have hc0 := cell_stay hd0 HBr.out
        have hc1 := cell_stay hd1 HBr.out
        have hsz := HBr.out.size
        have hym := hN.len
        have hyi := itemsOf_mem hx
        dsimp only at hyi
        have hpm : pm ≤ 24 := by omega
        have hrl : r ≤ 37 := by
          have h1 := HOr.out.len
          have h2 := itemsOf_le l j
          rw [List.length_cons, codesX_len, List.length_take] at h1
          omega
        have HX : Hid ((n : Int) :: codesX (l.take (j + 1)) = ((n : Int) :: codesX (l.take j) ++ [k]) ++ ((pm : Int) :: y)) := Lib.hid (by rw [codesX_take hx]; simp [codeX, hym])
        have hb0 := alloc_same wr (.cells #[.int .i64 k, .slice p pm pd] 57)
        have hw0 := heap_alloc_new wr (.cells #[.int .i64 k, .slice p pm pd] 57)
        have C0 := Lib.hid ((block_cell hw0 0).trans rfl)
        have C1 := Lib.hid ((block_cell hw0 1).trans rfl)
        have HBW := Lib.hid (HBr.out.trans (hb0.mono hsz))
        have HOW := Lib.hid (HOr.out.same hb0)
        have HOFF := Lib.hid (own_off (n := r) (c := e) HOr.out.span (Nat.le_refl _))
        have HV : Hid (∀ w9, Below w.heap.size w w9 → Nums .i64 w9 p pm y) := Lib.hid (fun w9 h9 => hN.same h9)
        clear hx hN hb0 hw0 hym hyi hd0 hd1
        go_wp2_with fail
        have hlt0 : wr.heap.size < (wr.alloc (.cells #[.int .i64 k, .slice p pm pd] 57)).heap.size := by simp
        generalize wr.alloc (.cells #[.int .i64 k, .slice p pm pd] 57) = W0 at *
        have HQ : Hid (Below W0.heap.size W0 (W0.alloc (.cells #[.int .i64 k] 3)).drew) := Lib.hid (alloc_same _ _).drew
        have HOQ : Hid (Own .i64 3 (W0.alloc (.cells #[.int .i64 k] 3)).drew w.heap.size q r e ((n : Int) :: codesX (l.take j))) := Lib.hid (HOW.out.same HQ.out)
        have HNQ : Hid (Nums .i64 (W0.alloc (.cells #[.int .i64 k] 3)).drew (some ⟨W0.heap.size, 0, none⟩) 1 [k]) := Lib.hid ((nums_new _ _ _ _).same (Below.refl _ _).drew)
        have hsW : w.heap.size ≤ W0.heap.size := HBW.out.size
        have HBQ : Hid (Below w.heap.size w (W0.alloc (.cells #[.int .i64 k] 3)).drew) := Lib.hid (HBW.out.trans (HQ.out.mono hsW))
        have hsQ : w.heap.size ≤ (W0.alloc (.cells #[.int .i64 k] 3)).drew.heap.size := HBQ.out.size
        have hltQ : wr.heap.size < (W0.alloc (.cells #[.int .i64 k] 3)).drew.heap.size := Nat.lt_of_lt_of_le hlt0 HQ.out.size
        go_region_held3 (fun w9 => w9.cell? ⟨wr.heap.size, 0, none⟩ = some (.int .i64 k) ∧ w9.cell? ⟨wr.heap.size, 1, none⟩ = some (.slice p pm pd)) (first | exact ⟨cell_stay C0.out (Below.refl _ _).drew, cell_stay C1.out (Below.refl _ _).drew⟩ | exact ⟨cell_stay C0.out HQ.out, cell_stay C1.out HQ.out⟩ | exact HC3.out | exact HC4.out) ((first | (refine step_app_g _ (by rfl) (.tmp 23) (.tmp 26) 26 (by rfl) .i64 3 i0 (.int .i64 0) 8 Try.underlying26 HI.out.1 HI.out.2.1 HI.out.2.2.1 HI.out.2.2.2 rfl (by rfl) HOQ.out (by rfl) HNQ.out (by omega) (by omega) hsQ ?_; intro a3 c3 w3 ho3 hg3 hl3; have HO3 := Lib.hid ho3; have HB3 : Hid (Below w.heap.size w w3) := Lib.hid (grown_to hg3 HBQ.out HOQ.out.span (Nat.le_refl _) hsQ); have HC3 := Lib.hid (And.intro (cell_off (cell_stay C0.out HQ.out) hg3 HOFF.out) (cell_off (cell_stay C1.out HQ.out) hg3 HOFF.out)); have HOFF3 := Lib.hid (off3 (n' := r + 1) (c' := c3) HOFF.out hl3 hltQ); have hs3 : w.heap.size ≤ w3.heap.size := HB3.out.size; clear ho3 hg3 hl3) | (go_at_call 48; refine (writeItems_any w.heap.size a3 (r + 1) c3 _ 0 p pm pd y w3 HO3.out (fun w9 h9 => HV.out w9 (HB3.out.trans h9)) hs3 (by omega) (by omega)).mono ?_; rintro e4 w4 ⟨a4, n4, c4, rfl, ho4, hg4⟩; have HO4 := Lib.hid ho4; have HB4 : Hid (Below w.heap.size w w4) := Lib.hid (grown_to hg4 HB3.out HO3.out.span (Nat.le_refl _) hs3); have HC4 := Lib.hid (And.intro (cell_off HC3.out.1 hg4 HOFF3.out) (cell_off HC3.out.2 hg4 HOFF3.out)); clear ho4 hg4)))
        go_wp2_with fail
        go_roundw
        case rel => exact ⟨j + 1, a4, n4, c4, by omega, by go_num, rfl, by rw [HX.out]; exact HO4.out, HB4.out⟩
        case measure => simp [intOf]; omega
      · obtain rfl : j = n := by omega
        go_wp2_with fail
        go_ret2
        have h1 := HOr.out
        rw [List.take_of_length_le (by rw [hln.out]; omega)] at h1
        refine ⟨_, _, _, rfl, h1.take_len ?_, HBr.out⟩
        unfold encX
        rw [hln.out]
end Go.Proofs.Ytnjjfagokbbelaa
