/- The extensions whose tags are asked for, by the program: what it asks is a function that may have captured a variable. -/
import Derived.Test.YtnjjfagokbbelaaKn0
namespace Go.Proofs.Ytnjjfagokbbelaa
open Go.ChangeShapes Go.WideShapes Go.ChangeAt Go.RowKit
set_option linter.unusedVariables false
set_option linter.unusedSimpArgs false

set_option maxHeartbeats 4000000 in
set_option maxRecDepth 100000 in
theorem extsWhereK_any (f : Int → Bool) (P : Nat) {a : Option Addr} {n c : Nat} {l : List Vl} {w : World} (h : Vals w a n l) (hz : ∀ z ∈ tagsX l, (Lit.int .i64 z).wf = true)
    (hA : ∀ (k : Int) (W : World), (Lit.int .i64 k).wf = true → Below w.heap.size w W → Calls Try.prog 62 #[.int .i64 k, .pointer (some ⟨P, 0, none⟩)] W (Told (.bool (f k)) W)) (hn : n ≤ 1048576) (hit : itemsOf l ≤ 1048576) :
    Calls Try.prog 61 #[.slice a n c, .func (.func 62) #[] #[.pointer (some ⟨P, 0, none⟩)]] w (MadeV 57 3 w.heap.size (whX f l) w) := by
  have H := Lib.hid h
  have hln := Lib.hid h.len
  have HZ := Lib.hid hz
  have HA := Lib.hid hA
  obtain ⟨i0, hi, hz0, hz1, hz2⟩ := info_parts infoExtS
  have HI := Lib.hid (And.intro hi (And.intro hz0 (And.intro hz1 hz2)))
  have HO : Hid (OwnV 57 3 (w.alloc (.cells #[] 57)) w.heap.size (some ⟨w.heap.size, 0, none⟩) 0 0 (whX f (l.take 0))) := Lib.hid (OwnV.empty (Nat.le_refl _))
  clear h hz hA hi hz0 hz1 hz2
  go_enter Try.func61, Try.ntmps61
  go_wp2_with fail
  go_loopw [5, 11] (fun v i wr => ∃ (j : Nat) (q : Option Addr) (r e : Nat), j ≤ n ∧ i = .int .i64 j ∧ v = .slice q r e ∧ OwnV 57 3 wr w.heap.size q r e (whX f (l.take j)) ∧ Below w.heap.size w wr) (fun _ i _ => n - (intOf i).toNat)
  case atStart => exact ⟨0, _, _, _, Nat.zero_le _, rfl, rfl, HO.out, alloc_same _ _⟩
  case round =>
    obtain ⟨j, q, r, e, hj, rfl, rfl, hown, hb⟩ := hrel
    have HO2 := Lib.hid hown
    have HB2 := Lib.hid hb
    clear hown hb
    by_cases hlt : j < n
    · obtain ⟨bb, o, p, pm, pd, k, y, rfl, hx, hc0, hc1, hN, hr⟩ := (H.out.same HB2.out).at_ hlt
      have hsz := HB2.out.size
      have hym := hN.len
      have hyi := itemsOf_mem hx
      dsimp only at hyi
      have hrl : r ≤ 1048576 := by
        have h1 := HO2.out.len
        have h2 := wh_few f (l.take j)
        rw [List.length_take] at h2
        omega
      have HW : Hid (Below wr.heap.size wr (wr.alloc (.cells #[.int .i64 k, .slice p pm pd] 57))) := Lib.hid (alloc_same _ _)
      have HWc : Hid ((wr.alloc (.cells #[.int .i64 k, .slice p pm pd] 57)).cell? ⟨wr.heap.size, 0, none⟩ = some (.int .i64 k) ∧ (wr.alloc (.cells #[.int .i64 k, .slice p pm pd] 57)).cell? ⟨wr.heap.size, 1, none⟩ = some (.slice p pm pd)) := Lib.hid ⟨block_cell (heap_alloc_new wr _) 0, block_cell (heap_alloc_new wr _) 1⟩
      have hs2 : wr.heap.size ≤ (wr.alloc (.cells #[.int .i64 k, .slice p pm pd] 57)).heap.size := HW.out.size
      have HK := Lib.hid (HA.out k (wr.alloc (.cells #[.int .i64 k, .slice p pm pd] 57)) (HZ.out k (tags_mem hx)) (HB2.out.trans (HW.out.mono hsz)))
      have HNp := Lib.hid hN
      cases hk : f k with
      | true =>
        have HF : Hid (whX f (l.take (j + 1)) = whX f (l.take j) ++ [⟨k, y⟩]) := Lib.hid (wh_yes hx hk)
        rw [hk] at HK
        clear hx hN hk
        go_wp2_with fail
        refine HK.out.mono ?_
        rintro e2 w2 ⟨rfl, hb2⟩
        have HB3 : Hid (Below wr.heap.size wr w2) := Lib.hid (HW.out.trans (hb2.mono hs2))
        have c0 := cell_stay HWc.out.1 hb2
        have c1 := cell_stay HWc.out.2 hb2
        have hs3 := HB3.out.size
        have HC := Lib.hid (copyExt_any k p pm pd y w2 (HNp.out.same HB3.out) (by omega))
        unfold MadeX at HC
        clear hb2 HK
        go_wp2_with fail
        refine HC.out.mono ?_
        rintro e3 w3 ⟨q3, m3, d3, rfl, ho3, hb3⟩
        have HO3 := Lib.hid ho3
        have HB4 := Lib.hid (HB3.out.trans (hb3.mono hs3))
        have hs4 := HB4.out.size
        have HNN : Hid (Items Vh.enc 2 (w3.alloc (.cells #[.int .i64 k, .slice q3 m3 d3] 57)) (some ⟨w3.heap.size, 0, none⟩) 1 [⟨k, q3, m3, d3⟩]) := Lib.hid (items_new Vh.enc_len w3 ⟨k, q3, m3, d3⟩ 57)
        clear hb3 hc0 hc1 ho3 c0 c1
        go_wp2_with (at_builtin; refine wpl_appV (S := wr.heap.size) (B := w.heap.size) _ rfl (.tmp 19) (.tmp 22) 24 rfl 57 3 i0 (.agg #[.int .i64 0, .slice none 0 0]) 32 Try.underlying24 HI.out.1 HI.out.2.1 HI.out.2.2.1 HI.out.2.2.2 rfl rfl ((HO2.out.lim.same HB4.out).same (alloc_same _ _)) rfl HNN.out ((HO3.out.lower (by omega)).alloc _) (fun ad e => by have := (HO3.out.span ad e).1; omega) (by omega) ?c4 ?c5 ?_)
        case c4 => omega
        case c5 => simp; omega
        intro a4 c4 w4 ho4 hb4
        have HO4 : Hid (OwnV 57 3 w4 w.heap.size a4 (r + 1) c4 (whX f (l.take (j + 1)))) := Lib.hid (by rw [HF.out]; exact ho4)
        have HB5 : Hid (Below w.heap.size w w4) := Lib.hid ((HB2.out.trans (HB4.out.mono hsz)).trans ((((alloc_same _ _).mono (Nat.le_trans hsz hs4))).trans hb4))
        clear ho4 hb4
        go_wp2_with fail
        go_roundw
        case rel => exact ⟨j + 1, a4, _, c4, by omega, by go_num, rfl, HO4.out, HB5.out⟩
        case measure => simp [intOf]; omega
      | false =>
        have HF : Hid (whX f (l.take (j + 1)) = whX f (l.take j)) := Lib.hid (wh_no hx hk)
        rw [hk] at HK
        clear hx hN hk
        go_wp2_with fail
        refine HK.out.mono ?_
        rintro e2 w2 ⟨rfl, hb2⟩
        have HB3 : Hid (Below wr.heap.size wr w2) := Lib.hid (HW.out.trans (hb2.mono hs2))
        clear hb2 HK
        go_wp2_with fail
        go_roundw
        case rel => exact ⟨j + 1, q, r, e, by omega, by go_num, rfl, by rw [HF.out]; exact HO2.out.same HB3.out, HB2.out.trans (HB3.out.mono hsz)⟩
        case measure => simp [intOf]; omega
    · obtain rfl : j = n := by omega
      go_wp2
      go_ret
      have h1 := HO2.out
      rw [List.take_of_length_le (by rw [hln.out]; omega)] at h1
      exact ⟨_, _, _, rfl, h1, HB2.out⟩
end Go.Proofs.Ytnjjfagokbbelaa
