/- Extensions without reserved tags, reserved tags in lists, by the model. Out of: The extensions whose tag is in a list: by the model. What a side answers: by the model. A list of extensions is written: by the model. A hello and an answer are written: by the model. -/
import Derived.Test.YtcmjadfpifpknaaGreatG16
import Derived.Test.YtcmjadfpifpknaaGreatG13
import Derived.Deep.RegionHeld3
import Derived.Test.YtcmjadfpifpknaaGreatG25
import Derived.Test.YtcmjadfpifpknaaGreatG27
import Derived.Test.YtcmjadfpifpknaaGreatG26
import Derived.Test.YtcmjadfpifpknaaGreatG18
namespace Go.Proofs.YtcmjadfpifpknaaGreat
open Go.ChangeShapes Go.WideShapes Go.ChangeAt Go.RowKit
set_option linter.unusedVariables false
set_option linter.unusedSimpArgs false

set_option maxHeartbeats 4000000 in
set_option maxRecDepth 100000 in
theorem specStripGrease_any {a : Option Addr} {n c : Nat} {l : List Vl} {w : World} (h : Vals w a n l) (hn : n ≤ 1048576) (hit : itemsOf l ≤ 1048576) :
    Calls Tryz.prog 115 #[.slice a n c] w (MadeV 125 3 w.heap.size (strX l) w) := by
  have H := Lib.hid h
  have hln := Lib.hid h.len
  obtain ⟨i0, hi, hz0, hz1, hz2⟩ := info_parts infoExtS
  have HI := Lib.hid (And.intro hi (And.intro hz0 (And.intro hz1 hz2)))
  obtain ⟨i1, ki, kz0, kz1, kz2⟩ := info_parts infoIntS
  have HJ := Lib.hid (And.intro ki (And.intro kz0 (And.intro kz1 kz2)))
  clear h hi hz0 hz1 hz2 ki kz0 kz1 kz2
  have HO : Hid (OwnV 125 3 (w.alloc (.cells #[] 125)) w.heap.size (some ⟨w.heap.size, 0, none⟩) 0 0 (strX (l.take 0))) := Lib.hid (OwnV.empty (Nat.le_refl _))
  go_enter Tryz.func115, Tryz.ntmps115
  go_wp2_with fail
  go_loopw [3, 4] (fun v i wr => ∃ (j : Nat) (q : Option Addr) (r e : Nat), j ≤ n ∧ i = .int .i64 j ∧ v = .slice q r e ∧ OwnV 125 3 wr w.heap.size q r e (strX (l.take j)) ∧ Below w.heap.size w wr) (fun _ i _ => n - (intOf i).toNat)
  case atStart => exact ⟨0, _, _, _, Nat.zero_le _, rfl, rfl, HO.out, alloc_same _ _⟩
  case round =>
    obtain ⟨j, q, r, e, hj, rfl, rfl, hown, hb⟩ := hrel
    have HO2 := Lib.hid hown
    have HB2 := Lib.hid hb
    clear hown hb
    by_cases hlt : j < n
    · obtain ⟨bb, o, p, pm, pd, k, y, rfl, hx, hd0, hd1, hN, hr⟩ := H.out.at_ hlt
      have hsz := HB2.out.size
      have hym := hN.len
      have hyi := itemsOf_mem hx
      dsimp only at hyi
      have hrl : r ≤ 1048576 := by
        have h1 := HO2.out.len
        have h2 := strX_few (l.take j)
        rw [List.length_take] at h2
        omega
      have hpm : pm ≤ 1048576 := by omega
      have HSK : Hid (∀ w9, Below w.heap.size w w9 → w9.cell? ⟨bb, o + j * 2, none⟩ = some (.int .i64 k) ∧ w9.cell? ⟨bb, o + j * 2 + 1, none⟩ = some (.slice p pm pd)) := Lib.hid (fun w9 h9 => ⟨cell_stay hd0 h9, cell_stay hd1 h9⟩)
      obtain ⟨hc0, hc1⟩ := HSK.out wr HB2.out
      have HN := Lib.hid (fun w9 (h9 : Below w.heap.size w w9) => hN.same h9)
      have KH := Lib.hid ((specIsReserved_any k wr).mono fun e9 w9 ⟨q1, q2⟩ => (⟨q1, q2.symm⟩ : e9 = Ending.returned (.bool (resv k)) ∧ wr = w9))
      by_cases hk : resv k = false
      · have HK : Hid (strX (l.take (j + 1)) = strX (l.take j) ++ [⟨k, y⟩]) := Lib.hid (wh_yes hx (by dsimp only; rw [hk]; rfl))
        rw [hk] at KH
        clear hx hN hk hd0 hd1 hym hyi
        have HBd : Hid (Below w.heap.size w wr.drew) := Lib.hid HB2.out.drew
        have HQ : Hid (Below wr.heap.size wr (wr.alloc (.cells #[] 3)).drew) := Lib.hid (alloc_same _ _).drew
        have HBQ : Hid (Below w.heap.size w (wr.alloc (.cells #[] 3)).drew) := Lib.hid (HB2.out.trans (HQ.out.mono hsz))
        have HOQ : Hid (Own .i64 3 (wr.alloc (.cells #[] 3)).drew wr.heap.size (some ⟨wr.heap.size, 0, none⟩) 0 0 []) := Lib.hid ((Own.empty (Nat.le_refl _)).same (Below.refl _ _).drew)
        have hs2 : wr.heap.size ≤ (wr.alloc (.cells #[] 3)).drew.heap.size := HQ.out.size
        go_wp2_with (go_at_call 124; refine KH.out.mono ?_; rintro e9 w9 ⟨rfl, rfl⟩)
        go_region_held3 (fun w9 => w9.cell? ⟨bb, o + j * 2, none⟩ = some (.int .i64 k) ∧ w9.cell? ⟨bb, o + j * 2 + 1, none⟩ = some (.slice p pm pd)) (first | exact HSK.out _ HBd.out | exact HSK.out _ HBQ.out | exact HSK.out _ HB3.out | exact HSK.out _ HB4.out | exact HSK.out _ HB5.out) ((first | (refine step_app_g _ (by rfl) (.tmp 25) (.tmp 30) 24 (by rfl) .i64 3 i1 (.int .i64 0) 8 Tryz.underlying24 HJ.out.1 HJ.out.2.1 HJ.out.2.2.1 HJ.out.2.2.2 rfl (by rfl) HOQ.out (by rfl) (HN.out _ HBQ.out) (by omega) (by omega) hs2 ?_; intro a3 c3 w3 ho3 hg3 hl3; have HO3 := Lib.hid ho3; have HQ3 : Hid (Below wr.heap.size wr w3) := Lib.hid (grown_to hg3 HQ.out HOQ.out.span (Nat.le_refl _) hs2); have HB3 : Hid (Below w.heap.size w w3) := Lib.hid (HB2.out.trans (HQ3.out.mono hsz)); have hs3 := HQ3.out.size; have HB4 : Hid (Below w.heap.size w (w3.alloc (.cells #[.int .i64 k, .slice a3 pm c3] 125))) := Lib.hid (HB3.out.alloc HB3.out.size _); have HNN : Hid (Items Vh.enc 2 (w3.alloc (.cells #[.int .i64 k, .slice a3 pm c3] 125)) (some ⟨w3.heap.size, 0, none⟩) 1 [⟨k, a3, pm, c3⟩]) := Lib.hid (items_new Vh.enc_len w3 ⟨k, a3, pm, c3⟩ 125); have HO4 : Hid (Own .i64 3 (w3.alloc (.cells #[.int .i64 k, .slice a3 pm c3] 125)) w.heap.size a3 pm c3 y) := Lib.hid (by have h9 := (ho3.lower hsz).alloc (.cells #[.int .i64 k, .slice a3 pm c3] 125); rw [Nat.zero_add] at h9; exact h9); clear ho3 hg3 hl3) | (refine step_appV (S := wr.heap.size) (B := w.heap.size) _ (by rfl) (.tmp 19) (.tmp 33) 25 (by rfl) 125 3 i0 (.agg #[.int .i64 0, .slice none 0 0]) 32 Tryz.underlying25 HI.out.1 HI.out.2.1 HI.out.2.2.1 HI.out.2.2.2 rfl (by rfl) ((HO2.out.lim.same HQ3.out).same (alloc_same _ _)) (by rfl) HNN.out HO4.out (fun ad e => (HO3.out.span ad e).1) (by omega) (by omega) (by simp; omega) ?_; intro a5 c5 w5 ho5 hb5; have HO5 := Lib.hid ho5; have HB5 : Hid (Below w.heap.size w w5) := Lib.hid (HB4.out.trans hb5); clear ho5 hb5)))
        go_wp2_with fail
        go_roundw
        case rel => exact ⟨j + 1, a5, _, c5, by omega, by go_num, rfl, by rw [HK.out]; exact HO5.out, HB5.out⟩
        case measure => simp [intOf]; omega
      · have hk : resv k = true := by simpa using hk
        have HK : Hid (strX (l.take (j + 1)) = strX (l.take j)) := Lib.hid (wh_no hx (by dsimp only; rw [hk]; rfl))
        rw [hk] at KH
        clear hx hN hk hd0 hd1 hym hyi
        go_wp2_with (go_at_call 124; refine KH.out.mono ?_; rintro e9 w9 ⟨rfl, rfl⟩)
        go_roundw
        case rel => exact ⟨j + 1, q, r, e, by omega, by go_num, rfl, by rw [HK.out]; exact HO2.out, HB2.out⟩
        case measure => simp [intOf]; omega
    · obtain rfl : j = n := by omega
      go_wp2
      go_ret
      have h1 := HO2.out
      rw [List.take_of_length_le (by rw [hln.out]; omega)] at h1
      exact ⟨_, _, _, rfl, h1, HB2.out⟩
end Go.Proofs.YtcmjadfpifpknaaGreat
namespace Go.Proofs.YtcmjadfpifpknaaGreat
open Go.ChangeShapes Go.WideShapes Go.ChangeAt Go.RowKit
set_option linter.unusedVariables false
set_option linter.unusedSimpArgs false

set_option maxHeartbeats 4000000 in
set_option maxRecDepth 100000 in
theorem specChoose_odd {a b : Option Addr} {n c m d : Nat} {vs ts : List Int} {v : Value} {x : Hel} {w : World} (h1 : Nums .i64 w a n vs) (h2 : Nums .i64 w b m ts) (h : HelW w v x) (hz : ∀ z ∈ ts, (Lit.int .i64 z).wf = true) (hn : n ≤ 1048576) (hm : m ≤ 1048576) (hx : isH x = false) :
    Calls Tryz.prog 70 #[.slice a n c, .slice b m d, v] w (MadeAnsB w.heap.size ⟨0, []⟩ false w) := by
  have KH := Lib.hid (fun (w0 : World) (hb : Below w.heap.size w w0) => specIsHello_any (h.same hb))
  obtain ⟨va, vn, vc, xa, xn, xc, rfl, g1, g2, g3⟩ := h
  obtain ⟨hsz, hC, hD, hb0⟩ := two w #[.slice va vn vc, .slice xa xn xc] #[.int .i64 0, .slice none 0 0] 27 44
  have HB := Lib.hid hb0
  have KB := Lib.hid (specBestCommon_any (c := c) (d := vc) (h1.same hb0) (g1.same hb0) (by omega))
  have H2 := Lib.hid (And.intro h2 (And.intro g2 hz))
  obtain ⟨B, hB⟩ : ∃ B : Nat, best vs x.vers = B := ⟨_, rfl⟩
  rw [hB] at KB
  have hlw : w.heap.size + 1 < ((w.alloc (.cells #[.slice va vn vc, .slice xa xn xc] 27)).alloc (.cells #[.int .i64 0, .slice none 0 0] 44)).heap.size := by omega
  have HC := Lib.hid hC
  have HD := Lib.hid hD
  clear hb0 hC hD hsz
  rw [hx] at KH
  clear h1 h2 hz g1 g2 g3 hB hx
  go_enter Tryz.func70, Tryz.ntmps70
  go_wp2_with fail
  generalize ((w.alloc (.cells #[.slice va vn vc, .slice xa xn xc] 27)).alloc (.cells #[.int .i64 0, .slice none 0 0] 44)) = W1 at *
  refine KB.out.mono ?_
  rintro e w2 ⟨rfl, hb⟩
  have HB2 := Lib.hid (HB.out.trans (hb.mono HB.out.size))
  have HC2 := Lib.hid ((hb.block w.heap.size (by omega)).trans HC.out)
  have HD2 := Lib.hid ((hb.block (w.heap.size + 1) (by omega)).trans HD.out)
  have hs2 := Nat.lt_of_lt_of_le hlw hb.size
  clear hb
  obtain ⟨x0, x1, _, _⟩ := two_cells HC2.out
  go_wp2_with fail
  refine (KH.out _ HB2.out).mono ?_
  rintro e w3 ⟨rfl, hb⟩
  have HB3 := Lib.hid (HB2.out.trans (hb.mono HB2.out.size))
  have HC3 := Lib.hid ((hb.block w.heap.size (by omega)).trans HC2.out)
  have HD3 := Lib.hid ((hb.block (w.heap.size + 1) (by omega)).trans HD2.out)
  have hs3 := Nat.lt_of_lt_of_le hs2 hb.size
  clear hb x0 x1
  obtain ⟨m0, m1, q0, q1⟩ := two_cells HD3.out
  obtain ⟨z0, z1, hZ⟩ := two_put HD3.out (.int .i64 0) (.slice none 0 0)
  clear hZ
  go_wp2_with fail
  (try simp only [Exit.inBlock, Exit.then])
  refine bodyPost_ret (by simp [results, Tryz.results70, go_sem, z0, z1]; try rfl) rfl ?_
  exact ⟨_, rfl, no_ans (by simp; have := HB3.out.size; omega), (HB3.out.setCell (Nat.le_succ _) _).setCell (Nat.le_succ _) _⟩
set_option maxHeartbeats 4000000 in
set_option maxRecDepth 100000 in
theorem specChoose_none {a b : Option Addr} {n c m d : Nat} {vs ts : List Int} {v : Value} {x : Hel} {w : World} (h1 : Nums .i64 w a n vs) (h2 : Nums .i64 w b m ts) (h : HelW w v x) (hz : ∀ z ∈ ts, (Lit.int .i64 z).wf = true) (hn : n ≤ 1048576) (hm : m ≤ 1048576) (h0 : best vs x.vers = 0) (hx : isH x = true) :
    Calls Tryz.prog 70 #[.slice a n c, .slice b m d, v] w (MadeAnsB w.heap.size ⟨0, []⟩ false w) := by
  have KH := Lib.hid (fun (w0 : World) (hb : Below w.heap.size w w0) => specIsHello_any (h.same hb))
  obtain ⟨va, vn, vc, xa, xn, xc, rfl, g1, g2, g3⟩ := h
  obtain ⟨hsz, hC, hD, hb0⟩ := two w #[.slice va vn vc, .slice xa xn xc] #[.int .i64 0, .slice none 0 0] 27 44
  have HB := Lib.hid hb0
  have KB := Lib.hid (specBestCommon_any (c := c) (d := vc) (h1.same hb0) (g1.same hb0) (by omega))
  have H2 := Lib.hid (And.intro h2 (And.intro g2 hz))
  obtain ⟨B, hB⟩ : ∃ B : Nat, best vs x.vers = B := ⟨_, rfl⟩
  rw [hB] at KB
  have hlw : w.heap.size + 1 < ((w.alloc (.cells #[.slice va vn vc, .slice xa xn xc] 27)).alloc (.cells #[.int .i64 0, .slice none 0 0] 44)).heap.size := by omega
  have HC := Lib.hid hC
  have HD := Lib.hid hD
  clear hb0 hC hD hsz
  have hB0 : ((B : Int) == 0) = true := by rw [← hB, h0]; rfl
  rw [hx] at KH
  clear h1 h2 hz g1 g2 g3 hB h0 hx
  go_enter Tryz.func70, Tryz.ntmps70
  go_wp2_with fail
  generalize ((w.alloc (.cells #[.slice va vn vc, .slice xa xn xc] 27)).alloc (.cells #[.int .i64 0, .slice none 0 0] 44)) = W1 at *
  refine KB.out.mono ?_
  rintro e w2 ⟨rfl, hb⟩
  have HB2 := Lib.hid (HB.out.trans (hb.mono HB.out.size))
  have HC2 := Lib.hid ((hb.block w.heap.size (by omega)).trans HC.out)
  have HD2 := Lib.hid ((hb.block (w.heap.size + 1) (by omega)).trans HD.out)
  have hs2 := Nat.lt_of_lt_of_le hlw hb.size
  clear hb
  obtain ⟨x0, x1, _, _⟩ := two_cells HC2.out
  go_wp2_with fail
  refine (KH.out _ HB2.out).mono ?_
  rintro e w3 ⟨rfl, hb⟩
  have HB3 := Lib.hid (HB2.out.trans (hb.mono HB2.out.size))
  have HC3 := Lib.hid ((hb.block w.heap.size (by omega)).trans HC2.out)
  have HD3 := Lib.hid ((hb.block (w.heap.size + 1) (by omega)).trans HD2.out)
  have hs3 := Nat.lt_of_lt_of_le hs2 hb.size
  clear hb x0 x1
  obtain ⟨m0, m1, q0, q1⟩ := two_cells HD3.out
  obtain ⟨z0, z1, hZ⟩ := two_put HD3.out (.int .i64 0) (.slice none 0 0)
  clear hZ
  go_wp2_with fail
  (try simp only [Exit.inBlock, Exit.then])
  refine bodyPost_ret (by simp [results, Tryz.results70, go_sem, z0, z1]; try rfl) rfl ?_
  exact ⟨_, rfl, no_ans (by simp; have := HB3.out.size; omega), (HB3.out.setCell (Nat.le_succ _) _).setCell (Nat.le_succ _) _⟩
set_option maxHeartbeats 4000000 in
set_option maxRecDepth 100000 in
theorem specChoose_yes {a b : Option Addr} {n c m d : Nat} {vs ts : List Int} {v : Value} {x : Hel} {w : World} (h1 : Nums .i64 w a n vs) (h2 : Nums .i64 w b m ts) (h : HelW w v x) (hz : ∀ z ∈ ts, (Lit.int .i64 z).wf = true) (hn : n ≤ 1048576) (hm : m ≤ 1048576) (h0 : ¬ best vs x.vers = 0) (hx : isH x = true) :
    Calls Tryz.prog 70 #[.slice a n c, .slice b m d, v] w (MadeAnsB w.heap.size ⟨(best vs x.vers : Int), strX (knownOf x.exts ts)⟩ true w) := by
  have KH := Lib.hid (fun (w0 : World) (hb : Below w.heap.size w w0) => specIsHello_any (h.same hb))
  obtain ⟨va, vn, vc, xa, xn, xc, rfl, g1, g2, g3⟩ := h
  obtain ⟨hsz, hC, hD, hb0⟩ := two w #[.slice va vn vc, .slice xa xn xc] #[.int .i64 0, .slice none 0 0] 27 44
  have HB := Lib.hid hb0
  have KB := Lib.hid (specBestCommon_any (c := c) (d := vc) (h1.same hb0) (g1.same hb0) (by omega))
  have H2 := Lib.hid (And.intro h2 (And.intro g2 hz))
  obtain ⟨B, hB⟩ : ∃ B : Nat, best vs x.vers = B := ⟨_, rfl⟩
  rw [hB] at KB
  have hlw : w.heap.size + 1 < ((w.alloc (.cells #[.slice va vn vc, .slice xa xn xc] 27)).alloc (.cells #[.int .i64 0, .slice none 0 0] 44)).heap.size := by omega
  have HC := Lib.hid hC
  have HD := Lib.hid hD
  clear hb0 hC hD hsz
  have hB0 : ((B : Int) == 0) = false := by simp; omega
  have HT := Lib.hid (tags_wfH hx)
  have hfew := areX_few (isH_parts.1 hx).2
  have hxl := g2.len
  have hxn : xn ≤ 1048576 := by omega
  have hxi : itemsOf x.exts ≤ 1048576 := by omega
  have hk1 := known_few x.exts ts
  have hk2 : itemsOf (knownOf x.exts ts) ≤ itemsOf x.exts := items_filter _ _
  rw [hx] at KH
  rw [hB]
  clear h1 h2 hz g1 g2 g3 hB h0 hx
  go_enter Tryz.func70, Tryz.ntmps70
  go_wp2_with fail
  generalize ((w.alloc (.cells #[.slice va vn vc, .slice xa xn xc] 27)).alloc (.cells #[.int .i64 0, .slice none 0 0] 44)) = W1 at *
  refine KB.out.mono ?_
  rintro e w2 ⟨rfl, hb⟩
  have HB2 := Lib.hid (HB.out.trans (hb.mono HB.out.size))
  have HC2 := Lib.hid ((hb.block w.heap.size (by omega)).trans HC.out)
  have HD2 := Lib.hid ((hb.block (w.heap.size + 1) (by omega)).trans HD.out)
  have hs2 := Nat.lt_of_lt_of_le hlw hb.size
  clear hb
  obtain ⟨x0, x1, _, _⟩ := two_cells HC2.out
  go_wp2_with fail
  refine (KH.out _ HB2.out).mono ?_
  rintro e w3 ⟨rfl, hb⟩
  have HB3 := Lib.hid (HB2.out.trans (hb.mono HB2.out.size))
  have HC3 := Lib.hid ((hb.block w.heap.size (by omega)).trans HC2.out)
  have HD3 := Lib.hid ((hb.block (w.heap.size + 1) (by omega)).trans HD2.out)
  have hs3 := Nat.lt_of_lt_of_le hs2 hb.size
  clear hb x0 x1
  obtain ⟨x0, x1, _, _⟩ := two_cells HC3.out
  have KK := Lib.hid (specKnownOf_any (c := xc) (d := d) (H2.out.2.1.same HB3.out) (H2.out.1.same HB3.out) hxn hxi)
  go_wp2_with fail
  refine KK.out.mono ?_
  rintro e w4 ⟨q4, n4, c4, rfl, ho4, hb4⟩
  have hl4 := ho4.len
  have HB4 := Lib.hid (HB3.out.trans (hb4.mono HB3.out.size))
  have HD4 := Lib.hid ((hb4.block (w.heap.size + 1) (by omega)).trans HD3.out)
  have hs4 := Nat.lt_of_lt_of_le hs3 hb4.size
  have KS := Lib.hid (specStripGrease_any (c := c4) ho4.vals (by omega) (by omega))
  clear ho4 hb4 x0 x1 KK
  go_wp2_with fail
  refine KS.out.mono ?_
  rintro e w5 ⟨q5, n5, c5, rfl, ho5, hb5⟩
  have HB5 := Lib.hid (HB4.out.trans (hb5.mono HB4.out.size))
  have HD5 := Lib.hid ((hb5.block (w.heap.size + 1) (by omega)).trans HD4.out)
  have HO5 := Lib.hid ho5
  clear ho5 hb5 KS
  obtain ⟨m0, m1, q0, q1⟩ := two_cells HD5.out
  obtain ⟨z0, z1, hZ⟩ := two_put HD5.out (.int .i64 (B : Int)) (.slice q5 n5 c5)
  clear hZ
  go_wp2_with fail
  (try simp only [Exit.inBlock, Exit.then])
  refine bodyPost_ret (by simp [results, Tryz.results70, go_sem, z0, z1]; try rfl) rfl ?_
  have hfin := ((own_ans (k := (B : Int)) HO5.out.lim (Nat.le_refl _) (Nat.le_refl _) (Nat.le_refl _)).aside (set2_insideA w5 (w.heap.size + 1) (.int .i64 (B : Int)) (.slice q5 n5 c5)) (Or.inl (by omega))).lower (B' := w.heap.size) (by omega)
  exact ⟨_, rfl, by simpa using hfin, (HB5.out.setCell (Nat.le_succ _) _).setCell (Nat.le_succ _) _⟩
theorem specChooseAnswer_any {a b : Option Addr} {n c m d : Nat} {vs ts : List Int} {v : Value} {x : Hel} {w : World} (h1 : Nums .i64 w a n vs) (h2 : Nums .i64 w b m ts) (h : HelW w v x) (hz : ∀ z ∈ ts, (Lit.int .i64 z).wf = true) (hn : n ≤ 1048576) (hm : m ≤ 1048576) :
    Calls Tryz.prog 70 #[.slice a n c, .slice b m d, v] w (MadeAnsB w.heap.size (chAns vs ts x) (chOk vs ts x) w) := by
  have no : chA vs ts x = none → Calls Tryz.prog 70 #[.slice a n c, .slice b m d, v] w (MadeAnsB w.heap.size ⟨0, []⟩ false w) → Calls Tryz.prog 70 #[.slice a n c, .slice b m d, v] w (MadeAnsB w.heap.size (chAns vs ts x) (chOk vs ts x) w) := fun e h => by
    rw [(chA_none e).1, (chA_none e).2]; exact h
  by_cases h0 : best vs x.vers = 0
  · cases hx : isH x with
    | false => exact no (chA_no (Or.inl hx)) (specChoose_odd h1 h2 h hz hn hm hx)
    | true => exact no (chA_no (Or.inr h0)) (specChoose_none h1 h2 h hz hn hm h0 hx)
  · cases hx : isH x with
    | false => exact no (chA_no (Or.inl hx)) (specChoose_odd h1 h2 h hz hn hm hx)
    | true =>
      have e := chA_some (chA_yes (ts := ts) hx h0)
      rw [e.1, e.2]
      exact specChoose_yes h1 h2 h hz hn hm h0 hx
end Go.Proofs.YtcmjadfpifpknaaGreat
namespace Go.Proofs.YtcmjadfpifpknaaGreat
open Go.ChangeShapes Go.WideShapes Go.ChangeAt Go.RowKit
set_option linter.unusedVariables false
set_option linter.unusedSimpArgs false

theorem nums_pair (w : World) (x z : Int) (t : TypeId) : Nums .i64 (w.alloc (.cells #[.int .i64 x, .int .i64 z] t)) (some ⟨w.heap.size, 0, none⟩) 2 [x, z] :=
  ⟨rfl, by omega, fun j hj => by
    have h0 := heap_alloc_new w (.cells #[.int .i64 x, .int .i64 z] t)
    refine ⟨_, rfl, ?_⟩
    rw [addr_zero, block_cell h0]
    rcases (show j = 0 ∨ j = 1 by omega) with rfl | rfl <;> rfl⟩
theorem own_oneE (w : World) (x : Int) (t : TypeId) : Own .i64 t (w.alloc (.cells #[.int .i64 x] t)) w.heap.size (some ⟨w.heap.size, 0, none⟩) 1 1 [x] :=
  ⟨rfl, World.ownsRow_lit w #[.int .i64 x] 1 (Nat.le_refl _) (by unfold maxLen; omega) rfl⟩
set_option maxHeartbeats 4000000 in
set_option maxRecDepth 100000 in
theorem specEncodeExts_any {a : Option Addr} {n c : Nat} {l : List Vl} {w : World} (h : Vals w a n l) :
    Calls Tryz.prog 121 #[.slice a n c] w (EncXT 3 l w) := by
  have H := Lib.hid h
  have hln := Lib.hid h.len
  have hfit := h.fits
  obtain ⟨i0, hi, hz0, hz1, hz2⟩ := info_parts infoIntS
  have HI := Lib.hid (And.intro hi (And.intro hz0 (And.intro hz1 hz2)))
  clear hi hz0 hz1 hz2 h
  have HA := Lib.hid (specAreExts_any (c := c) H.out)
  unfold EncXT
  cases har : areX l with
  | false =>
    rw [har] at HA
    rw [encW_no har]
    clear har
    go_enter Tryz.func121, Tryz.ntmps121
    go_wp2_with fail
    refine HA.out.mono ?_
    rintro e w1 ⟨rfl, rfl⟩
    go_wp2_with fail
    go_ret2
    exact ⟨_, _, _, rfl, Own.empty (Nat.le_refl _), alloc_same _ _⟩
  | true =>
    rw [har] at HA
    rw [encW_yes har]
    obtain ⟨hn6, hit⟩ := areX_few har
    rw [hln.out] at hn6
    clear har
    have HO2 : Hid (Own .i64 3 (w.alloc (.cells #[.int .i64 (n : Int)] 3)) w.heap.size (some ⟨w.heap.size, 0, none⟩) 1 1 ((n : Int) :: codesX (l.take 0))) := Lib.hid (own_oneE w n 3)
    go_enter Tryz.func121, Tryz.ntmps121
    go_wp2_with fail
    refine HA.out.mono ?_
    rintro e w1 ⟨rfl, rfl⟩
    go_wp2_with fail
    go_loopw [4, 5] (fun v i wr => ∃ (j : Nat) (q : Option Addr) (r e : Nat), j ≤ n ∧ i = .int .i64 j ∧ v = .slice q r e ∧ Own .i64 3 wr w.heap.size q r e ((n : Int) :: codesX (l.take j)) ∧ Below w.heap.size w wr) (fun _ i _ => n - (intOf i).toNat)
    case atStart => exact ⟨0, _, _, _, Nat.zero_le _, rfl, rfl, HO2.out, alloc_same _ _⟩
    case round =>
      obtain ⟨j, q, r, e, hj, rfl, rfl, hown, hb⟩ := hrel
      have HOr := Lib.hid hown
      have HBr := Lib.hid hb
      clear hown hb
      by_cases hlt : j < n
      · obtain ⟨bb, o, p, pm, pd, k, y, rfl, hx, hd0, hd1, hN, hr⟩ := H.out.at_ hlt
        have hsz := HBr.out.size
        have hym := hN.len
        have hyi := itemsOf_mem hx
        dsimp only at hyi
        have hpm : pm ≤ 24 := by omega
        have hrl : r ≤ 37 := by
          have h1 := HOr.out.len
          have h2 := itemsOf_le l j
          rw [List.length_cons, codesX_len, List.length_take] at h1
          omega
        have HX : Hid ((n : Int) :: codesX (l.take (j + 1)) = (n : Int) :: (codesX (l.take j) ++ k :: (pm : Int) :: y)) := Lib.hid (by rw [codesX_take hx]; simp [codeX, hym])
        have HSK : Hid (∀ w9, Below w.heap.size w w9 → w9.cell? ⟨bb, o + j * 2, none⟩ = some (.int .i64 k) ∧ w9.cell? ⟨bb, o + j * 2 + 1, none⟩ = some (.slice p pm pd)) := Lib.hid (fun w9 h9 => ⟨cell_stay hd0 h9, cell_stay hd1 h9⟩)
        obtain ⟨hc0, hc1⟩ := HSK.out wr HBr.out
        have HN := Lib.hid (fun w9 (h9 : Below w.heap.size w w9) => hN.same h9)
        clear hx hN hym hyi hd0 hd1
        have HBd : Hid (Below w.heap.size w wr.drew) := Lib.hid HBr.out.drew
        have HQ : Hid (Below wr.heap.size wr (wr.alloc (.cells #[.int .i64 k, .int .i64 (pm : Int)] 3)).drew) := Lib.hid (alloc_same _ _).drew
        have HOQ : Hid (Own .i64 3 (wr.alloc (.cells #[.int .i64 k, .int .i64 (pm : Int)] 3)).drew w.heap.size q r e ((n : Int) :: codesX (l.take j))) := Lib.hid (HOr.out.same HQ.out)
        have HNQ : Hid (Nums .i64 (wr.alloc (.cells #[.int .i64 k, .int .i64 (pm : Int)] 3)).drew (some ⟨wr.heap.size, 0, none⟩) 2 [k, (pm : Int)]) := Lib.hid ((nums_pair _ _ _ _).same (Below.refl _ _).drew)
        have HBQ : Hid (Below w.heap.size w (wr.alloc (.cells #[.int .i64 k, .int .i64 (pm : Int)] 3)).drew) := Lib.hid (HBr.out.trans (HQ.out.mono hsz))
        have hsQ : w.heap.size ≤ (wr.alloc (.cells #[.int .i64 k, .int .i64 (pm : Int)] 3)).drew.heap.size := HBQ.out.size
        go_wp2_with fail
        go_region_held3 (fun w9 => w9.cell? ⟨bb, o + j * 2, none⟩ = some (.int .i64 k) ∧ w9.cell? ⟨bb, o + j * 2 + 1, none⟩ = some (.slice p pm pd)) (first | exact HSK.out _ HBd.out | exact HSK.out _ HBQ.out | exact HSK.out _ HB3.out) ((first | (refine step_app_g _ (by rfl) (.tmp 19) (.tmp 31) 24 (by rfl) .i64 3 i0 (.int .i64 0) 8 Tryz.underlying24 HI.out.1 HI.out.2.1 HI.out.2.2.1 HI.out.2.2.2 rfl (by rfl) HOQ.out (by rfl) HNQ.out (by omega) (by omega) hsQ ?_; intro a3 c3 w3 ho3 hg3 hl3; have HO3 := Lib.hid ho3; have HB3 : Hid (Below w.heap.size w w3) := Lib.hid (grown_to hg3 HBQ.out HOQ.out.span (Nat.le_refl _) hsQ); have hs3 : w.heap.size ≤ w3.heap.size := HB3.out.size; obtain ⟨he0, he1⟩ := HSK.out w3 HB3.out; clear ho3 hg3 hl3)))
        go_wp2_with (at_builtin; refine wpl_app _ rfl (.tmp 33) (.tmp 38) 24 rfl .i64 3 i0 (.int .i64 0) 8 Tryz.underlying24 HI.out.1 HI.out.2.1 HI.out.2.2.1 HI.out.2.2.2 rfl rfl HO3.out rfl (HN.out _ HB3.out) (by omega) ?c1 ?c2 ?_)
        case c1 => omega
        case c2 => exact hs3
        intro a4 c4 w4 ho4 hb4
        have HO4 := Lib.hid ho4
        have HB4 : Hid (Below w.heap.size w w4) := Lib.hid (HB3.out.trans hb4)
        clear ho4 hb4
        go_wp2_with fail
        go_roundw
        case rel => exact ⟨j + 1, a4, _, c4, by omega, by go_num, rfl, by rw [HX.out]; exact HO4.out, HB4.out⟩
        case measure => simp [intOf]; omega
      · obtain rfl : j = n := by omega
        go_wp2_with fail
        go_ret2
        have h1 := HOr.out
        rw [List.take_of_length_le (by rw [hln.out]; omega)] at h1
        refine ⟨_, _, _, rfl, h1.take_len ?_, HBr.out⟩
        unfold encX
        rw [hln.out]
end Go.Proofs.YtcmjadfpifpknaaGreat
namespace Go.Proofs.YtcmjadfpifpknaaGreat
open Go.ChangeShapes Go.WideShapes Go.ChangeAt Go.RowKit
set_option linter.unusedVariables false
set_option linter.unusedSimpArgs false

set_option maxHeartbeats 4000000 in
set_option maxRecDepth 100000 in
theorem specHelloBytes_any {w : World} {v : Value} {x : Hel} (h : HelW w v x) : Calls Tryz.prog 73 #[v] w (Made .i64 3 w.heap.size (helB x) w) := by
  obtain ⟨i0, hi, hz0, hz1, hz2⟩ := info_parts infoIntS
  have HI := Lib.hid (And.intro hi (And.intro hz0 (And.intro hz1 hz2)))
  clear hi hz0 hz1 hz2
  have KH := Lib.hid (fun (w0 : World) (hb : Below w.heap.size w w0) => specIsHello_any (h.same hb))
  obtain ⟨a, n, c, b, m, d, rfl, h1, h2, h3⟩ := h
  have HB := Lib.hid (alloc_same w (.cells #[.slice a n c, .slice b m d] 27))
  have hC := heap_alloc_new w (.cells #[.slice a n c, .slice b m d] 27 (0, 0))
  change (w.alloc (.cells #[.slice a n c, .slice b m d] 27)).heap[w.heap.size]? = _ at hC
  have hlt : w.heap.size < (w.alloc (.cells #[.slice a n c, .slice b m d] 27)).heap.size := by simp
  cases hh : isH x with
  | false =>
    rw [hh] at KH
    rw [helB_no hh]
    clear hC hh h1 h2 h3
    go_enter Tryz.func73, Tryz.ntmps73
    go_wp2_with fail
    refine (KH.out _ HB.out).mono ?_
    rintro e w1 ⟨rfl, hb⟩
    have HB1 := Lib.hid (HB.out.trans (hb.mono HB.out.size))
    clear hb
    go_wp2_with fail
    go_ret
    exact ⟨_, _, _, rfl, Own.empty HB1.out.size, HB1.out.alloc HB1.out.size _⟩
  | true =>
    rw [hh] at KH
    rw [helB_yes hh]
    obtain ⟨hw1, hx1⟩ := isH_parts.1 hh
    have hvl := (areV_len hw1).1
    have HL := Lib.hid h1.len
    have HXL := Lib.hid (encX_few hx1)
    have H1 := Lib.hid (And.intro h1 h3.1)
    have KE := Lib.hid (fun (w0 : World) (hb : Below w.heap.size w w0) => specEncodeExts_any (c := d) (h2.same hb))
    unfold EncXT at KE
    rw [hx1, encW_yes hx1] at KE
    clear hh h1 h2 h3 hw1 hx1
    go_enter Tryz.func73, Tryz.ntmps73
    go_wp2_with fail
    generalize w.alloc (.cells #[.slice a n c, .slice b m d] 27) = W0 at *
    refine (KH.out _ HB.out).mono ?_
    rintro e w1 ⟨rfl, hb⟩
    have HB1 := Lib.hid (HB.out.trans (hb.mono HB.out.size))
    have HC1 := Lib.hid ((hb.block w.heap.size hlt).trans hC)
    have hs1 := Nat.lt_of_lt_of_le hlt hb.size
    clear hb hC
    obtain ⟨c0, c1, _, _⟩ := two_cells HC1.out
    go_wp2_with fail
    refine (KE.out w1 HB1.out).mono ?_
    rintro e w2 ⟨q, m2, d2, rfl, ho2, hb2⟩
    have HB2 := Lib.hid (HB1.out.trans (hb2.mono HB1.out.size))
    obtain ⟨e0, e1, _, _⟩ := two_cells ((hb2.block w.heap.size hs1).trans HC1.out)
    have HO2 := Lib.hid ho2
    have e2 := cell_stay e0 (alloc_same w2 (.cells #[.int .i64 (n : Int)] 3))
    have HOW : Hid (Own .i64 3 (w2.alloc (.cells #[.int .i64 (n : Int)] 3)) w2.heap.size (some ⟨w2.heap.size, 0, none⟩) 1 1 [(n : Int)]) := Lib.hid ⟨rfl, World.ownsRow_lit w2 #[.int .i64 (n : Int)] 1 (Nat.le_refl _) (by unfold maxLen; omega) rfl⟩
    have HAL := Lib.hid (alloc_same w2 (.cells #[.int .i64 (n : Int)] 3))
    have g0 := cell_stay e0 HAL.out
    have hnn := HL.out
    have hmm := HXL.out
    have hm2 := HO2.out.len
    have HV : Hid (∀ w9, Below w2.heap.size w2 w9 → Nums .i64 w9 a n x.vers) := Lib.hid (fun w9 h9 => H1.out.1.same (HB2.out.trans (h9.mono HB2.out.size)))
    have HQ : Hid (∀ w9, Below w2.heap.size w2 w9 → Nums .i64 w9 q m2 (encX x.exts)) := Lib.hid (fun w9 h9 => HO2.out.nums.same h9)
    have hs3 : w2.heap.size ≤ (w2.alloc (.cells #[.int .i64 (n : Int)] 3)).heap.size := by simp
    clear c0 c1 hb2 ho2 hs1
    go_wp2_with (at_builtin; refine wpl_app _ rfl (.tmp 18) (.tmp 20) 24 rfl .i64 3 i0 (.int .i64 0) 8 Tryz.underlying24 HI.out.1 HI.out.2.1 HI.out.2.2.1 HI.out.2.2.2 rfl rfl HOW.out rfl (HV.out _ HAL.out) (by omega) ?c1 ?c2 ?_)
    case c1 => omega
    case c2 => exact hs3
    intro a3 c3 w3 ho3 hb3
    have HO3 := Lib.hid ho3
    have HB3 := Lib.hid (HAL.out.trans hb3)
    clear ho3 hb3
    go_wp2_with (at_builtin; refine wpl_app _ rfl (.tmp 21) (.tmp 22) 24 rfl .i64 3 i0 (.int .i64 0) 8 Tryz.underlying24 HI.out.1 HI.out.2.1 HI.out.2.2.1 HI.out.2.2.2 rfl rfl HO3.out rfl (HQ.out _ HB3.out) (by omega) ?d1 ?d2 ?_)
    case d1 => omega
    case d2 => exact HB3.out.size
    intro a4 c4 w4 ho4 hb4
    have HR : Hid (Made .i64 3 w.heap.size (codeH x) w (.returned (.slice a4 (1 + n + m2) c4)) w4) := Lib.hid ⟨_, _, _, rfl, (ho4.lower HB2.out.size).take_len (by unfold codeH; rw [HL.out]), HB2.out.trans ((HB3.out.trans hb4).mono HB2.out.size)⟩
    clear ho4 hb4
    go_wp2_with fail
    go_ret
    exact HR.out
set_option maxHeartbeats 4000000 in
set_option maxRecDepth 100000 in
theorem specAnswerBytes_any {w : World} {v : Value} {x : Ans} (h : AnsW w v x) : Calls Tryz.prog 74 #[v] w (Made .i64 3 w.heap.size (ansB x) w) := by
  obtain ⟨i0, hi, hz0, hz1, hz2⟩ := info_parts infoIntS
  have HI := Lib.hid (And.intro hi (And.intro hz0 (And.intro hz1 hz2)))
  clear hi hz0 hz1 hz2
  have KH := Lib.hid (fun (w0 : World) (hb : Below w.heap.size w w0) => specIsAnswer_any (h.same hb))
  obtain ⟨b, m, d, rfl, h2, h3⟩ := h
  have HB := Lib.hid (alloc_same w (.cells #[.int .i64 x.ver, .slice b m d] 44))
  have hC := heap_alloc_new w (.cells #[.int .i64 x.ver, .slice b m d] 44 (0, 0))
  change (w.alloc (.cells #[.int .i64 x.ver, .slice b m d] 44)).heap[w.heap.size]? = _ at hC
  have hlt : w.heap.size < (w.alloc (.cells #[.int .i64 x.ver, .slice b m d] 44)).heap.size := by simp
  cases hh : isA x with
  | false =>
    rw [hh] at KH
    rw [ansB_no hh]
    clear hC hh h2 h3
    go_enter Tryz.func74, Tryz.ntmps74
    go_wp2_with fail
    refine (KH.out _ HB.out).mono ?_
    rintro e w1 ⟨rfl, hb⟩
    have HB1 := Lib.hid (HB.out.trans (hb.mono HB.out.size))
    clear hb
    go_wp2_with fail
    go_ret
    exact ⟨_, _, _, rfl, Own.empty HB1.out.size, HB1.out.alloc HB1.out.size _⟩
  | true =>
    rw [hh] at KH
    rw [ansB_yes hh]
    obtain ⟨hw1, hx1⟩ := isA_parts.1 hh
    have HXL := Lib.hid (encX_few hx1)
    have KE := Lib.hid (fun (w0 : World) (hb : Below w.heap.size w w0) => specEncodeExts_any (c := d) (h2.same hb))
    unfold EncXT at KE
    rw [hx1, encW_yes hx1] at KE
    clear hh h2 h3 hw1 hx1
    go_enter Tryz.func74, Tryz.ntmps74
    go_wp2_with fail
    generalize w.alloc (.cells #[.int .i64 x.ver, .slice b m d] 44) = W0 at *
    refine (KH.out _ HB.out).mono ?_
    rintro e w1 ⟨rfl, hb⟩
    have HB1 := Lib.hid (HB.out.trans (hb.mono HB.out.size))
    have HC1 := Lib.hid ((hb.block w.heap.size hlt).trans hC)
    have hs1 := Nat.lt_of_lt_of_le hlt hb.size
    clear hb hC
    obtain ⟨c0, c1, _, _⟩ := two_cells HC1.out
    go_wp2_with fail
    refine (KE.out w1 HB1.out).mono ?_
    rintro e w2 ⟨q, m2, d2, rfl, ho2, hb2⟩
    have HB2 := Lib.hid (HB1.out.trans (hb2.mono HB1.out.size))
    obtain ⟨e0, e1, _, _⟩ := two_cells ((hb2.block w.heap.size hs1).trans HC1.out)
    have HO2 := Lib.hid ho2
    have HOW : Hid (Own .i64 3 (w2.alloc (.cells #[.int .i64 x.ver] 3)) w2.heap.size (some ⟨w2.heap.size, 0, none⟩) 1 1 [x.ver]) := Lib.hid ⟨rfl, World.ownsRow_lit w2 #[.int .i64 x.ver] 1 (Nat.le_refl _) (by unfold maxLen; omega) rfl⟩
    have HAL := Lib.hid (alloc_same w2 (.cells #[.int .i64 x.ver] 3))
    have hmm := HXL.out
    have hm2 := HO2.out.len
    have HQ : Hid (∀ w9, Below w2.heap.size w2 w9 → Nums .i64 w9 q m2 (encX x.exts)) := Lib.hid (fun w9 h9 => HO2.out.nums.same h9)
    have hs3 : w2.heap.size ≤ (w2.alloc (.cells #[.int .i64 x.ver] 3)).heap.size := by simp
    clear c0 c1 hb2 ho2 hs1
    go_wp2_with (at_builtin; refine wpl_app _ rfl (.tmp 17) (.tmp 18) 24 rfl .i64 3 i0 (.int .i64 0) 8 Tryz.underlying24 HI.out.1 HI.out.2.1 HI.out.2.2.1 HI.out.2.2.2 rfl rfl HOW.out rfl (HQ.out _ HAL.out) (by omega) ?c1 ?c2 ?_)
    case c1 => omega
    case c2 => exact hs3
    intro a3 c3 w3 ho3 hb3
    have HR : Hid (Made .i64 3 w.heap.size (codeA x) w (.returned (.slice a3 (1 + m2) c3)) w3) := Lib.hid ⟨_, _, _, rfl, (ho3.lower HB2.out.size).take_len (by unfold codeA; simp), HB2.out.trans ((HAL.out.trans hb3).mono HB2.out.size)⟩
    clear ho3 hb3
    go_wp2_with fail
    go_ret
    exact HR.out
end Go.Proofs.YtcmjadfpifpknaaGreat
