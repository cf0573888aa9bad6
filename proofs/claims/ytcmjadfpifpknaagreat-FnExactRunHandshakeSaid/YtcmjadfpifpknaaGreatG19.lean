/- The extensions whose tags are asked for, by the program: what it asks is a function that may have captured a variable. Whether a list of tags, a list of extensions holds a reserved tag; the extensions whose tag is not reserved: by the program. Whether an answer fits a hello: by the program. The container of chapter 16: the iterator over its elements, at integers and at lists of integers. -/
import Derived.Test.YtcmjadfpifpknaaGreatG11
import Derived.Test.YtcmjadfpifpknaaGreatG13
import Derived.Test.YtcmjadfpifpknaaGreatG9
import Derived.Test.YtcmjadfpifpknaaGreatG18
import Derived.RangeFuncNested
import Derived.RangeFuncBound
import Derived.RangeFuncCalls
import Derived.RangeFuncLeaves
import Derived.RangeFuncBox
import Derived.Shelf.Abstract
import Derived.Shelf.RegionOpen
import Derived.WalkKit
import Derived.OwnWalkIn
import Derived.TacticsInMore
import Derived.LoopNIn
import Derived.LoopIn
import Derived.Maps.AppendAt
namespace Go.Proofs.YtcmjadfpifpknaaGreat
open Go.ChangeShapes Go.WideShapes Go.ChangeAt Go.RowKit
set_option linter.unusedVariables false
set_option linter.unusedSimpArgs false

set_option maxHeartbeats 4000000 in
set_option maxRecDepth 100000 in
theorem extsWhereS_any (f : Int → Bool) {a : Option Addr} {n c : Nat} {l : List Vl} {w : World} (h : Vals w a n l) (hz : ∀ z ∈ tagsX l, (Lit.int .i64 z).wf = true)
    (hA : ∀ (k : Int) (W : World), (Lit.int .i64 k).wf = true → Below w.heap.size w W → Calls Tryz.prog 129 #[.int .i64 k] W (Told (.bool (f k)) W)) (hn : n ≤ 1048576) (hit : itemsOf l ≤ 1048576) :
    Calls Tryz.prog 128 #[.slice a n c, .func (.func 129) #[] #[]] w (MadeV 125 3 w.heap.size (whX f l) w) := by
  have H := Lib.hid h
  have hln := Lib.hid h.len
  have HZ := Lib.hid hz
  have HA := Lib.hid hA
  obtain ⟨i0, hi, hz0, hz1, hz2⟩ := info_parts infoExtS
  have HI := Lib.hid (And.intro hi (And.intro hz0 (And.intro hz1 hz2)))
  have HO : Hid (OwnV 125 3 (w.alloc (.cells #[] 125)) w.heap.size (some ⟨w.heap.size, 0, none⟩) 0 0 (whX f (l.take 0))) := Lib.hid (OwnV.empty (Nat.le_refl _))
  clear h hz hA hi hz0 hz1 hz2
  go_enter Tryz.func128, Tryz.ntmps128
  go_wp2_with fail
  go_loopw [5, 11] (fun v i wr => ∃ (j : Nat) (q : Option Addr) (r e : Nat), j ≤ n ∧ i = .int .i64 j ∧ v = .slice q r e ∧ OwnV 125 3 wr w.heap.size q r e (whX f (l.take j)) ∧ Below w.heap.size w wr) (fun _ i _ => n - (intOf i).toNat)
  case atStart => exact ⟨0, _, _, _, Nat.zero_le _, rfl, rfl, HO.out, alloc_same _ _⟩
  case round =>
    obtain ⟨j, q, r, e, hj, rfl, rfl, hown, hb⟩ := hrel
    have HO2 := Lib.hid hown
    have HB2 := Lib.hid hb
    clear hown hb
    by_cases hlt : j < n
    · obtain ⟨bb, o, p, pm, pd, k, y, rfl, hx, hc0, hc1, hN, hr⟩ := (H.out.same HB2.out).at_ hlt
      have hsz := HB2.out.size
      have hym := hN.len
      have hyi := itemsOf_mem hx
      dsimp only at hyi
      have hrl : r ≤ 1048576 := by
        have h1 := HO2.out.len
        have h2 := wh_few f (l.take j)
        rw [List.length_take] at h2
        omega
      have HW : Hid (Below wr.heap.size wr (wr.alloc (.cells #[.int .i64 k, .slice p pm pd] 125))) := Lib.hid (alloc_same _ _)
      have HWc : Hid ((wr.alloc (.cells #[.int .i64 k, .slice p pm pd] 125)).cell? ⟨wr.heap.size, 0, none⟩ = some (.int .i64 k) ∧ (wr.alloc (.cells #[.int .i64 k, .slice p pm pd] 125)).cell? ⟨wr.heap.size, 1, none⟩ = some (.slice p pm pd)) := Lib.hid ⟨block_cell (heap_alloc_new wr _) 0, block_cell (heap_alloc_new wr _) 1⟩
      have hs2 : wr.heap.size ≤ (wr.alloc (.cells #[.int .i64 k, .slice p pm pd] 125)).heap.size := HW.out.size
      have HK := Lib.hid (HA.out k (wr.alloc (.cells #[.int .i64 k, .slice p pm pd] 125)) (HZ.out k (tags_mem hx)) (HB2.out.trans (HW.out.mono hsz)))
      have HNp := Lib.hid hN
      cases hk : f k with
      | true =>
        have HF : Hid (whX f (l.take (j + 1)) = whX f (l.take j) ++ [⟨k, y⟩]) := Lib.hid (wh_yes hx hk)
        rw [hk] at HK
        clear hx hN hk
        go_wp2_with fail
        refine HK.out.mono ?_
        rintro e2 w2 ⟨rfl, hb2⟩
        have HB3 : Hid (Below wr.heap.size wr w2) := Lib.hid (HW.out.trans (hb2.mono hs2))
        have c0 := cell_stay HWc.out.1 hb2
        have c1 := cell_stay HWc.out.2 hb2
        have hs3 := HB3.out.size
        have HC := Lib.hid (copyExt_any k p pm pd y w2 (HNp.out.same HB3.out) (by omega))
        unfold MadeX at HC
        clear hb2 HK
        go_wp2_with fail
        refine HC.out.mono ?_
        rintro e3 w3 ⟨q3, m3, d3, rfl, ho3, hb3⟩
        have HO3 := Lib.hid ho3
        have HB4 := Lib.hid (HB3.out.trans (hb3.mono hs3))
        have hs4 := HB4.out.size
        have HNN : Hid (Items Vh.enc 2 (w3.alloc (.cells #[.int .i64 k, .slice q3 m3 d3] 125)) (some ⟨w3.heap.size, 0, none⟩) 1 [⟨k, q3, m3, d3⟩]) := Lib.hid (items_new Vh.enc_len w3 ⟨k, q3, m3, d3⟩ 125)
        clear hb3 hc0 hc1 ho3 c0 c1
        go_wp2_with (at_builtin; refine wpl_appV (S := wr.heap.size) (B := w.heap.size) _ rfl (.tmp 19) (.tmp 22) 25 rfl 125 3 i0 (.agg #[.int .i64 0, .slice none 0 0]) 32 Tryz.underlying25 HI.out.1 HI.out.2.1 HI.out.2.2.1 HI.out.2.2.2 rfl rfl ((HO2.out.lim.same HB4.out).same (alloc_same _ _)) rfl HNN.out ((HO3.out.lower (by omega)).alloc _) (fun ad e => by have := (HO3.out.span ad e).1; omega) (by omega) ?c4 ?c5 ?_)
        case c4 => omega
        case c5 => simp; omega
        intro a4 c4 w4 ho4 hb4
        have HO4 : Hid (OwnV 125 3 w4 w.heap.size a4 (r + 1) c4 (whX f (l.take (j + 1)))) := Lib.hid (by rw [HF.out]; exact ho4)
        have HB5 : Hid (Below w.heap.size w w4) := Lib.hid ((HB2.out.trans (HB4.out.mono hsz)).trans ((((alloc_same _ _).mono (Nat.le_trans hsz hs4))).trans hb4))
        clear ho4 hb4
        go_wp2_with fail
        go_roundw
        case rel => exact ⟨j + 1, a4, _, c4, by omega, by go_num, rfl, HO4.out, HB5.out⟩
        case measure => simp [intOf]; omega
      | false =>
        have HF : Hid (whX f (l.take (j + 1)) = whX f (l.take j)) := Lib.hid (wh_no hx hk)
        rw [hk] at HK
        clear hx hN hk
        go_wp2_with fail
        refine HK.out.mono ?_
        rintro e2 w2 ⟨rfl, hb2⟩
        have HB3 : Hid (Below wr.heap.size wr w2) := Lib.hid (HW.out.trans (hb2.mono hs2))
        clear hb2 HK
        go_wp2_with fail
        go_roundw
        case rel => exact ⟨j + 1, q, r, e, by omega, by go_num, rfl, by rw [HF.out]; exact HO2.out.same HB3.out, HB2.out.trans (HB3.out.mono hsz)⟩
        case measure => simp [intOf]; omega
    · obtain rfl : j = n := by omega
      go_wp2
      go_ret
      have h1 := HO2.out
      rw [List.take_of_length_le (by rw [hln.out]; omega)] at h1
      exact ⟨_, _, _, rfl, h1, HB2.out⟩
end Go.Proofs.YtcmjadfpifpknaaGreat
namespace Go.Proofs.YtcmjadfpifpknaaGreat
open Go.ChangeShapes Go.WideShapes Go.ChangeAt Go.RowKit
set_option linter.unusedVariables false

set_option maxHeartbeats 1000000 in
set_option maxRecDepth 100000 in
theorem indexResv_any {a : Option Addr} {n c : Nat} {y : List Int} {w : World} (h : Nums .i64 w a n y) :
    Calls Tryz.prog 170 #[.slice a n c, .func (.func 130) #[] #[]] w fun e w' => ∃ r : Int, e = .returned (.int .i64 r) ∧ w = w' ∧ decide (0 ≤ r) = y.any resv := by
  have H := Lib.hid h
  have hl := h.len
  have hfit := h.fits
  clear h
  go_enter Tryz.func170, Tryz.ntmps170
  go_wp2_with fail
  go_loop [8] (fun i => ∃ j : Nat, j ≤ n ∧ i = .int .i64 j ∧ (y.take j).any resv = false) (fun i => n - (intOf i).toNat)
  case atStart => exact ⟨0, Nat.zero_le _, rfl, by simp⟩
  case round =>
    obtain ⟨j, hj, rfl, hno⟩ := hrel
    have HN := Lib.hid hno
    clear hno
    by_cases hlt : j < n
    · obtain ⟨ad, z, rfl, hz, hc⟩ := H.out.at_ hlt
      have HR := isReserved_any z
      cases hk : resv z with
      | true =>
        have HE : Hid (decide ((0 : Int) ≤ (j : Int)) = y.any resv) := Lib.hid (by
          rw [decide_eq_true (by omega)]
          exact (List.any_eq_true.2 ⟨z, List.mem_of_getElem? hz, hk⟩).symm)
        rw [hk] at HR
        clear hz hk
        go_wp2_with (go_at_call 130; refine (HR _).mono ?_; rintro e w' ⟨rfl, rfl⟩)
        go_ret
        exact ⟨j, rfl, rfl, HE.out⟩
      | false =>
        have HS : Hid ((y.take (j + 1)).any resv = false) := Lib.hid (by
          rw [List.take_add_one, hz, List.any_append, HN.out]
          simp [hk])
        rw [hk] at HR
        clear hz hk
        go_wp2_with (go_at_call 130; refine (HR _).mono ?_; rintro e w' ⟨rfl, rfl⟩)
        go_round
        case rel => exact ⟨j + 1, by omega, by go_num, HS.out⟩
        case measure => simp [intOf]; omega
    · obtain rfl : j = n := by omega
      have h1 := HN.out
      rw [List.take_of_length_le (by omega)] at h1
      have HE : Hid (decide ((0 : Int) ≤ (-1 : Int)) = y.any resv) := Lib.hid (by rw [h1]; rfl)
      clear h1
      go_wp2_with fail
      go_ret
      exact ⟨-1, rfl, rfl, HE.out⟩
set_option maxRecDepth 100000 in
theorem anyResv_any {a : Option Addr} {n c : Nat} {y : List Int} {w : World} (h : Nums .i64 w a n y) :
    Calls Tryz.prog 157 #[.slice a n c, .func (.func 130) #[] #[]] w fun e w' => e = .returned (.bool (y.any resv)) ∧ w = w' := by
  have HI := Lib.hid (indexResv_any (c := c) h)
  clear h
  go_enter Tryz.func157, Tryz.ntmps157
  go_wp2_with fail
  refine HI.out.mono ?_
  rintro e w1 ⟨r, rfl, rfl, hr⟩
  have HR := Lib.hid hr
  clear hr
  go_wp2_with fail
  go_ret
  exact ⟨by rw [← HR.out]; rfl, rfl⟩
set_option maxRecDepth 100000 in
theorem hasGrease_any {a : Option Addr} {n c : Nat} {l : List Vl} {w : World} (h : Vals w a n l) (hn : n ≤ 1048576000) :
    Calls Tryz.prog 137 #[.slice a n c] w (Told (.bool (hasG l)) w) := by
  have HT := Lib.hid (tagsOf_any (c := c) h hn)
  unfold Made at HT
  clear h
  go_enter Tryz.func137, Tryz.ntmps137
  go_wp2_with fail
  refine HT.out.mono ?_
  rintro e w1 ⟨q, m, d, rfl, ho, hb⟩
  have HB := Lib.hid hb
  have HI := Lib.hid (anyResv_any (c := d) ho.nums)
  clear ho hb HT
  go_wp2_with fail
  refine HI.out.mono ?_
  rintro e w2 ⟨rfl, rfl⟩
  go_wp2_with fail
  go_ret
  exact ⟨rfl, HB.out⟩
set_option maxRecDepth 100000 in
theorem stripAsk_told (k : Int) (W : World) : Calls Tryz.prog 129 #[.int .i64 k] W (Told (.bool (!resv k)) W) := by
  have HR := isReserved_any k
  generalize resv k = b at HR ⊢
  go_enter Tryz.func129, Tryz.ntmps129
  go_wp2_with (go_at_call 130; refine (HR _).mono ?_; rintro e w' ⟨rfl, rfl⟩)
  go_ret
  exact ⟨rfl, Below.refl _ _⟩
set_option maxRecDepth 100000 in
theorem stripGrease_any {a : Option Addr} {n c : Nat} {l : List Vl} {w : World} (h : Vals w a n l) (hz : ∀ z ∈ tagsX l, (Lit.int .i64 z).wf = true) (hn : n ≤ 1048576) (hit : itemsOf l ≤ 1048576) :
    Calls Tryz.prog 88 #[.slice a n c] w (MadeV 125 3 w.heap.size (strX l) w) := by
  have HW := Lib.hid (extsWhereS_any (c := c) (fun t => !resv t) h hz (fun k W _ _ => stripAsk_told k W) hn hit)
  clear h
  go_enter Tryz.func88, Tryz.ntmps88
  go_wp2_with fail
  refine HW.out.mono ?_
  rintro e w1 ⟨q, m, d, rfl, ho, hb⟩
  have HO := Lib.hid ho
  have HB := Lib.hid hb
  clear ho hb HW
  go_wp2_with fail
  go_ret
  exact ⟨_, _, _, rfl, HO.out, HB.out⟩
end Go.Proofs.YtcmjadfpifpknaaGreat
namespace Go.Proofs.YtcmjadfpifpknaaGreat
open Go.ChangeShapes Go.WideShapes Go.ChangeAt Go.RowKit
set_option linter.unusedVariables false
set_option linter.unusedSimpArgs false

theorem areV_wf {l : List Int} (h : word l ≠ 0) : ∀ z ∈ l, (Lit.int .i64 z).wf = true := fun z hz => by
  have := in_range h hz
  exact WalkArith.wf_i64 (by omega)
theorem small_wf {z : Int} (h : 1 ≤ z ∧ z ≤ 9) : (Lit.int .i64 z).wf = true := by
  obtain ⟨k, rfl⟩ : ∃ k : Nat, z = k := ⟨z.toNat, by omega⟩
  exact WalkArith.wf_i64 (by omega)
theorem exts_wf {l : List Vl} (h : areX l = true) : ∀ z ∈ tagsX l, (Lit.int .i64 z).wf = true := tags_wf (areX_parts.1 h).2.1
theorem any_rev (l M : List Int) : (l.all fun t => decide (t ∈ M.reverse)) = l.all fun t => decide (t ∈ M) := by simp
theorem run_makeO (w : World) : (Instr.makeMap 151 none).run Tryz.prog w = .ok (.map (some w.heap.size)) (w.alloc (.map #[] 0)) := run_makeMap ..
set_option maxHeartbeats 4000000 in
set_option maxRecDepth 100000 in
theorem fits_odd1 {u v : Value} {x : Hel} {y : Ans} {w : World} (h : HelW w u x) (h' : AnsW w v y) (hx : isH x = false) :
    Calls Tryz.prog 92 #[u, v] w (Told (.bool false) w) := by
  have KH := Lib.hid (fun (w0 : World) (hb : Below w.heap.size w w0) => isHello_any (h.same hb))
  have KA := Lib.hid (fun (w0 : World) (hb : Below w.heap.size w w0) => isAnswer_any (h'.same hb))
  obtain ⟨va, vn, vc, xa, xn, xc, rfl, g1, g2, g3⟩ := h
  obtain ⟨b, m, d, rfl, g4, g5⟩ := h'
  obtain ⟨hsz, hC, hD, hb0⟩ := two w #[.slice va vn vc, .slice xa xn xc] #[.int .i64 y.ver, .slice b m d] 27 44
  have hlw1 : w.heap.size + 1 < ((w.alloc (.cells #[.slice va vn vc, .slice xa xn xc] 27)).alloc (.cells #[.int .i64 y.ver, .slice b m d] 44)).heap.size := by omega
  have HB1 := Lib.hid hb0
  have HC1 := Lib.hid hC
  have HD1 := Lib.hid hD
  have G := Lib.hid (And.intro g1 (And.intro g2 g4))
  clear hb0 hC hD hsz
  rw [hx] at KH
  clear g1 g2 g3 g4 g5 hx
  obtain ⟨x0, x1, _, _⟩ := two_cells HC1.out
  obtain ⟨y0, y1, _, _⟩ := two_cells HD1.out
  go_enter Tryz.func92, Tryz.ntmps92
  clear x0 x1 y0 y1
  go_wp2_with fail
  generalize ((w.alloc (.cells #[.slice va vn vc, .slice xa xn xc] 27)).alloc (.cells #[.int .i64 y.ver, .slice b m d] 44)) = W1 at *
  refine (KH.out _ HB1.out).mono ?_
  rintro e w2 ⟨rfl, hb⟩
  have HB2 := Lib.hid (HB1.out.trans (hb.mono HB1.out.size))
  have HC2 := Lib.hid ((hb.block w.heap.size (by omega)).trans HC1.out)
  have HD2 := Lib.hid ((hb.block (w.heap.size + 1) (by omega)).trans HD1.out)
  have hlw2 := Nat.lt_of_lt_of_le hlw1 hb.size
  clear hb
  obtain ⟨x0, x1, _, _⟩ := two_cells HC2.out
  obtain ⟨y0, y1, _, _⟩ := two_cells HD2.out
  go_wp2_with fail
  go_ret
  exact ⟨rfl, HB2.out⟩
set_option maxHeartbeats 4000000 in
set_option maxRecDepth 100000 in
theorem fits_odd2 {u v : Value} {x : Hel} {y : Ans} {w : World} (h : HelW w u x) (h' : AnsW w v y) (hx : isH x = true) (hy : isA y = false) :
    Calls Tryz.prog 92 #[u, v] w (Told (.bool false) w) := by
  have KH := Lib.hid (fun (w0 : World) (hb : Below w.heap.size w w0) => isHello_any (h.same hb))
  have KA := Lib.hid (fun (w0 : World) (hb : Below w.heap.size w w0) => isAnswer_any (h'.same hb))
  obtain ⟨va, vn, vc, xa, xn, xc, rfl, g1, g2, g3⟩ := h
  obtain ⟨b, m, d, rfl, g4, g5⟩ := h'
  obtain ⟨hsz, hC, hD, hb0⟩ := two w #[.slice va vn vc, .slice xa xn xc] #[.int .i64 y.ver, .slice b m d] 27 44
  have hlw1 : w.heap.size + 1 < ((w.alloc (.cells #[.slice va vn vc, .slice xa xn xc] 27)).alloc (.cells #[.int .i64 y.ver, .slice b m d] 44)).heap.size := by omega
  have HB1 := Lib.hid hb0
  have HC1 := Lib.hid hC
  have HD1 := Lib.hid hD
  have G := Lib.hid (And.intro g1 (And.intro g2 g4))
  clear hb0 hC hD hsz
  rw [hx] at KH
  rw [hy] at KA
  clear g1 g2 g3 g4 g5 hx hy
  obtain ⟨x0, x1, _, _⟩ := two_cells HC1.out
  obtain ⟨y0, y1, _, _⟩ := two_cells HD1.out
  go_enter Tryz.func92, Tryz.ntmps92
  clear x0 x1 y0 y1
  go_wp2_with fail
  generalize ((w.alloc (.cells #[.slice va vn vc, .slice xa xn xc] 27)).alloc (.cells #[.int .i64 y.ver, .slice b m d] 44)) = W1 at *
  refine (KH.out _ HB1.out).mono ?_
  rintro e w2 ⟨rfl, hb⟩
  have HB2 := Lib.hid (HB1.out.trans (hb.mono HB1.out.size))
  have HC2 := Lib.hid ((hb.block w.heap.size (by omega)).trans HC1.out)
  have HD2 := Lib.hid ((hb.block (w.heap.size + 1) (by omega)).trans HD1.out)
  have hlw2 := Nat.lt_of_lt_of_le hlw1 hb.size
  clear hb
  obtain ⟨x0, x1, _, _⟩ := two_cells HC2.out
  obtain ⟨y0, y1, _, _⟩ := two_cells HD2.out
  go_wp2_with fail
  refine (KA.out _ HB2.out).mono ?_
  rintro e w3 ⟨rfl, hb⟩
  have HB3 := Lib.hid (HB2.out.trans (hb.mono HB2.out.size))
  have HC3 := Lib.hid ((hb.block w.heap.size (by omega)).trans HC2.out)
  have HD3 := Lib.hid ((hb.block (w.heap.size + 1) (by omega)).trans HD2.out)
  have hlw3 := Nat.lt_of_lt_of_le hlw2 hb.size
  clear hb x0 x1 y0 y1
  obtain ⟨x0, x1, _, _⟩ := two_cells HC3.out
  obtain ⟨y0, y1, _, _⟩ := two_cells HD3.out
  go_wp2_with fail
  go_ret
  exact ⟨rfl, HB3.out⟩
set_option maxHeartbeats 4000000 in
set_option maxRecDepth 100000 in
theorem fits_odd3 {u v : Value} {x : Hel} {y : Ans} {w : World} (h : HelW w u x) (h' : AnsW w v y) (hx : isH x = true) (hy : isA y = true) (hg : hasG y.exts = true) :
    Calls Tryz.prog 92 #[u, v] w (Told (.bool false) w) := by
  have KH := Lib.hid (fun (w0 : World) (hb : Below w.heap.size w w0) => isHello_any (h.same hb))
  have KA := Lib.hid (fun (w0 : World) (hb : Below w.heap.size w w0) => isAnswer_any (h'.same hb))
  obtain ⟨va, vn, vc, xa, xn, xc, rfl, g1, g2, g3⟩ := h
  obtain ⟨b, m, d, rfl, g4, g5⟩ := h'
  obtain ⟨hsz, hC, hD, hb0⟩ := two w #[.slice va vn vc, .slice xa xn xc] #[.int .i64 y.ver, .slice b m d] 27 44
  have hlw1 : w.heap.size + 1 < ((w.alloc (.cells #[.slice va vn vc, .slice xa xn xc] 27)).alloc (.cells #[.int .i64 y.ver, .slice b m d] 44)).heap.size := by omega
  have HB1 := Lib.hid hb0
  have HC1 := Lib.hid hC
  have HD1 := Lib.hid hD
  have G := Lib.hid (And.intro g1 (And.intro g2 g4))
  clear hb0 hC hD hsz
  have hxX := (isH_parts.1 hx).2
  have hyX := (isA_parts.1 hy).2
  have hmn : m ≤ 1048576000 := by have := areX_few hyX; have := g4.len; omega
  rw [hx] at KH
  rw [hy] at KA
  have KG := Lib.hid (fun (w0 : World) (hb : Below w.heap.size w w0) => hasGrease_any (c := d) (G.out.2.2.same hb) hmn)
  rw [hg] at KG
  clear g1 g2 g3 g4 g5 hx hy hg hxX hyX
  obtain ⟨x0, x1, _, _⟩ := two_cells HC1.out
  obtain ⟨y0, y1, _, _⟩ := two_cells HD1.out
  go_enter Tryz.func92, Tryz.ntmps92
  clear x0 x1 y0 y1
  go_wp2_with fail
  generalize ((w.alloc (.cells #[.slice va vn vc, .slice xa xn xc] 27)).alloc (.cells #[.int .i64 y.ver, .slice b m d] 44)) = W1 at *
  refine (KH.out _ HB1.out).mono ?_
  rintro e w2 ⟨rfl, hb⟩
  have HB2 := Lib.hid (HB1.out.trans (hb.mono HB1.out.size))
  have HC2 := Lib.hid ((hb.block w.heap.size (by omega)).trans HC1.out)
  have HD2 := Lib.hid ((hb.block (w.heap.size + 1) (by omega)).trans HD1.out)
  have hlw2 := Nat.lt_of_lt_of_le hlw1 hb.size
  clear hb
  obtain ⟨x0, x1, _, _⟩ := two_cells HC2.out
  obtain ⟨y0, y1, _, _⟩ := two_cells HD2.out
  go_wp2_with fail
  refine (KA.out _ HB2.out).mono ?_
  rintro e w3 ⟨rfl, hb⟩
  have HB3 := Lib.hid (HB2.out.trans (hb.mono HB2.out.size))
  have HC3 := Lib.hid ((hb.block w.heap.size (by omega)).trans HC2.out)
  have HD3 := Lib.hid ((hb.block (w.heap.size + 1) (by omega)).trans HD2.out)
  have hlw3 := Nat.lt_of_lt_of_le hlw2 hb.size
  clear hb x0 x1 y0 y1
  obtain ⟨x0, x1, _, _⟩ := two_cells HC3.out
  obtain ⟨y0, y1, _, _⟩ := two_cells HD3.out
  go_wp2_with fail
  refine (KG.out _ HB3.out).mono ?_
  rintro e w4 ⟨rfl, hb⟩
  have HB4 := Lib.hid (HB3.out.trans (hb.mono HB3.out.size))
  have HC4 := Lib.hid ((hb.block w.heap.size (by omega)).trans HC3.out)
  have HD4 := Lib.hid ((hb.block (w.heap.size + 1) (by omega)).trans HD3.out)
  have hlw4 := Nat.lt_of_lt_of_le hlw3 hb.size
  clear hb x0 x1 y0 y1
  obtain ⟨x0, x1, _, _⟩ := two_cells HC4.out
  obtain ⟨y0, y1, _, _⟩ := two_cells HD4.out
  go_wp2_with fail
  go_ret
  exact ⟨rfl, HB4.out⟩
set_option maxHeartbeats 4000000 in
set_option maxRecDepth 100000 in
theorem fits_odd4 {u v : Value} {x : Hel} {y : Ans} {w : World} (h : HelW w u x) (h' : AnsW w v y) (hx : isH x = true) (hy : isA y = true) (hg : hasG y.exts = false) (hver : decide (y.ver ∈ x.vers) = false) :
    Calls Tryz.prog 92 #[u, v] w (Told (.bool false) w) := by
  have KH := Lib.hid (fun (w0 : World) (hb : Below w.heap.size w w0) => isHello_any (h.same hb))
  have KA := Lib.hid (fun (w0 : World) (hb : Below w.heap.size w w0) => isAnswer_any (h'.same hb))
  obtain ⟨va, vn, vc, xa, xn, xc, rfl, g1, g2, g3⟩ := h
  obtain ⟨b, m, d, rfl, g4, g5⟩ := h'
  obtain ⟨hsz, hC, hD, hb0⟩ := two w #[.slice va vn vc, .slice xa xn xc] #[.int .i64 y.ver, .slice b m d] 27 44
  have hlw1 : w.heap.size + 1 < ((w.alloc (.cells #[.slice va vn vc, .slice xa xn xc] 27)).alloc (.cells #[.int .i64 y.ver, .slice b m d] 44)).heap.size := by omega
  have HB1 := Lib.hid hb0
  have HC1 := Lib.hid hC
  have HD1 := Lib.hid hD
  have G := Lib.hid (And.intro g1 (And.intro g2 g4))
  clear hb0 hC hD hsz
  have hxX := (isH_parts.1 hx).2
  have hyX := (isA_parts.1 hy).2
  have hmn : m ≤ 1048576000 := by have := areX_few hyX; have := g4.len; omega
  have hxn : xn ≤ 1048576000 := by have := areX_few hxX; have := g2.len; omega
  have hvn : vn ≤ 1048576 := by have := (areV_len (isH_parts.1 hx).1).1; have := g1.len; omega
  have HVW := Lib.hid (areV_wf (isH_parts.1 hx).1)
  have HXW := Lib.hid (exts_wf hxX)
  have HYW := Lib.hid (exts_wf hyX)
  have HAW := Lib.hid (small_wf (isA_parts.1 hy).1)
  have hxt : (tagsX x.exts).length ≤ 1048576 := by have := areX_few hxX; rw [tagsX_len]; omega
  rw [hx] at KH
  rw [hy] at KA
  have KG := Lib.hid (fun (w0 : World) (hb : Below w.heap.size w w0) => hasGrease_any (c := d) (G.out.2.2.same hb) hmn)
  rw [hg] at KG
  clear g1 g2 g3 g4 g5 hx hy hg hxX hyX
  obtain ⟨x0, x1, _, _⟩ := two_cells HC1.out
  obtain ⟨y0, y1, _, _⟩ := two_cells HD1.out
  go_enter Tryz.func92, Tryz.ntmps92
  clear x0 x1 y0 y1
  go_wp2_with fail
  generalize ((w.alloc (.cells #[.slice va vn vc, .slice xa xn xc] 27)).alloc (.cells #[.int .i64 y.ver, .slice b m d] 44)) = W1 at *
  refine (KH.out _ HB1.out).mono ?_
  rintro e w2 ⟨rfl, hb⟩
  have HB2 := Lib.hid (HB1.out.trans (hb.mono HB1.out.size))
  have HC2 := Lib.hid ((hb.block w.heap.size (by omega)).trans HC1.out)
  have HD2 := Lib.hid ((hb.block (w.heap.size + 1) (by omega)).trans HD1.out)
  have hlw2 := Nat.lt_of_lt_of_le hlw1 hb.size
  clear hb
  obtain ⟨x0, x1, _, _⟩ := two_cells HC2.out
  obtain ⟨y0, y1, _, _⟩ := two_cells HD2.out
  go_wp2_with fail
  refine (KA.out _ HB2.out).mono ?_
  rintro e w3 ⟨rfl, hb⟩
  have HB3 := Lib.hid (HB2.out.trans (hb.mono HB2.out.size))
  have HC3 := Lib.hid ((hb.block w.heap.size (by omega)).trans HC2.out)
  have HD3 := Lib.hid ((hb.block (w.heap.size + 1) (by omega)).trans HD2.out)
  have hlw3 := Nat.lt_of_lt_of_le hlw2 hb.size
  clear hb x0 x1 y0 y1
  obtain ⟨x0, x1, _, _⟩ := two_cells HC3.out
  obtain ⟨y0, y1, _, _⟩ := two_cells HD3.out
  go_wp2_with fail
  refine (KG.out _ HB3.out).mono ?_
  rintro e w4 ⟨rfl, hb⟩
  have HB4 := Lib.hid (HB3.out.trans (hb.mono HB3.out.size))
  have HC4 := Lib.hid ((hb.block w.heap.size (by omega)).trans HC3.out)
  have HD4 := Lib.hid ((hb.block (w.heap.size + 1) (by omega)).trans HD3.out)
  have hlw4 := Nat.lt_of_lt_of_le hlw3 hb.size
  clear hb x0 x1 y0 y1
  have hmk := run_makeO
  have hb := alloc_same w4 (.map #[] 0)
  have HO5 := Lib.hid (off_made w4)
  have HB5 := Lib.hid (HB4.out.trans (hb.mono HB4.out.size))
  have HC5 := Lib.hid ((hb.block w.heap.size (by omega)).trans HC4.out)
  have HD5 := Lib.hid ((hb.block (w.heap.size + 1) (by omega)).trans HD4.out)
  have hlw5 := Nat.lt_of_lt_of_le hlw4 hb.size
  have hlg : w4.heap.size < (w4.alloc (.map #[] 0)).heap.size := by simp
  have KK := Lib.hid (keep_any (c := vc) HO5.out (fun w' hg => G.out.1.same (HB5.out.grown hg HB5.out.size (fun j e => by cases e; omega))) HVW.out hvn)
  clear hb
  obtain ⟨x0, x1, _, _⟩ := two_cells HC5.out
  obtain ⟨y0, y1, _, _⟩ := two_cells HD5.out
  obtain ⟨t0, t1, _, _⟩ := two_cells HC4.out
  obtain ⟨u0, u1, _, _⟩ := two_cells HD4.out
  go_wp2_with fail
  generalize w4.alloc (.map #[] 0) = W5 at *
  refine KK.out.mono ?_
  rintro e w6 ⟨rfl, ho6, hg6⟩
  have HO6 := Lib.hid ho6
  have HB6 := Lib.hid (HB5.out.grown hg6 HB5.out.size (fun j e => by cases e; omega))
  have HC6 := Lib.hid ((hg6.block w.heap.size (by omega) (by simp; omega)).trans HC5.out)
  have HD6 := Lib.hid ((hg6.block (w.heap.size + 1) (by omega) (by simp; omega)).trans HD5.out)
  have hlw6 := Nat.lt_of_lt_of_le hlw5 hg6.size
  have hb := alloc_same w6 (.cells #[.int .i64 y.ver] 3)
  have HB7 := Lib.hid (HB6.out.trans (hb.mono HB6.out.size))
  have HC7 := Lib.hid ((hb.block w.heap.size (by omega)).trans HC6.out)
  have HD7 := Lib.hid ((hb.block (w.heap.size + 1) (by omega)).trans HD6.out)
  have hlw7 := Nat.lt_of_lt_of_le hlw6 hb.size
  have HO7 := Lib.hid (HO6.out.same hb)
  have KHA := Lib.hid (hasAll_any (c := 1) HO7.out (nums_new w6 .i64 y.ver 3) (fun z hz => by rw [List.mem_singleton.1 hz]; exact HAW.out))
  rw [any_rev, show ([y.ver].all fun t => decide (t ∈ x.vers)) = decide (y.ver ∈ x.vers) by simp, hver] at KHA
  clear hb ho6 hg6 x0 x1 y0 y1 t0 t1 u0 u1 KK
  obtain ⟨x0, x1, _, _⟩ := two_cells HC6.out
  obtain ⟨y0, y1, _, _⟩ := two_cells HD6.out
  go_wp2_with fail
  generalize (w6.alloc (.cells #[.int .i64 y.ver] 3)) = W7 at *
  refine KHA.out.mono ?_
  rintro e w8 ⟨rfl, rfl⟩
  clear x0 x1 y0 y1 KHA
  obtain ⟨x0, x1, _, _⟩ := two_cells HC7.out
  obtain ⟨y0, y1, _, _⟩ := two_cells HD7.out
  go_wp2_with fail
  go_ret
  exact ⟨rfl, HB7.out⟩
set_option maxHeartbeats 4000000 in
set_option maxRecDepth 100000 in
theorem fits_all {u v : Value} {x : Hel} {y : Ans} {w : World} (h : HelW w u x) (h' : AnsW w v y) (hx : isH x = true) (hy : isA y = true) (hg : hasG y.exts = false) (hver : decide (y.ver ∈ x.vers) = true) :
    Calls Tryz.prog 92 #[u, v] w (Told (.bool ((tagsX y.exts).all fun t => decide (t ∈ tagsX x.exts))) w) := by
  have KH := Lib.hid (fun (w0 : World) (hb : Below w.heap.size w w0) => isHello_any (h.same hb))
  have KA := Lib.hid (fun (w0 : World) (hb : Below w.heap.size w w0) => isAnswer_any (h'.same hb))
  obtain ⟨va, vn, vc, xa, xn, xc, rfl, g1, g2, g3⟩ := h
  obtain ⟨b, m, d, rfl, g4, g5⟩ := h'
  obtain ⟨hsz, hC, hD, hb0⟩ := two w #[.slice va vn vc, .slice xa xn xc] #[.int .i64 y.ver, .slice b m d] 27 44
  have hlw1 : w.heap.size + 1 < ((w.alloc (.cells #[.slice va vn vc, .slice xa xn xc] 27)).alloc (.cells #[.int .i64 y.ver, .slice b m d] 44)).heap.size := by omega
  have HB1 := Lib.hid hb0
  have HC1 := Lib.hid hC
  have HD1 := Lib.hid hD
  have G := Lib.hid (And.intro g1 (And.intro g2 g4))
  clear hb0 hC hD hsz
  have hxX := (isH_parts.1 hx).2
  have hyX := (isA_parts.1 hy).2
  have hmn : m ≤ 1048576000 := by have := areX_few hyX; have := g4.len; omega
  have hxn : xn ≤ 1048576000 := by have := areX_few hxX; have := g2.len; omega
  have hvn : vn ≤ 1048576 := by have := (areV_len (isH_parts.1 hx).1).1; have := g1.len; omega
  have HVW := Lib.hid (areV_wf (isH_parts.1 hx).1)
  have HXW := Lib.hid (exts_wf hxX)
  have HYW := Lib.hid (exts_wf hyX)
  have HAW := Lib.hid (small_wf (isA_parts.1 hy).1)
  have hxt : (tagsX x.exts).length ≤ 1048576 := by have := areX_few hxX; rw [tagsX_len]; omega
  rw [hx] at KH
  rw [hy] at KA
  have KG := Lib.hid (fun (w0 : World) (hb : Below w.heap.size w w0) => hasGrease_any (c := d) (G.out.2.2.same hb) hmn)
  rw [hg] at KG
  clear g1 g2 g3 g4 g5 hx hy hg hxX hyX
  obtain ⟨x0, x1, _, _⟩ := two_cells HC1.out
  obtain ⟨y0, y1, _, _⟩ := two_cells HD1.out
  go_enter Tryz.func92, Tryz.ntmps92
  clear x0 x1 y0 y1
  go_wp2_with fail
  generalize ((w.alloc (.cells #[.slice va vn vc, .slice xa xn xc] 27)).alloc (.cells #[.int .i64 y.ver, .slice b m d] 44)) = W1 at *
  refine (KH.out _ HB1.out).mono ?_
  rintro e w2 ⟨rfl, hb⟩
  have HB2 := Lib.hid (HB1.out.trans (hb.mono HB1.out.size))
  have HC2 := Lib.hid ((hb.block w.heap.size (by omega)).trans HC1.out)
  have HD2 := Lib.hid ((hb.block (w.heap.size + 1) (by omega)).trans HD1.out)
  have hlw2 := Nat.lt_of_lt_of_le hlw1 hb.size
  clear hb
  obtain ⟨x0, x1, _, _⟩ := two_cells HC2.out
  obtain ⟨y0, y1, _, _⟩ := two_cells HD2.out
  go_wp2_with fail
  refine (KA.out _ HB2.out).mono ?_
  rintro e w3 ⟨rfl, hb⟩
  have HB3 := Lib.hid (HB2.out.trans (hb.mono HB2.out.size))
  have HC3 := Lib.hid ((hb.block w.heap.size (by omega)).trans HC2.out)
  have HD3 := Lib.hid ((hb.block (w.heap.size + 1) (by omega)).trans HD2.out)
  have hlw3 := Nat.lt_of_lt_of_le hlw2 hb.size
  clear hb x0 x1 y0 y1
  obtain ⟨x0, x1, _, _⟩ := two_cells HC3.out
  obtain ⟨y0, y1, _, _⟩ := two_cells HD3.out
  go_wp2_with fail
  refine (KG.out _ HB3.out).mono ?_
  rintro e w4 ⟨rfl, hb⟩
  have HB4 := Lib.hid (HB3.out.trans (hb.mono HB3.out.size))
  have HC4 := Lib.hid ((hb.block w.heap.size (by omega)).trans HC3.out)
  have HD4 := Lib.hid ((hb.block (w.heap.size + 1) (by omega)).trans HD3.out)
  have hlw4 := Nat.lt_of_lt_of_le hlw3 hb.size
  clear hb x0 x1 y0 y1
  have hmk := run_makeO
  have hb := alloc_same w4 (.map #[] 0)
  have HO5 := Lib.hid (off_made w4)
  have HB5 := Lib.hid (HB4.out.trans (hb.mono HB4.out.size))
  have HC5 := Lib.hid ((hb.block w.heap.size (by omega)).trans HC4.out)
  have HD5 := Lib.hid ((hb.block (w.heap.size + 1) (by omega)).trans HD4.out)
  have hlw5 := Nat.lt_of_lt_of_le hlw4 hb.size
  have hlg : w4.heap.size < (w4.alloc (.map #[] 0)).heap.size := by simp
  have KK := Lib.hid (keep_any (c := vc) HO5.out (fun w' hg => G.out.1.same (HB5.out.grown hg HB5.out.size (fun j e => by cases e; omega))) HVW.out hvn)
  clear hb
  obtain ⟨x0, x1, _, _⟩ := two_cells HC5.out
  obtain ⟨y0, y1, _, _⟩ := two_cells HD5.out
  obtain ⟨t0, t1, _, _⟩ := two_cells HC4.out
  obtain ⟨u0, u1, _, _⟩ := two_cells HD4.out
  go_wp2_with fail
  generalize w4.alloc (.map #[] 0) = W5 at *
  refine KK.out.mono ?_
  rintro e w6 ⟨rfl, ho6, hg6⟩
  have HO6 := Lib.hid ho6
  have HB6 := Lib.hid (HB5.out.grown hg6 HB5.out.size (fun j e => by cases e; omega))
  have HC6 := Lib.hid ((hg6.block w.heap.size (by omega) (by simp; omega)).trans HC5.out)
  have HD6 := Lib.hid ((hg6.block (w.heap.size + 1) (by omega) (by simp; omega)).trans HD5.out)
  have hlw6 := Nat.lt_of_lt_of_le hlw5 hg6.size
  have hb := alloc_same w6 (.cells #[.int .i64 y.ver] 3)
  have HB7 := Lib.hid (HB6.out.trans (hb.mono HB6.out.size))
  have HC7 := Lib.hid ((hb.block w.heap.size (by omega)).trans HC6.out)
  have HD7 := Lib.hid ((hb.block (w.heap.size + 1) (by omega)).trans HD6.out)
  have hlw7 := Nat.lt_of_lt_of_le hlw6 hb.size
  have HO7 := Lib.hid (HO6.out.same hb)
  have KHA := Lib.hid (hasAll_any (c := 1) HO7.out (nums_new w6 .i64 y.ver 3) (fun z hz => by rw [List.mem_singleton.1 hz]; exact HAW.out))
  rw [any_rev, show ([y.ver].all fun t => decide (t ∈ x.vers)) = decide (y.ver ∈ x.vers) by simp, hver] at KHA
  clear hb ho6 hg6 x0 x1 y0 y1 t0 t1 u0 u1 KK
  obtain ⟨x0, x1, _, _⟩ := two_cells HC6.out
  obtain ⟨y0, y1, _, _⟩ := two_cells HD6.out
  go_wp2_with fail
  generalize (w6.alloc (.cells #[.int .i64 y.ver] 3)) = W7 at *
  refine KHA.out.mono ?_
  rintro e w8 ⟨rfl, rfl⟩
  clear x0 x1 y0 y1 KHA
  have KT := Lib.hid (tagsOf_any (c := xc) (G.out.2.1.same HB7.out) hxn)
  obtain ⟨x0, x1, _, _⟩ := two_cells HC7.out
  obtain ⟨y0, y1, _, _⟩ := two_cells HD7.out
  go_wp2_with fail
  refine KT.out.mono ?_
  rintro e w9 ⟨q9, n9, c9, rfl, ho9, hb⟩
  have HB9 := Lib.hid (HB7.out.trans (hb.mono HB7.out.size))
  have HC9 := Lib.hid ((hb.block w.heap.size (by omega)).trans HC7.out)
  have HD9 := Lib.hid ((hb.block (w.heap.size + 1) (by omega)).trans HD7.out)
  have hlw9 := Nat.lt_of_lt_of_le hlw7 hb.size
  have HO9 := Lib.hid (HO7.out.same hb)
  have hn9 := ho9.len
  have hlg9 := HO7.out.lt
  have hsp9 := ho9.span
  have KP := Lib.hid (keep_any (c := c9) HO9.out (fun w' hg => (ho9.apart (b := some ⟨w4.heap.size, 0, none⟩) (m := 0) (d := 0) (lo' := w4.heap.size) (hi' := w4.heap.size + 1) hg hsp9 (fun ad e => by cases e; exact ⟨Nat.le_refl _, Nat.lt_succ_self _⟩) (Or.inr hlg9)).nums) HXW.out (by omega))
  clear hb ho9 x0 x1 y0 y1 KT hn9 hsp9
  obtain ⟨x0, x1, _, _⟩ := two_cells HC9.out
  obtain ⟨y0, y1, _, _⟩ := two_cells HD9.out
  go_wp2_with fail
  refine KP.out.mono ?_
  rintro e w10 ⟨rfl, ho10, hg10⟩
  have HO10 := Lib.hid ho10
  have HB10 := Lib.hid (HB9.out.grown hg10 HB9.out.size (fun j e => by cases e; omega))
  have HC10 := Lib.hid ((hg10.block w.heap.size (by omega) (by simp; omega)).trans HC9.out)
  have HD10 := Lib.hid ((hg10.block (w.heap.size + 1) (by omega) (by simp; omega)).trans HD9.out)
  have hlw10 := Nat.lt_of_lt_of_le hlw9 hg10.size
  have KT := Lib.hid (tagsOf_any (c := d) (G.out.2.2.same HB10.out) hmn)
  clear ho10 hg10 x0 x1 y0 y1 KP
  obtain ⟨x0, x1, _, _⟩ := two_cells HC10.out
  obtain ⟨y0, y1, _, _⟩ := two_cells HD10.out
  go_wp2_with fail
  refine KT.out.mono ?_
  rintro e w11 ⟨q11, n11, c11, rfl, ho11, hb⟩
  have HB11 := Lib.hid (HB10.out.trans (hb.mono HB10.out.size))
  have HC11 := Lib.hid ((hb.block w.heap.size (by omega)).trans HC10.out)
  have HD11 := Lib.hid ((hb.block (w.heap.size + 1) (by omega)).trans HD10.out)
  have hlw11 := Nat.lt_of_lt_of_le hlw10 hb.size
  have KHA := Lib.hid (hasAll_any (c := c11) (HO10.out.same hb) ho11.nums HYW.out)
  rw [any_rev] at KHA
  clear hb ho11 x0 x1 y0 y1 KT
  obtain ⟨x0, x1, _, _⟩ := two_cells HC11.out
  obtain ⟨y0, y1, _, _⟩ := two_cells HD11.out
  go_wp2_with fail
  refine KHA.out.mono ?_
  rintro e w12 ⟨rfl, rfl⟩
  clear x0 x1 y0 y1 KHA
  obtain ⟨x0, x1, _, _⟩ := two_cells HC11.out
  obtain ⟨y0, y1, _, _⟩ := two_cells HD11.out
  go_wp2_with fail
  go_ret
  exact ⟨rfl, HB11.out⟩
theorem fitsHello_any {u v : Value} {x : Hel} {y : Ans} {w : World} (h : HelW w u x) (h' : AnsW w v y) : Calls Tryz.prog 92 #[u, v] w (Told (.bool (fitsA x y)) w) := by
  unfold fitsA
  rw [fitsX_split]
  cases hx : isH x with
  | false => rw [Bool.false_and, Bool.false_and, Bool.and_false]; exact fits_odd1 h h' hx
  | true =>
    cases hy : isA y with
    | false => rw [Bool.and_false, Bool.false_and, Bool.and_false]; exact fits_odd2 h h' hx hy
    | true =>
      cases hg : hasG y.exts with
      | true => rw [Bool.not_true, Bool.false_and, Bool.false_and]; exact fits_odd3 h h' hx hy hg
      | false =>
        cases hver : decide (y.ver ∈ x.vers) with
        | false => rw [Bool.and_false, Bool.and_false]; exact fits_odd4 h h' hx hy hg hver
        | true =>
          rw [Bool.not_false, Bool.true_and, Bool.and_true, Bool.and_true, Bool.and_true]
          exact fits_all h h' hx hy hg hver
end Go.Proofs.YtcmjadfpifpknaaGreat
namespace Go.Proofs.YtcmjadfpifpknaaGreat
open Go.ChangeShapes Go.WideShapes Go.ChangeAt Go.RowKit Go.Shelf
set_option linter.unusedVariables false
attribute [local go_sem] Oper.semAt_some

/-- From a on lie elements of one cell each, in a block below n₀. -/
def Holds {α : Type} (enc : α → Value) (n₀ : Nat) (W : World) (a : Option Addr) (xs : List α) : Prop := ∀ k x, xs[k]? = some x → ∃ ad, a = some ad ∧ W.cell? (ad.add k) = some (enc x) ∧ ad.block < n₀
theorem Holds.below {α : Type} {enc : α → Value} {n₀ : Nat} {A B : World} {a : Option Addr} {xs : List α} (h : Holds enc n₀ A a xs) (hb : Below n₀ A B) : Holds enc n₀ B a xs := fun k x hk => by
  obtain ⟨ad, e, h1, h2⟩ := h k x hk
  exact ⟨ad, e, (hb.cell (p := ad.add k) (by rw [addr_block]; exact h2)).trans h1, h2⟩
theorem take_more {α : Type} {xs : List α} {k : Nat} {x : α} (h : xs[k]? = some x) : xs.take (k + 1) = xs.take k ++ [x] := by rw [List.take_add_one, h]; rfl

theorem firstI_any (a : Option Addr) (n c : Nat) (w : World) :
    Calls Tryz.prog 171 #[.slice a n c] w fun e w' => e = .returned (.func (.func 174) #[] #[.pointer (some ⟨w.heap.size, 0, none⟩)]) ∧ w' = w.alloc (.cells #[.slice a n c] 183) := by
  have K : Calls Tryz.prog 173 #[.slice a n c] w fun e w' => e = .returned (.func (.func 174) #[] #[.pointer (some ⟨w.heap.size, 0, none⟩)]) ∧ w' = w.alloc (.cells #[.slice a n c] 183) := by
    go_enter Tryz.func173, Tryz.ntmps173
    go_wp2
    go_ret
    exact ⟨rfl, rfl⟩
  go_enter Tryz.func171, Tryz.ntmps171
  go_wp2_with fail
  refine K.mono ?_
  rintro e w1 ⟨rfl, rfl⟩
  go_wp2_with fail
  go_ret
  exact ⟨rfl, rfl⟩
set_option maxRecDepth 100000 in
set_option maxHeartbeats 2000000 in
theorem valuesI_in {α : Type} (enc : α → Value) (m l g n₀ : Nat) (a : Option Addr) (n c : Nat) (xs : List α) (hm : 1 ≤ m) (hl : xs.length = n) (hn : (n : Int) ≤ 9223372036854775807) (J Jx : List α → World → Prop)
    (hY : ∀ pre x W, J pre W → pre.length < n → YieldAt Fence.wide (m - 1) Tryz.prog l #[enc x] W fun e W' =>
      (e = .returned (.bool true) ∧ J (pre ++ [x]) W' ∧ Below n₀ W W') ∨ (e = .returned (.bool false) ∧ Jx (pre ++ [x]) W'))
    (W : World) (hG : W.cell? ⟨g, 0, none⟩ = some (.slice a n c)) (hH : Holds enc n₀ W a xs) (h0 : J [] W) :
    CallsIn Fence.wide m Tryz.prog 174 #[.func (.yield l) #[] #[], .pointer (some ⟨g, 0, none⟩)] W fun e W' => (∃ v, e = .returned v) ∧
      ((∃ ys, ys = xs ∧ J ys W') ∨ (∃ pre, pre <+: xs ∧ Jx pre W')) := by
  have HH := Lib.hid hH
  clear hH
  refine callsIn_of_wp Tryz.func174 rfl trivial ?_ rfl
  simp only [Tryz.ntmps174, List.size_toArray, List.length_cons, List.length_nil, Nat.reduceAdd, Nat.reduceSub, Array.replicate_succ, Array.replicate_zero, List.push_toArray, List.append_toArray, List.nil_append, List.cons_append]
  gi_wp2
  gi_loopw [7] (fun i wr => ∃ k : Nat, k ≤ n ∧ i = .int .i64 k ∧ J (xs.take k) wr ∧ Below n₀ W wr) (fun i _ => n - (intOf i).toNat)
  case atStart => exact ⟨0, Nat.zero_le _, rfl, h0, Below.refl _ _⟩
  case round =>
    obtain ⟨k, hk, rfl, hJs, hnx⟩ := hrel
    by_cases hlt : k < n
    · obtain ⟨x, hx⟩ : ∃ x, xs[k]? = some x := ⟨_, List.getElem?_eq_getElem (by omega)⟩
      obtain ⟨ad, rfl, hc, _⟩ := HH.out.below hnx k x hx
      obtain ⟨fn, tmps, assign, body, hy, hR⟩ := hY _ x wr hJs (by rw [List.length_take]; omega)
      have HX := Lib.hid (take_more hx)
      clear hx
      gi_wp2
      refine hR.mono ?_
      rintro e W3 (⟨rfl, hJ3, hk3⟩ | ⟨rfl, hJx3⟩)
      · gi_wp2
        go_roundw
        case rel => exact ⟨k + 1, by omega, by go_num, by rw [HX.out]; exact hJ3, hnx.trans hk3⟩
        case measure => simp [intOf]; omega
      · gi_wp2
        refine bodyPost_ret (results_none rfl _ _ _) rfl ?_
        exact ⟨⟨_, rfl⟩, .inr ⟨_, ⟨xs.drop (k + 1), by rw [← HX.out, List.take_append_drop]⟩, hJx3⟩⟩
    · obtain rfl : k = n := by omega
      rw [List.take_of_length_le (by omega)] at hJs
      gi_wp2
      go_end0
      exact ⟨⟨_, rfl⟩, .inl ⟨_, rfl, hJs⟩⟩
theorem valuesI_stops {α : Type} (enc : α → Value) (m g n₀ : Nat) (a : Option Addr) (n c : Nat) (xs : List α) (hm : 1 ≤ m) (hl : xs.length = n) (hn : (n : Int) ≤ 9223372036854775807) (w : World) (hG : w.cell? ⟨g, 0, none⟩ = some (.slice a n c)) (hs : n₀ ≤ w.heap.size) (hH : Holds enc n₀ w a xs) :
    SeqStopsK Fence.wide m Tryz.prog 174 #[.pointer (some ⟨g, 0, none⟩)] (fun x : α => #[enc x]) (Below n₀) (fun ys => ys = xs) (fun pre => pre <+: xs) n w := fun l J Jx W hW hJ _ hY h0 =>
  valuesI_in enc m l g n₀ a n c xs hm hl hn J Jx hY W (cell_stay hG hW) (hH.below (hW.mono hs)) h0

theorem firstR_any (a : Option Addr) (n c : Nat) (w : World) :
    Calls Tryz.prog 153 #[.slice a n c] w fun e w' => e = .returned (.func (.func 172) #[] #[.pointer (some ⟨w.heap.size, 0, none⟩)]) ∧ w' = w.alloc (.cells #[.slice a n c] 165) := by
  have K : Calls Tryz.prog 167 #[.slice a n c] w fun e w' => e = .returned (.func (.func 172) #[] #[.pointer (some ⟨w.heap.size, 0, none⟩)]) ∧ w' = w.alloc (.cells #[.slice a n c] 165) := by
    go_enter Tryz.func167, Tryz.ntmps167
    go_wp2
    go_ret
    exact ⟨rfl, rfl⟩
  go_enter Tryz.func153, Tryz.ntmps153
  go_wp2_with fail
  refine K.mono ?_
  rintro e w1 ⟨rfl, rfl⟩
  go_wp2_with fail
  go_ret
  exact ⟨rfl, rfl⟩
set_option maxRecDepth 100000 in
set_option maxHeartbeats 2000000 in
theorem valuesR_in {α : Type} (enc : α → Value) (m l g n₀ : Nat) (a : Option Addr) (n c : Nat) (xs : List α) (hm : 1 ≤ m) (hl : xs.length = n) (hn : (n : Int) ≤ 9223372036854775807) (J Jx : List α → World → Prop)
    (hY : ∀ pre x W, J pre W → pre.length < n → YieldAt Fence.wide (m - 1) Tryz.prog l #[enc x] W fun e W' =>
      (e = .returned (.bool true) ∧ J (pre ++ [x]) W' ∧ Below n₀ W W') ∨ (e = .returned (.bool false) ∧ Jx (pre ++ [x]) W'))
    (W : World) (hG : W.cell? ⟨g, 0, none⟩ = some (.slice a n c)) (hH : Holds enc n₀ W a xs) (h0 : J [] W) :
    CallsIn Fence.wide m Tryz.prog 172 #[.func (.yield l) #[] #[], .pointer (some ⟨g, 0, none⟩)] W fun e W' => (∃ v, e = .returned v) ∧
      ((∃ ys, ys = xs ∧ J ys W') ∨ (∃ pre, pre <+: xs ∧ Jx pre W')) := by
  have HH := Lib.hid hH
  clear hH
  refine callsIn_of_wp Tryz.func172 rfl trivial ?_ rfl
  simp only [Tryz.ntmps172, List.size_toArray, List.length_cons, List.length_nil, Nat.reduceAdd, Nat.reduceSub, Array.replicate_succ, Array.replicate_zero, List.push_toArray, List.append_toArray, List.nil_append, List.cons_append]
  gi_wp2
  gi_loopw [7] (fun i wr => ∃ k : Nat, k ≤ n ∧ i = .int .i64 k ∧ J (xs.take k) wr ∧ Below n₀ W wr) (fun i _ => n - (intOf i).toNat)
  case atStart => exact ⟨0, Nat.zero_le _, rfl, h0, Below.refl _ _⟩
  case round =>
    obtain ⟨k, hk, rfl, hJs, hnx⟩ := hrel
    by_cases hlt : k < n
    · obtain ⟨x, hx⟩ : ∃ x, xs[k]? = some x := ⟨_, List.getElem?_eq_getElem (by omega)⟩
      obtain ⟨ad, rfl, hc, _⟩ := HH.out.below hnx k x hx
      obtain ⟨fn, tmps, assign, body, hy, hR⟩ := hY _ x wr hJs (by rw [List.length_take]; omega)
      have HX := Lib.hid (take_more hx)
      clear hx
      gi_wp2
      refine hR.mono ?_
      rintro e W3 (⟨rfl, hJ3, hk3⟩ | ⟨rfl, hJx3⟩)
      · gi_wp2
        go_roundw
        case rel => exact ⟨k + 1, by omega, by go_num, by rw [HX.out]; exact hJ3, hnx.trans hk3⟩
        case measure => simp [intOf]; omega
      · gi_wp2
        refine bodyPost_ret (results_none rfl _ _ _) rfl ?_
        exact ⟨⟨_, rfl⟩, .inr ⟨_, ⟨xs.drop (k + 1), by rw [← HX.out, List.take_append_drop]⟩, hJx3⟩⟩
    · obtain rfl : k = n := by omega
      rw [List.take_of_length_le (by omega)] at hJs
      gi_wp2
      go_end0
      exact ⟨⟨_, rfl⟩, .inl ⟨_, rfl, hJs⟩⟩
theorem valuesR_stops {α : Type} (enc : α → Value) (m g n₀ : Nat) (a : Option Addr) (n c : Nat) (xs : List α) (hm : 1 ≤ m) (hl : xs.length = n) (hn : (n : Int) ≤ 9223372036854775807) (w : World) (hG : w.cell? ⟨g, 0, none⟩ = some (.slice a n c)) (hs : n₀ ≤ w.heap.size) (hH : Holds enc n₀ w a xs) :
    SeqStopsK Fence.wide m Tryz.prog 172 #[.pointer (some ⟨g, 0, none⟩)] (fun x : α => #[enc x]) (Below n₀) (fun ys => ys = xs) (fun pre => pre <+: xs) n w := fun l J Jx W hW hJ _ hY h0 =>
  valuesR_in enc m l g n₀ a n c xs hm hl hn J Jx hY W (cell_stay hG hW) (hH.below (hW.mono hs)) h0
end Go.Proofs.YtcmjadfpifpknaaGreat
