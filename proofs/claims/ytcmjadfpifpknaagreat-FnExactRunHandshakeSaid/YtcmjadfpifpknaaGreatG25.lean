/- The extensions whose tag is in a list: by the program. What a side answers: by the program. Handshakes under attack: by the program. A number put into an ascending list, by the model. -/
import Derived.Test.YtcmjadfpifpknaaGreatG24
import Derived.Test.YtcmjadfpifpknaaGreatG17
import Derived.Test.YtcmjadfpifpknaaGreatG19
import Derived.Test.YtcmjadfpifpknaaGreatG22
import Derived.Test.YtcmjadfpifpknaaGreatG13
import Derived.Test.YtcmjadfpifpknaaGreatG1
import Derived.Test.YtcmjadfpifpknaaGreatG5
import Derived.Deep.RegionHeld3
namespace Go.Proofs.YtcmjadfpifpknaaGreat
open Go.ChangeShapes Go.WideShapes Go.ChangeAt Go.RowKit
set_option linter.unusedVariables false
set_option linter.unusedSimpArgs false

set_option maxHeartbeats 1000000 in
set_option maxRecDepth 100000 in
theorem knownOf1_told {ts : List Int} {b m P : Nat} (k : Int) (W : World) (hk : (Lit.int .i64 k).wf = true) (hm : W.ownsMap Tryz.prog 3 (plainElem (H := Unit) Tryz.prog 3) b m (pl 0 ts)) (hc : W.cell? ⟨P, 0, none⟩ = some (.map (some b))) :
    Calls Tryz.prog 131 #[.int .i64 k, .pointer (some ⟨P, 0, none⟩)] W (Told (.bool (decide (k ∈ ts))) W) := by
  have hkey := Maps.keyOf_int_mk Tryz.underlying3 hk
  have HH : Hid (Maps.has (pl 0 ts) (.int .i64 k) = decide (k ∈ ts)) := Lib.hid (pl_has _ _ _)
  have HM := Lib.hid hm
  clear hm
  go_enter Tryz.func131, Tryz.ntmps131
  go_wp2_with (at_lookup; refine wpList_lookup_own_ok_int _ rfl _ _ 127 rfl 3 3 .i64 int_keys Tryz.underlying127 Tryz.underlying3 (map_zero _) b m (pl 0 ts) rfl HM.out _ _ rfl hkey ?_; intro cc hcc _; rw [HH.out])
  go_ret
  exact ⟨rfl, Below.refl _ _⟩
set_option maxHeartbeats 4000000 in
set_option maxRecDepth 100000 in
theorem knownOf_any {a b : Option Addr} {n c m d : Nat} {l : List Vl} {ts : List Int} {w : World} (h : Vals w a n l) (h' : Nums .i64 w b m ts) (hz : ∀ z ∈ tagsX l, (Lit.int .i64 z).wf = true) (hz' : ∀ z ∈ ts, (Lit.int .i64 z).wf = true) (hn : n ≤ 1048576) (hit : itemsOf l ≤ 1048576) (hm : m ≤ 1048576000) :
    Calls Tryz.prog 89 #[.slice a n c, .slice b m d] w (MadeV 125 3 w.heap.size (knownOf l ts) w) := by
  have HP := Lib.hid (placesOf_any b m d ts w h' hz' hm)
  have H := Lib.hid h
  clear h h'
  rw [knownOf_wh]
  go_enter Tryz.func89, Tryz.ntmps89
  go_wp2_with fail
  refine HP.out.mono ?_
  rintro e w1 ⟨rfl, hown, hb1⟩
  have HM := Lib.hid hown
  have HB1 := Lib.hid hb1
  have hs1 := hb1.size
  have hmlt := hown.lt
  have hal : Below w1.heap.size w1 (w1.alloc (.cells #[.map (some w.heap.size)] 127)) := alloc_same _ _
  have hcl : (w1.alloc (.cells #[.map (some w.heap.size)] 127)).cell? ⟨w1.heap.size, 0, none⟩ = some (.map (some w.heap.size)) := block_cell (heap_alloc_new w1 _) 0
  have HW := Lib.hid (extsWhereK_any (fun k => decide (k ∈ ts)) w1.heap.size (a := a) (n := n) (c := c) (l := l) (w := w1.alloc (.cells #[.map (some w.heap.size)] 127)) ((H.out.same HB1.out).same hal) hz (fun k W hk hb =>
    knownOf1_told k W hk (HM.out.kept (grown_below (hal.trans (hb.mono hal.size)) none) (by simp)) (cell_stay hcl hb)) hn hit)
  have HAL := Lib.hid hal
  clear hown hb1 HP hal hcl
  go_wp2_with fail
  refine HW.out.mono ?_
  rintro e w2 ⟨q, m2, d2, rfl, ho, hb2⟩
  have hs2 := HAL.out.size
  have HR : Hid (MadeV 125 3 w.heap.size (whX (fun k => decide (k ∈ ts)) l) w (.returned (.slice q m2 d2)) w2) := Lib.hid ⟨_, _, _, rfl, ho.lower (by omega), HB1.out.trans ((HAL.out.mono hs1).trans (hb2.mono (by omega)))⟩
  clear ho hb2
  go_wp2_with fail
  go_ret
  exact HR.out
end Go.Proofs.YtcmjadfpifpknaaGreat
namespace Go.Proofs.YtcmjadfpifpknaaGreat
open Go.ChangeShapes Go.WideShapes Go.ChangeAt Go.RowKit
set_option linter.unusedVariables false
set_option linter.unusedSimpArgs false

theorem set2_insideA (w : World) (g : Nat) (u v : Value) : Inside g (g + 1) w ((w.setCell ⟨g, 0, none⟩ u).setCell ⟨g, 1, none⟩ v) :=
  Inside.row (lo := g) (hi := g + 1) ((set_grown w g 0 u).trans (set_grown _ g 1 v)) (fun r e => by cases e; exact ⟨Nat.le_refl _, Nat.lt_succ_self _⟩)
theorem tags_wfH {x : Hel} (h : isH x = true) : ∀ z ∈ tagsX x.exts, (Lit.int .i64 z).wf = true := tags_wf (areX_parts.1 (isH_parts.1 h).2).2.1
theorem known_tags {l : List Vl} {ts : List Int} : ∀ z ∈ tagsX (knownOf l ts), z ∈ tagsX l := fun z hz => by
  unfold tagsX knownOf at *
  obtain ⟨e, he, rfl⟩ := List.mem_map.1 hz
  exact List.mem_map_of_mem (List.mem_filter.1 he).1
set_option maxHeartbeats 4000000 in
set_option maxRecDepth 100000 in
theorem choose_none {a b : Option Addr} {n c m d : Nat} {vs ts : List Int} {v : Value} {x : Hel} {w : World} (h1 : Nums .i64 w a n vs) (h2 : Nums .i64 w b m ts) (h : HelW w v x) (hz : ∀ z ∈ ts, (Lit.int .i64 z).wf = true) (hn : n ≤ 1048576) (hm : m ≤ 1048576) (h0 : best vs x.vers = 0) :
    Calls Tryz.prog 45 #[.slice a n c, .slice b m d, v] w (MadeAnsB w.heap.size ⟨0, []⟩ false w) := by
  have KH := Lib.hid (fun (w0 : World) (hb : Below w.heap.size w w0) => isHello_any (h.same hb))
  obtain ⟨va, vn, vc, xa, xn, xc, rfl, g1, g2, g3⟩ := h
  obtain ⟨hsz, hC, hD, hb0⟩ := two w #[.slice va vn vc, .slice xa xn xc] #[.int .i64 0, .slice none 0 0] 27 44
  have HB := Lib.hid hb0
  have KB := Lib.hid (told_is (bestCommon_any (c := c) (d := vc) (h1.same hb0) (g1.same hb0)))
  have H2 := Lib.hid (And.intro h2 (And.intro g2 hz))
  obtain ⟨B, hB⟩ : ∃ B : Nat, best vs x.vers = B := ⟨_, rfl⟩
  rw [hB] at KB
  have hlw : w.heap.size + 1 < ((w.alloc (.cells #[.slice va vn vc, .slice xa xn xc] 27)).alloc (.cells #[.int .i64 0, .slice none 0 0] 44)).heap.size := by omega
  have HC := Lib.hid hC
  have HD := Lib.hid hD
  clear hb0 hC hD hsz
  have hB0 : ((B : Int) == 0) = true := by rw [← hB, h0]; rfl
  clear h1 h2 hz g1 g2 g3 hB h0
  go_enter Tryz.func45, Tryz.ntmps45
  go_wp2_with fail
  generalize ((w.alloc (.cells #[.slice va vn vc, .slice xa xn xc] 27)).alloc (.cells #[.int .i64 0, .slice none 0 0] 44)) = W1 at *
  refine KB.out.mono ?_
  rintro e w2 ⟨rfl, hb⟩
  have HB2 := Lib.hid (HB.out.trans (hb.mono HB.out.size))
  have HC2 := Lib.hid ((hb.block w.heap.size (by omega)).trans HC.out)
  have HD2 := Lib.hid ((hb.block (w.heap.size + 1) (by omega)).trans HD.out)
  have hs2 := Nat.lt_of_lt_of_le hlw hb.size
  clear hb
  obtain ⟨m0, m1, q0, q1⟩ := two_cells HD2.out
  obtain ⟨z0, z1, hZ⟩ := two_put HD2.out (.int .i64 0) (.slice none 0 0)
  clear hZ
  go_wp2_with fail
  (try simp only [Exit.inBlock, Exit.then])
  refine bodyPost_ret (by simp [results, Tryz.results45, go_sem, z0, z1]; try rfl) rfl ?_
  exact ⟨_, rfl, no_ans (by simp; have := HB2.out.size; omega), (HB2.out.setCell (Nat.le_succ _) _).setCell (Nat.le_succ _) _⟩
set_option maxHeartbeats 4000000 in
set_option maxRecDepth 100000 in
theorem choose_odd {a b : Option Addr} {n c m d : Nat} {vs ts : List Int} {v : Value} {x : Hel} {w : World} (h1 : Nums .i64 w a n vs) (h2 : Nums .i64 w b m ts) (h : HelW w v x) (hz : ∀ z ∈ ts, (Lit.int .i64 z).wf = true) (hn : n ≤ 1048576) (hm : m ≤ 1048576) (h0 : ¬ best vs x.vers = 0) (hx : isH x = false) :
    Calls Tryz.prog 45 #[.slice a n c, .slice b m d, v] w (MadeAnsB w.heap.size ⟨0, []⟩ false w) := by
  have KH := Lib.hid (fun (w0 : World) (hb : Below w.heap.size w w0) => isHello_any (h.same hb))
  obtain ⟨va, vn, vc, xa, xn, xc, rfl, g1, g2, g3⟩ := h
  obtain ⟨hsz, hC, hD, hb0⟩ := two w #[.slice va vn vc, .slice xa xn xc] #[.int .i64 0, .slice none 0 0] 27 44
  have HB := Lib.hid hb0
  have KB := Lib.hid (told_is (bestCommon_any (c := c) (d := vc) (h1.same hb0) (g1.same hb0)))
  have H2 := Lib.hid (And.intro h2 (And.intro g2 hz))
  obtain ⟨B, hB⟩ : ∃ B : Nat, best vs x.vers = B := ⟨_, rfl⟩
  rw [hB] at KB
  have hlw : w.heap.size + 1 < ((w.alloc (.cells #[.slice va vn vc, .slice xa xn xc] 27)).alloc (.cells #[.int .i64 0, .slice none 0 0] 44)).heap.size := by omega
  have HC := Lib.hid hC
  have HD := Lib.hid hD
  clear hb0 hC hD hsz
  have hB0 : ((B : Int) == 0) = false := by simp; omega
  rw [hx] at KH
  clear h1 h2 hz g1 g2 g3 hB h0 hx
  go_enter Tryz.func45, Tryz.ntmps45
  go_wp2_with fail
  generalize ((w.alloc (.cells #[.slice va vn vc, .slice xa xn xc] 27)).alloc (.cells #[.int .i64 0, .slice none 0 0] 44)) = W1 at *
  refine KB.out.mono ?_
  rintro e w2 ⟨rfl, hb⟩
  have HB2 := Lib.hid (HB.out.trans (hb.mono HB.out.size))
  have HC2 := Lib.hid ((hb.block w.heap.size (by omega)).trans HC.out)
  have HD2 := Lib.hid ((hb.block (w.heap.size + 1) (by omega)).trans HD.out)
  have hs2 := Nat.lt_of_lt_of_le hlw hb.size
  clear hb
  obtain ⟨x0, x1, _, _⟩ := two_cells HC2.out
  go_wp2_with fail
  refine (KH.out _ HB2.out).mono ?_
  rintro e w3 ⟨rfl, hb⟩
  have HB3 := Lib.hid (HB2.out.trans (hb.mono HB2.out.size))
  have HC3 := Lib.hid ((hb.block w.heap.size (by omega)).trans HC2.out)
  have HD3 := Lib.hid ((hb.block (w.heap.size + 1) (by omega)).trans HD2.out)
  have hs3 := Nat.lt_of_lt_of_le hs2 hb.size
  clear hb x0 x1
  obtain ⟨m0, m1, q0, q1⟩ := two_cells HD3.out
  obtain ⟨z0, z1, hZ⟩ := two_put HD3.out (.int .i64 0) (.slice none 0 0)
  clear hZ
  go_wp2_with fail
  (try simp only [Exit.inBlock, Exit.then])
  refine bodyPost_ret (by simp [results, Tryz.results45, go_sem, z0, z1]; try rfl) rfl ?_
  exact ⟨_, rfl, no_ans (by simp; have := HB3.out.size; omega), (HB3.out.setCell (Nat.le_succ _) _).setCell (Nat.le_succ _) _⟩
set_option maxHeartbeats 4000000 in
set_option maxRecDepth 100000 in
theorem choose_yes {a b : Option Addr} {n c m d : Nat} {vs ts : List Int} {v : Value} {x : Hel} {w : World} (h1 : Nums .i64 w a n vs) (h2 : Nums .i64 w b m ts) (h : HelW w v x) (hz : ∀ z ∈ ts, (Lit.int .i64 z).wf = true) (hn : n ≤ 1048576) (hm : m ≤ 1048576) (h0 : ¬ best vs x.vers = 0) (hx : isH x = true) :
    Calls Tryz.prog 45 #[.slice a n c, .slice b m d, v] w (MadeAnsB w.heap.size ⟨(best vs x.vers : Int), strX (knownOf x.exts ts)⟩ true w) := by
  have KH := Lib.hid (fun (w0 : World) (hb : Below w.heap.size w w0) => isHello_any (h.same hb))
  obtain ⟨va, vn, vc, xa, xn, xc, rfl, g1, g2, g3⟩ := h
  obtain ⟨hsz, hC, hD, hb0⟩ := two w #[.slice va vn vc, .slice xa xn xc] #[.int .i64 0, .slice none 0 0] 27 44
  have HB := Lib.hid hb0
  have KB := Lib.hid (told_is (bestCommon_any (c := c) (d := vc) (h1.same hb0) (g1.same hb0)))
  have H2 := Lib.hid (And.intro h2 (And.intro g2 hz))
  obtain ⟨B, hB⟩ : ∃ B : Nat, best vs x.vers = B := ⟨_, rfl⟩
  rw [hB] at KB
  have hlw : w.heap.size + 1 < ((w.alloc (.cells #[.slice va vn vc, .slice xa xn xc] 27)).alloc (.cells #[.int .i64 0, .slice none 0 0] 44)).heap.size := by omega
  have HC := Lib.hid hC
  have HD := Lib.hid hD
  clear hb0 hC hD hsz
  have hB0 : ((B : Int) == 0) = false := by simp; omega
  have HT := Lib.hid (tags_wfH hx)
  have hfew := areX_few (isH_parts.1 hx).2
  have hxl := g2.len
  have hxn : xn ≤ 1048576 := by omega
  have hxi : itemsOf x.exts ≤ 1048576 := by omega
  have hk1 := known_few x.exts ts
  have hk2 : itemsOf (knownOf x.exts ts) ≤ itemsOf x.exts := items_filter _ _
  rw [hx] at KH
  rw [hB]
  clear h1 h2 hz g1 g2 g3 hB h0 hx
  go_enter Tryz.func45, Tryz.ntmps45
  go_wp2_with fail
  generalize ((w.alloc (.cells #[.slice va vn vc, .slice xa xn xc] 27)).alloc (.cells #[.int .i64 0, .slice none 0 0] 44)) = W1 at *
  refine KB.out.mono ?_
  rintro e w2 ⟨rfl, hb⟩
  have HB2 := Lib.hid (HB.out.trans (hb.mono HB.out.size))
  have HC2 := Lib.hid ((hb.block w.heap.size (by omega)).trans HC.out)
  have HD2 := Lib.hid ((hb.block (w.heap.size + 1) (by omega)).trans HD.out)
  have hs2 := Nat.lt_of_lt_of_le hlw hb.size
  clear hb
  obtain ⟨x0, x1, _, _⟩ := two_cells HC2.out
  go_wp2_with fail
  refine (KH.out _ HB2.out).mono ?_
  rintro e w3 ⟨rfl, hb⟩
  have HB3 := Lib.hid (HB2.out.trans (hb.mono HB2.out.size))
  have HC3 := Lib.hid ((hb.block w.heap.size (by omega)).trans HC2.out)
  have HD3 := Lib.hid ((hb.block (w.heap.size + 1) (by omega)).trans HD2.out)
  have hs3 := Nat.lt_of_lt_of_le hs2 hb.size
  clear hb x0 x1
  obtain ⟨x0, x1, _, _⟩ := two_cells HC3.out
  have KK := Lib.hid (knownOf_any (c := xc) (d := d) (H2.out.2.1.same HB3.out) (H2.out.1.same HB3.out) HT.out H2.out.2.2 hxn hxi (by omega))
  go_wp2_with fail
  refine KK.out.mono ?_
  rintro e w4 ⟨q4, n4, c4, rfl, ho4, hb4⟩
  have hl4 := ho4.len
  have HB4 := Lib.hid (HB3.out.trans (hb4.mono HB3.out.size))
  have HD4 := Lib.hid ((hb4.block (w.heap.size + 1) (by omega)).trans HD3.out)
  have hs4 := Nat.lt_of_lt_of_le hs3 hb4.size
  have KS := Lib.hid (stripGrease_any (c := c4) ho4.vals (fun z hz => HT.out z (known_tags z hz)) (by omega) (by omega))
  clear ho4 hb4 x0 x1 KK
  go_wp2_with fail
  refine KS.out.mono ?_
  rintro e w5 ⟨q5, n5, c5, rfl, ho5, hb5⟩
  have HB5 := Lib.hid (HB4.out.trans (hb5.mono HB4.out.size))
  have HD5 := Lib.hid ((hb5.block (w.heap.size + 1) (by omega)).trans HD4.out)
  have HO5 := Lib.hid ho5
  clear ho5 hb5 KS
  obtain ⟨m0, m1, q0, q1⟩ := two_cells HD5.out
  obtain ⟨z0, z1, hZ⟩ := two_put HD5.out (.int .i64 (B : Int)) (.slice q5 n5 c5)
  clear hZ
  go_wp2_with fail
  (try simp only [Exit.inBlock, Exit.then])
  refine bodyPost_ret (by simp [results, Tryz.results45, go_sem, z0, z1]; try rfl) rfl ?_
  have hfin := ((own_ans (k := (B : Int)) HO5.out.lim (Nat.le_refl _) (Nat.le_refl _) (Nat.le_refl _)).aside (set2_insideA w5 (w.heap.size + 1) (.int .i64 (B : Int)) (.slice q5 n5 c5)) (Or.inl (by omega))).lower (B' := w.heap.size) (by omega)
  exact ⟨_, rfl, by simpa using hfin, (HB5.out.setCell (Nat.le_succ _) _).setCell (Nat.le_succ _) _⟩
theorem chooseAnswer_any {a b : Option Addr} {n c m d : Nat} {vs ts : List Int} {v : Value} {x : Hel} {w : World} (h1 : Nums .i64 w a n vs) (h2 : Nums .i64 w b m ts) (h : HelW w v x) (hz : ∀ z ∈ ts, (Lit.int .i64 z).wf = true) (hn : n ≤ 1048576) (hm : m ≤ 1048576) :
    Calls Tryz.prog 45 #[.slice a n c, .slice b m d, v] w (MadeAnsB w.heap.size (chAns vs ts x) (chOk vs ts x) w) := by
  have no : chA vs ts x = none → Calls Tryz.prog 45 #[.slice a n c, .slice b m d, v] w (MadeAnsB w.heap.size ⟨0, []⟩ false w) → Calls Tryz.prog 45 #[.slice a n c, .slice b m d, v] w (MadeAnsB w.heap.size (chAns vs ts x) (chOk vs ts x) w) := fun e h => by
    rw [(chA_none e).1, (chA_none e).2]; exact h
  by_cases h0 : best vs x.vers = 0
  · exact no (chA_no (Or.inr h0)) (choose_none h1 h2 h hz hn hm h0)
  · cases hx : isH x with
    | false => exact no (chA_no (Or.inl hx)) (choose_odd h1 h2 h hz hn hm h0 hx)
    | true =>
      have e := chA_some (chA_yes (ts := ts) hx h0)
      rw [e.1, e.2]
      exact choose_yes h1 h2 h hz hn hm h0 hx
end Go.Proofs.YtcmjadfpifpknaaGreat
namespace Go.Proofs.YtcmjadfpifpknaaGreat
open Go.ChangeShapes Go.WideShapes Go.ChangeAt Go.RowKit
set_option linter.unusedVariables false
set_option linter.unusedSimpArgs false

set_option maxHeartbeats 4000000 in
set_option maxRecDepth 100000 in
theorem run_odd {w : World} {v : Value} {x : Hel} {va ta ea : Option Addr} {vn vc tn tc en ec : Nat} {vs ts : List Int} {es : List Et} (key : Int) (h : HelW w v x) (h1 : Nums .i64 w va vn vs) (h2 : Nums .i64 w ta tn ts) (hz : ∀ z ∈ ts, (Lit.int .i64 z).wf = true) (he : Ets w ea en es) (hes : ∀ e ∈ es, e.wf) (hn : vn ≤ 1048576) (hm : tn ≤ 1048576) (hx : isH x = false) :
    Calls Tryz.prog 8 #[v, .slice va vn vc, .slice ta tn tc, .int .i64 key, .slice ea en ec] w (MadeDl w.heap.size (runH x vs ts key es) w) := by
  obtain ⟨a, n, c, b, m, d, rfl⟩ := h.shape
  obtain ⟨hsz, hX, hR, hB0⟩ := two w #[.slice a n c, .slice b m d] #[.bool false, .int .i64 0, .slice none 0 0] 27 32
  have hel := he.len
  have hef := he.fits
  have HX := Lib.hid hX
  have HR := Lib.hid hR
  have HB := Lib.hid hB0
  have H := Lib.hid (fun w9 (h9 : Below w.heap.size w w9) => h.same h9)
  have H12 := Lib.hid (fun w9 (h9 : Below w.heap.size w w9) => And.intro (h1.same h9) (h2.same h9))
  have HZ := Lib.hid hz
  have HEs := Lib.hid (fun w9 (h9 : Below w.heap.size w w9) => he.same h9)
  have HWf := Lib.hid hes
  have KH := Lib.hid (isHello_any (h.same hB0))
  have HE := Lib.hid (runH_no (vs := vs) (ts := ts) (key := key) (es := es) (Or.inl hx))
  rw [hx] at KH
  clear h h1 h2 hz he hes hX hR hB0 hx
  obtain ⟨x0, x1, -⟩ := two_cells HX.out
  unfold MadeDl
  go_enter Tryz.func8, Tryz.ntmps8
  go_wp2_with fail
  clear x0 x1
  generalize ((w.alloc (.cells #[.slice a n c, .slice b m d] 27)).alloc (.cells #[.bool false, .int .i64 0, .slice none 0 0] 32)) = W0 at *
  refine KH.out.mono ?_
  rintro e1 w1 ⟨rfl, hb1⟩
  have HB1 : Hid (Below W0.heap.size W0 w1) := Lib.hid hb1
  have hs1 : W0.heap.size ≤ w1.heap.size := hb1.size
  clear hb1
  have HR1 := Lib.hid ((HB1.out.block (w.heap.size + 1) (by omega)).trans HR.out)
  obtain ⟨m0, m1, m2, q0, q1, q2⟩ := deal_cells HR1.out
  obtain ⟨z0, z1, z2, -⟩ := deal_put HR1.out (.bool false) (.int .i64 0) (.slice none 0 0)
  have hin := deal_inside w1 (w.heap.size + 1) (.bool false) (.int .i64 0) (.slice none 0 0)
  go_wp2_with fail
  (try simp only [Exit.inBlock, Exit.then])
  refine bodyPost_ret (by simp [results, Tryz.results8, go_sem, z0, z1, z2]; try rfl) rfl ?_
  rw [HE.out]
  exact ⟨_, rfl, no_dl (by have := HB1.out.size; simp only [World.size_setCell]; omega), hin.to (HB.out.trans (HB1.out.mono HB.out.size)) (by omega) (by have := HB1.out.size; omega)⟩
set_option maxHeartbeats 4000000 in
set_option maxRecDepth 100000 in
theorem run_many {w : World} {v : Value} {x : Hel} {va ta ea : Option Addr} {vn vc tn tc en ec : Nat} {vs ts : List Int} {es : List Et} (key : Int) (h : HelW w v x) (h1 : Nums .i64 w va vn vs) (h2 : Nums .i64 w ta tn ts) (hz : ∀ z ∈ ts, (Lit.int .i64 z).wf = true) (he : Ets w ea en es) (hes : ∀ e ∈ es, e.wf) (hn : vn ≤ 1048576) (hm : tn ≤ 1048576) (hx : isH x = true) (h6 : 6 < en) :
    Calls Tryz.prog 8 #[v, .slice va vn vc, .slice ta tn tc, .int .i64 key, .slice ea en ec] w (MadeDl w.heap.size (runH x vs ts key es) w) := by
  obtain ⟨a, n, c, b, m, d, rfl⟩ := h.shape
  obtain ⟨hsz, hX, hR, hB0⟩ := two w #[.slice a n c, .slice b m d] #[.bool false, .int .i64 0, .slice none 0 0] 27 32
  have hel := he.len
  have hef := he.fits
  have HX := Lib.hid hX
  have HR := Lib.hid hR
  have HB := Lib.hid hB0
  have H := Lib.hid (fun w9 (h9 : Below w.heap.size w w9) => h.same h9)
  have H12 := Lib.hid (fun w9 (h9 : Below w.heap.size w w9) => And.intro (h1.same h9) (h2.same h9))
  have HZ := Lib.hid hz
  have HEs := Lib.hid (fun w9 (h9 : Below w.heap.size w w9) => he.same h9)
  have HWf := Lib.hid hes
  have KH := Lib.hid (isHello_any (h.same hB0))
  have HE := Lib.hid (runH_no (x := x) (vs := vs) (ts := ts) (key := key) (es := es) (Or.inr (by omega)))
  rw [hx] at KH
  clear h h1 h2 hz he hes hX hR hB0 hx
  obtain ⟨x0, x1, -⟩ := two_cells HX.out
  unfold MadeDl
  go_enter Tryz.func8, Tryz.ntmps8
  go_wp2_with fail
  clear x0 x1
  generalize ((w.alloc (.cells #[.slice a n c, .slice b m d] 27)).alloc (.cells #[.bool false, .int .i64 0, .slice none 0 0] 32)) = W0 at *
  refine KH.out.mono ?_
  rintro e1 w1 ⟨rfl, hb1⟩
  have HB1 : Hid (Below W0.heap.size W0 w1) := Lib.hid hb1
  have hs1 : W0.heap.size ≤ w1.heap.size := hb1.size
  clear hb1
  have HR1 := Lib.hid ((HB1.out.block (w.heap.size + 1) (by omega)).trans HR.out)
  obtain ⟨m0, m1, m2, q0, q1, q2⟩ := deal_cells HR1.out
  obtain ⟨z0, z1, z2, -⟩ := deal_put HR1.out (.bool false) (.int .i64 0) (.slice none 0 0)
  have hin := deal_inside w1 (w.heap.size + 1) (.bool false) (.int .i64 0) (.slice none 0 0)
  go_wp2_with fail
  (try simp only [Exit.inBlock, Exit.then])
  refine bodyPost_ret (by simp [results, Tryz.results8, go_sem, z0, z1, z2]; try rfl) rfl ?_
  rw [HE.out]
  exact ⟨_, rfl, no_dl (by have := HB1.out.size; simp only [World.size_setCell]; omega), hin.to (HB.out.trans (HB1.out.mono HB.out.size)) (by omega) (by have := HB1.out.size; omega)⟩
set_option maxHeartbeats 4000000 in
set_option maxRecDepth 100000 in
theorem run_none {w : World} {v : Value} {x : Hel} {va ta ea : Option Addr} {vn vc tn tc en ec : Nat} {vs ts : List Int} {es : List Et} (key : Int) (h : HelW w v x) (h1 : Nums .i64 w va vn vs) (h2 : Nums .i64 w ta tn ts) (hz : ∀ z ∈ ts, (Lit.int .i64 z).wf = true) (he : Ets w ea en es) (hes : ∀ e ∈ es, e.wf) (hn : vn ≤ 1048576) (hm : tn ≤ 1048576) (hx : isH x = true) (h6 : en ≤ 6) (hch : chA vs ts (edHs x es) = none) :
    Calls Tryz.prog 8 #[v, .slice va vn vc, .slice ta tn tc, .int .i64 key, .slice ea en ec] w (MadeDl w.heap.size (runH x vs ts key es) w) := by
  obtain ⟨a, n, c, b, m, d, rfl⟩ := h.shape
  obtain ⟨hsz, hX, hR, hB0⟩ := two w #[.slice a n c, .slice b m d] #[.bool false, .int .i64 0, .slice none 0 0] 27 32
  have hel := he.len
  have hef := he.fits
  have HX := Lib.hid hX
  have HR := Lib.hid hR
  have HB := Lib.hid hB0
  have H := Lib.hid (fun w9 (h9 : Below w.heap.size w w9) => h.same h9)
  have H12 := Lib.hid (fun w9 (h9 : Below w.heap.size w w9) => And.intro (h1.same h9) (h2.same h9))
  have HZ := Lib.hid hz
  have HEs := Lib.hid (fun w9 (h9 : Below w.heap.size w w9) => he.same h9)
  have HWf := Lib.hid hes
  have KH := Lib.hid (isHello_any (h.same hB0))
  have HE := Lib.hid (runH_none (x := x) (key := key) hch)
  have HIx := Lib.hid hx
  have HCh := Lib.hid (chA_none hch)
  rw [hx] at KH
  clear h h1 h2 hz he hes hX hR hB0 hx hch
  obtain ⟨x0, x1, -⟩ := two_cells HX.out
  unfold MadeDl
  go_enter Tryz.func8, Tryz.ntmps8
  go_wp2_with fail
  clear x0 x1
  generalize ((w.alloc (.cells #[.slice a n c, .slice b m d] 27)).alloc (.cells #[.bool false, .int .i64 0, .slice none 0 0] 32)) = W0 at *
  refine KH.out.mono ?_
  rintro e1 w1 ⟨rfl, hb1⟩
  have HB1 : Hid (Below W0.heap.size W0 w1) := Lib.hid hb1
  have hs1 : W0.heap.size ≤ w1.heap.size := hb1.size
  clear hb1
  have HXa := Lib.hid ((HB1.out.block w.heap.size (by omega)).trans HX.out)
  obtain ⟨x0, x1, -⟩ := two_cells HXa.out
  have hIs := edHs_is HIx.out es
  have KE := Lib.hid (editAllH_any (ec := ec) w1.heap.size (Nat.le_refl _) ⟨_, H.out _ (HB.out.trans (HB1.out.mono HB.out.size))⟩ (fun w9 h9 => H.out w9 ((HB.out.trans (HB1.out.mono HB.out.size)).trans (h9.to (Below.refl _ _) (by have := HB.out.size; omega) (by have := HB.out.size; omega)))) (HEs.out _ (HB.out.trans (HB1.out.mono HB.out.size))) HWf.out HIx.out)
  go_wp2_with fail
  refine KE.out.mono ?_
  rintro e2 w2 ⟨v2, rfl, hv2, hb2⟩
  have hv0 := hv2 w2 (Inside.refl _ _ _)
  obtain ⟨a1, n1, c1, b1, m1, d1, rfl⟩ := hv0.shape
  have HB2 : Hid (Below W0.heap.size W0 w2) := Lib.hid (HB1.out.trans (hb2.mono HB1.out.size))
  have hs2 : W0.heap.size ≤ w2.heap.size := HB2.out.size
  have HAL := Lib.hid (alloc_same w2 (.cells #[.slice a1 n1 c1, .slice b1 m1 d1] 27))
  have HV := Lib.hid (hv0.same HAL.out)
  have HG : Hid ((w2.alloc (.cells #[.slice a1 n1 c1, .slice b1 m1 d1] 27)).heap[w2.heap.size]? = some (.cells #[.slice a1 n1 c1, .slice b1 m1 d1] 27 (0, 0))) := Lib.hid (heap_alloc_new w2 _)
  have hgX : w2.heap.size < (w2.alloc (.cells #[.slice a1 n1 c1, .slice b1 m1 d1] 27)).heap.size := by simp
  have HB3 : Hid (Below W0.heap.size W0 (w2.alloc (.cells #[.slice a1 n1 c1, .slice b1 m1 d1] 27))) := Lib.hid (HB2.out.trans (HAL.out.mono HB2.out.size))
  have KC := Lib.hid (chooseAnswer_any (c := vc) (d := tc) (H12.out _ (HB.out.trans (HB3.out.mono HB.out.size))).1 (H12.out _ (HB.out.trans (HB3.out.mono HB.out.size))).2 HV.out HZ.out hn hm)
  obtain ⟨y0, y1, -⟩ := two_cells HG.out
  clear hv2 hv0 hb2 KE x0 x1
  rw [HCh.out.1, HCh.out.2] at KC
  go_wp2_with fail
  generalize hgen : w2.alloc (.cells #[.slice a1 n1 c1, .slice b1 m1 d1] 27) = X2 at *
  clear hgen
  refine KC.out.mono ?_
  rintro e3 w3 ⟨v3, rfl, ho3, hb3⟩
  obtain ⟨p3, k3, r3, rfl⟩ := ho3.shape
  have HB4 : Hid (Below W0.heap.size W0 w3) := Lib.hid (HB3.out.trans (hb3.mono HB3.out.size))
  have HB5 : Hid (Below W0.heap.size W0 (w3.alloc (.cells #[.int .i64 0, .slice p3 k3 r3] 44))) := Lib.hid (HB4.out.trans ((alloc_same _ _).mono HB4.out.size))
  have HR5 := Lib.hid ((HB5.out.block (w.heap.size + 1) (by omega)).trans HR.out)
  clear ho3 hb3 KC y0 y1
  obtain ⟨m0, m1, m2, q0, q1, q2⟩ := deal_cells HR5.out
  obtain ⟨z0, z1, z2, -⟩ := deal_put HR5.out (.bool false) (.int .i64 0) (.slice none 0 0)
  have hin := deal_inside (w3.alloc (.cells #[.int .i64 0, .slice p3 k3 r3] 44)) (w.heap.size + 1) (.bool false) (.int .i64 0) (.slice none 0 0)
  go_wp2_with fail
  (try simp only [Exit.inBlock, Exit.then])
  refine bodyPost_ret (by simp [results, Tryz.results8, go_sem, z0, z1, z2]; try rfl) rfl ?_
  rw [HE.out]
  exact ⟨_, rfl, no_dl (by have := HB5.out.size; simp only [World.size_setCell]; omega), hin.to (HB.out.trans (HB5.out.mono HB.out.size)) (by omega) (by have := HB5.out.size; omega)⟩
set_option maxHeartbeats 4000000 in
set_option maxRecDepth 100000 in
theorem run_some {w : World} {v : Value} {x : Hel} {va ta ea : Option Addr} {vn vc tn tc en ec : Nat} {vs ts : List Int} {es : List Et} (key : Int) (h : HelW w v x) (h1 : Nums .i64 w va vn vs) (h2 : Nums .i64 w ta tn ts) (hz : ∀ z ∈ ts, (Lit.int .i64 z).wf = true) (he : Ets w ea en es) (hes : ∀ e ∈ es, e.wf) (hn : vn ≤ 1048576) (hm : tn ≤ 1048576) {an : Ans} (hx : isH x = true) (h6 : en ≤ 6) (hch : chA vs ts (edHs x es) = some an) :
    Calls Tryz.prog 8 #[v, .slice va vn vc, .slice ta tn tc, .int .i64 key, .slice ea en ec] w (MadeDl w.heap.size (dealP key x (edHs x es) an (edAs an es)) w) := by
  obtain ⟨a, n, c, b, m, d, rfl⟩ := h.shape
  obtain ⟨hsz, hX, hR, hB0⟩ := two w #[.slice a n c, .slice b m d] #[.bool false, .int .i64 0, .slice none 0 0] 27 32
  have hel := he.len
  have hef := he.fits
  have HX := Lib.hid hX
  have HR := Lib.hid hR
  have HB := Lib.hid hB0
  have H := Lib.hid (fun w9 (h9 : Below w.heap.size w w9) => h.same h9)
  have H12 := Lib.hid (fun w9 (h9 : Below w.heap.size w w9) => And.intro (h1.same h9) (h2.same h9))
  have HZ := Lib.hid hz
  have HEs := Lib.hid (fun w9 (h9 : Below w.heap.size w w9) => he.same h9)
  have HWf := Lib.hid hes
  have KH := Lib.hid (isHello_any (h.same hB0))
  have HIx := Lib.hid hx
  have HIa := Lib.hid (chA_is hch)
  have HCh := Lib.hid (chA_some hch)
  rw [hx] at KH
  clear h h1 h2 hz he hes hX hR hB0 hx hch
  obtain ⟨x0, x1, -⟩ := two_cells HX.out
  unfold MadeDl
  go_enter Tryz.func8, Tryz.ntmps8
  go_wp2_with fail
  clear x0 x1
  generalize ((w.alloc (.cells #[.slice a n c, .slice b m d] 27)).alloc (.cells #[.bool false, .int .i64 0, .slice none 0 0] 32)) = W0 at *
  refine KH.out.mono ?_
  rintro e1 w1 ⟨rfl, hb1⟩
  have HB1 : Hid (Below W0.heap.size W0 w1) := Lib.hid hb1
  have hs1 : W0.heap.size ≤ w1.heap.size := hb1.size
  clear hb1
  have HXa := Lib.hid ((HB1.out.block w.heap.size (by omega)).trans HX.out)
  obtain ⟨x0, x1, -⟩ := two_cells HXa.out
  have hIs := edHs_is HIx.out es
  have KE := Lib.hid (editAllH_any (ec := ec) w1.heap.size (Nat.le_refl _) ⟨_, H.out _ (HB.out.trans (HB1.out.mono HB.out.size))⟩ (fun w9 h9 => H.out w9 ((HB.out.trans (HB1.out.mono HB.out.size)).trans (h9.to (Below.refl _ _) (by have := HB.out.size; omega) (by have := HB.out.size; omega)))) (HEs.out _ (HB.out.trans (HB1.out.mono HB.out.size))) HWf.out HIx.out)
  go_wp2_with fail
  refine KE.out.mono ?_
  rintro e2 w2 ⟨v2, rfl, hv2, hb2⟩
  have hv0 := hv2 w2 (Inside.refl _ _ _)
  obtain ⟨a1, n1, c1, b1, m1, d1, rfl⟩ := hv0.shape
  have HB2 : Hid (Below W0.heap.size W0 w2) := Lib.hid (HB1.out.trans (hb2.mono HB1.out.size))
  have hs2 : W0.heap.size ≤ w2.heap.size := HB2.out.size
  have HAL := Lib.hid (alloc_same w2 (.cells #[.slice a1 n1 c1, .slice b1 m1 d1] 27))
  have HV := Lib.hid (hv0.same HAL.out)
  have HG : Hid ((w2.alloc (.cells #[.slice a1 n1 c1, .slice b1 m1 d1] 27)).heap[w2.heap.size]? = some (.cells #[.slice a1 n1 c1, .slice b1 m1 d1] 27 (0, 0))) := Lib.hid (heap_alloc_new w2 _)
  have hgX : w2.heap.size < (w2.alloc (.cells #[.slice a1 n1 c1, .slice b1 m1 d1] 27)).heap.size := by simp
  have HB3 : Hid (Below W0.heap.size W0 (w2.alloc (.cells #[.slice a1 n1 c1, .slice b1 m1 d1] 27))) := Lib.hid (HB2.out.trans (HAL.out.mono HB2.out.size))
  have KC := Lib.hid (chooseAnswer_any (c := vc) (d := tc) (H12.out _ (HB.out.trans (HB3.out.mono HB.out.size))).1 (H12.out _ (HB.out.trans (HB3.out.mono HB.out.size))).2 HV.out HZ.out hn hm)
  obtain ⟨y0, y1, -⟩ := two_cells HG.out
  clear hv2 hv0 hb2 KE x0 x1
  rw [HCh.out.1, HCh.out.2] at KC
  go_wp2_with fail
  generalize hgen : w2.alloc (.cells #[.slice a1 n1 c1, .slice b1 m1 d1] 27) = X2 at *
  clear hgen
  refine KC.out.mono ?_
  rintro e3 w3 ⟨v3, rfl, ho3, hb3⟩
  obtain ⟨p3, k3, r3, rfl⟩ := ho3.shape
  have HB4 : Hid (Below W0.heap.size W0 w3) := Lib.hid (HB3.out.trans (hb3.mono HB3.out.size))
  have hs3 : X2.heap.size ≤ w3.heap.size := hb3.size
  have HAL3 := Lib.hid (alloc_same w3 (.cells #[.int .i64 an.ver, .slice p3 k3 r3] 44))
  have HGA : Hid ((w3.alloc (.cells #[.int .i64 an.ver, .slice p3 k3 r3] 44)).heap[w3.heap.size]? = some (.cells #[.int .i64 an.ver, .slice p3 k3 r3] 44 (0, 0))) := Lib.hid (heap_alloc_new w3 _)
  have hsA : w3.heap.size < (w3.alloc (.cells #[.int .i64 an.ver, .slice p3 k3 r3] 44)).heap.size := by simp
  have HB5 : Hid (Below W0.heap.size W0 (w3.alloc (.cells #[.int .i64 an.ver, .slice p3 k3 r3] 44))) := Lib.hid (HB4.out.trans (HAL3.out.mono HB4.out.size))
  have HGH : Hid ((w3.alloc (.cells #[.int .i64 an.ver, .slice p3 k3 r3] 44)).heap[w2.heap.size]? = some (.cells #[.slice a1 n1 c1, .slice b1 m1 d1] 27 (0, 0))) := Lib.hid ((HAL3.out.block _ (by omega)).trans ((hb3.block _ hgX).trans HG.out))
  have HVA := Lib.hid (ho3.ans.same HAL3.out)
  have HVH := Lib.hid ((HV.out.same hb3).same HAL3.out)
  clear ho3 hb3 KC y0 y1 HAL HAL3 HG HV
  obtain ⟨y0, y1, -⟩ := two_cells HGH.out
  obtain ⟨g0, g1, -⟩ := two_cells HGA.out
  go_wp2_with fail
  have hq3 : (w3.alloc (.cells #[.int .i64 an.ver, .slice p3 k3 r3] 44)).heap.size = w3.heap.size + 1 := by simp
  generalize hgen : w3.alloc (.cells #[.int .i64 an.ver, .slice p3 k3 r3] 44) = X3 at *
  clear hgen y0 y1 g0 g1
  have HAL4 := Lib.hid (alloc_same X3 (.cells #[.slice a1 n1 c1, .slice b1 m1 d1, .int .i64 an.ver, .slice p3 k3 r3] 79))
  have HGS : Hid ((X3.alloc (.cells #[.slice a1 n1 c1, .slice b1 m1 d1, .int .i64 an.ver, .slice p3 k3 r3] 79)).heap[w3.heap.size + 1]? = some (.cells #[.slice a1 n1 c1, .slice b1 m1 d1, .int .i64 an.ver, .slice p3 k3 r3] 79 (0, 0))) := Lib.hid (hq3 ▸ heap_alloc_new X3 _)
  have hs4 : w3.heap.size + 1 < (X3.alloc (.cells #[.slice a1 n1 c1, .slice b1 m1 d1, .int .i64 an.ver, .slice p3 k3 r3] 79)).heap.size := by simp; omega
  clear hq3
  have HB6 : Hid (Below W0.heap.size W0 (X3.alloc (.cells #[.slice a1 n1 c1, .slice b1 m1 d1, .int .i64 an.ver, .slice p3 k3 r3] 79))) := Lib.hid (HB5.out.trans (HAL4.out.mono HB5.out.size))
  have HGA4 : Hid ((X3.alloc (.cells #[.slice a1 n1 c1, .slice b1 m1 d1, .int .i64 an.ver, .slice p3 k3 r3] 79)).heap[w3.heap.size]? = _) := Lib.hid ((HAL4.out.block _ hsA).trans HGA.out)
  have HX4 : Hid ((X3.alloc (.cells #[.slice a1 n1 c1, .slice b1 m1 d1, .int .i64 an.ver, .slice p3 k3 r3] 79)).heap[w.heap.size]? = _) := Lib.hid ((HB6.out.block w.heap.size (by omega)).trans HX.out)
  have HVA4 := Lib.hid (HVA.out.same HAL4.out)
  have HVH4 := Lib.hid (HVH.out.same HAL4.out)
  have hsX : W0.heap.size ≤ (X3.alloc (.cells #[.slice a1 n1 c1, .slice b1 m1 d1, .int .i64 an.ver, .slice p3 k3 r3] 79)).heap.size := HB6.out.size
  generalize hgen : X3.alloc (.cells #[.slice a1 n1 c1, .slice b1 m1 d1, .int .i64 an.ver, .slice p3 k3 r3] 79) = X4 at *
  clear hgen HAL4 HGA HVA HVH
  have CX := Lib.hid (two_cells HX4.out)
  have CA := Lib.hid (two_cells HGA4.out)
  have HBd : Hid (Below X4.heap.size X4 X4.drew) := Lib.hid (Below.refl _ _).drew
  refine wp_region_held_drew (S := fun w9 => (w9.cell? ⟨w.heap.size, 0, none⟩ = some (.slice a n c) ∧ w9.cell? ⟨w.heap.size, 1, none⟩ = some (.slice b m d)) ∧ w9.cell? ⟨w3.heap.size, 0, none⟩ = some (.int .i64 an.ver) ∧ w9.cell? ⟨w3.heap.size, 1, none⟩ = some (.slice p3 k3 r3)) (by kernel_rfl) ⟨⟨cell_stay CX.out.1 HBd.out, cell_stay CX.out.2.1 HBd.out⟩, cell_stay CA.out.1 HBd.out, cell_stay CA.out.2.1 HBd.out⟩ (fun hHeld => ?_)
  refine wpAnyH_take (i := 0) (v := ?v13) (by simp only [List.getElem?_toArray, List.getElem?_cons_succ, List.getElem?_cons_zero]; rfl) (by kernel_rfl) (by kernel_rfl) (by kernel_rfl) (by exact fun _ _ _ h => h) (Or.inl ⟨by rfl, fun w9 hS9 => ?hy13⟩) hHeld ?rest13
  case hy13 =>
    dsimp only at hS9
    obtain ⟨⟨y0, y1⟩, y2, y3⟩ := hS9
    go_simp
    try with_reducible rfl
  try simp only [Act.put, List.setIfInBounds_toArray, List.set_cons_zero, List.set_cons_succ]
  refine wpAnyH_take (i := 1) (v := ?v14) (by simp only [List.getElem?_toArray, List.getElem?_cons_succ, List.getElem?_cons_zero]; rfl) (by kernel_rfl) (by kernel_rfl) (by kernel_rfl) (by exact fun _ _ _ h => h) (Or.inl ⟨by rfl, fun w9 hS9 => ?hy14⟩) hHeld ?rest14
  case hy14 =>
    dsimp only at hS9
    obtain ⟨⟨y0, y1⟩, y2, y3⟩ := hS9
    go_simp
    try with_reducible rfl
  try simp only [Act.put, List.setIfInBounds_toArray, List.set_cons_zero, List.set_cons_succ]
  refine wpAnyH_take (i := 2) (v := ?v15) (by simp only [List.getElem?_toArray, List.getElem?_cons_succ, List.getElem?_cons_zero]; rfl) (by kernel_rfl) (by kernel_rfl) (by kernel_rfl) (by exact fun _ _ _ h => h) (Or.inl ⟨by rfl, fun w9 hS9 => ?hy15⟩) hHeld ?rest15
  case hy15 =>
    dsimp only at hS9
    obtain ⟨⟨y0, y1⟩, y2, y3⟩ := hS9
    go_simp
    try with_reducible rfl
  try simp only [Act.put, List.setIfInBounds_toArray, List.set_cons_zero, List.set_cons_succ]
  refine wpAnyH_ready (rs := [3, 5]) (by kernel_rfl) (by simp) (AllReadyH.cons (by simp only [List.getElem?_toArray, List.getElem?_cons_succ, List.getElem?_cons_zero]; rfl) (fun K hK => ?_) (AllReadyH.cons (by simp only [List.getElem?_toArray, List.getElem?_cons_succ, List.getElem?_cons_zero]; rfl) (fun K hK => ?_) AllReadyH.nil))
  · skip
    go_simp
    refine (editAllA_any (ec := ec) X4.heap.size (by have := HBd.out.size; omega) ⟨_, HVA4.out⟩ (fun w9 h9 => HVA4.out.same (HBd.out.trans (h9.to (Below.refl _ _) (Nat.le_refl _) HBd.out.size))) (HEs.out _ (HB.out.trans ((HB6.out.trans (HBd.out.mono HB6.out.size)).mono HB.out.size))) HWf.out HIa.out).mono ?_
    rintro e5 w5 ⟨v5, rfl, hv5, hb5⟩
    have hv0 := hv5 w5 (Inside.refl _ _ _)
    obtain ⟨p5, k5, r5, rfl⟩ := hv0.shape
    have HV5 := Lib.hid hv5
    have HB7 : Hid (Below X4.heap.size X4 w5) := Lib.hid (HBd.out.trans (hb5.mono HBd.out.size))
    clear hv0 hb5 hv5
    go_wp2_with fail
    refine hK.out _ _ ⟨⟨cell_stay CX.out.1 HB7.out, cell_stay CX.out.2.1 HB7.out⟩, cell_stay CA.out.1 HB7.out, cell_stay CA.out.2.1 HB7.out⟩ (fun hHeld => ?_)
    clear hK K
    try simp only [Act.put, List.setIfInBounds_toArray, List.set_cons_zero, List.set_cons_succ]
    refine wpAnyH_take (i := 4) (v := ?v16) (by simp only [List.getElem?_toArray, List.getElem?_cons_succ, List.getElem?_cons_zero]; rfl) (by kernel_rfl) (by kernel_rfl) (by kernel_rfl) (by exact fun _ _ _ h => h) (Or.inl ⟨by rfl, fun w9 hS9 => ?hy16⟩) hHeld ?rest16
    case hy16 =>
      dsimp only at hS9
      obtain ⟨⟨y0, y1⟩, y2, y3⟩ := hS9
      go_simp
      try with_reducible rfl
    try simp only [Act.put, List.setIfInBounds_toArray, List.set_cons_zero, List.set_cons_succ]
    refine wpAnyH_ready (rs := [5]) (by kernel_rfl) (by simp) (AllReadyH.cons (by simp only [List.getElem?_toArray, List.getElem?_cons_succ, List.getElem?_cons_zero]; rfl) (fun K hK => ?_) AllReadyH.nil)
    have HB8 : Hid (Below X4.heap.size X4 (World.alloc w5 (.cells #[.slice none 0 0, .slice none 0 0, .int .i64 0, .slice none 0 0] 79))) := Lib.hid (HB7.out.trans ((alloc_same w5 (.cells #[.slice none 0 0, .slice none 0 0, .int .i64 0, .slice none 0 0] 79)).mono HB7.out.size))
    go_simp
    refine hK.out _ _ ⟨⟨cell_stay CX.out.1 HB8.out, cell_stay CX.out.2.1 HB8.out⟩, cell_stay CA.out.1 HB8.out, cell_stay CA.out.2.1 HB8.out⟩ (fun hHeld => ?_)
    clear hK K
    try simp only [Act.put, List.setIfInBounds_toArray, List.set_cons_zero, List.set_cons_succ]
    refine wpAnyH_ready (rs := [6]) (by kernel_rfl) (by simp) (AllReadyH.cons (by simp only [List.getElem?_toArray, List.getElem?_cons_succ, List.getElem?_cons_zero]; rfl) (fun K hK => ?_) AllReadyH.nil)
    have HB9 : Hid (Below X4.heap.size X4 (World.alloc w5 (.cells #[.slice a n c, .slice b m d, .int .i64 (edAs an es).ver, .slice p5 k5 r5] 79))) := Lib.hid (HB7.out.trans ((alloc_same w5 (.cells #[.slice a n c, .slice b m d, .int .i64 (edAs an es).ver, .slice p5 k5 r5] 79)).mono HB7.out.size))
    have HG9 : Hid ((World.alloc w5 (.cells #[.slice a n c, .slice b m d, .int .i64 (edAs an es).ver, .slice p5 k5 r5] 79)).heap[w5.heap.size]? = some (.cells #[.slice a n c, .slice b m d, .int .i64 (edAs an es).ver, .slice p5 k5 r5] 79 (0, 0))) := Lib.hid (heap_alloc_new w5 _)
    have HI9 : Hid (Inside X4.heap.size (X4.heap.size + 1) w5 (World.alloc w5 (.cells #[.slice a n c, .slice b m d, .int .i64 (edAs an es).ver, .slice p5 k5 r5] 79))) := Lib.hid (Inside.after (alloc_same w5 (.cells #[.slice a n c, .slice b m d, .int .i64 (edAs an es).ver, .slice p5 k5 r5] 79)) (Inside.refl _ _ _))
    go_simp
    refine hK.out _ _ ⟨⟨cell_stay CX.out.1 HB9.out, cell_stay CX.out.2.1 HB9.out⟩, cell_stay CA.out.1 HB9.out, cell_stay CA.out.2.1 HB9.out⟩ (fun hHeld => ?_)
    clear hK K
    try simp only [Act.put, List.setIfInBounds_toArray, List.set_cons_zero, List.set_cons_succ]
    refine wpAnyH_done (by kernel_rfl) ?_ _
    have HVb := Lib.hid (HV5.out _ (Inside.after (alloc_same w5 (.cells #[.slice a n c, .slice b m d, .int .i64 (edAs an es).ver, .slice p5 k5 r5] 79)) (Inside.refl _ _ _)))
    have HGS9 := Lib.hid ((HB9.out.block (w3.heap.size + 1) hs4).trans HGS.out)
    obtain ⟨s0, s1, s2, s3, -⟩ := sight_cells HG9.out
    obtain ⟨t0, t1, t2, t3, -⟩ := sight_cells HGS9.out
    have hs9 : X4.heap.size ≤ ((World.alloc w5 (.cells #[.slice a n c, .slice b m d, .int .i64 (edAs an es).ver, .slice p5 k5 r5] 79))).heap.size := HB9.out.size
    have HHx := Lib.hid (H.out _ (HB.out.trans ((HB6.out.trans (HB9.out.mono HB6.out.size)).mono HB.out.size)))
    have HHs := Lib.hid (HVH4.out.same HB9.out)
    have HHa := Lib.hid (HVA4.out.same HB9.out)
    have HIb := Lib.hid (edAs_is HIa.out es)
    have HBf : Hid (Below W0.heap.size W0 ((World.alloc w5 (.cells #[.slice a n c, .slice b m d, .int .i64 (edAs an es).ver, .slice p5 k5 r5] 79)))) := Lib.hid (HB6.out.trans (HB9.out.mono HB6.out.size))
    have KD := Lib.hid (dealOf_any key HHx.out HVb.out HHs.out HHa.out HIb.out)
    unfold MadeDl at KD
    go_wp2_with fail
    refine KD.out.mono ?_
    rintro e9 w9 ⟨v9, rfl, ho9, hb9⟩
    obtain ⟨q9, k9, r9, rfl⟩ := ho9.shape
    have HB10 : Hid (Below W0.heap.size W0 w9) := Lib.hid (HBf.out.trans (hb9.mono HBf.out.size))
    have HO9 := Lib.hid ho9
    have HR9 := Lib.hid ((HB10.out.block (w.heap.size + 1) (by omega)).trans HR.out)
    have hsf := HBf.out.size
    clear ho9 hb9 KD s0 s1 s2 s3 t0 t1 t2 t3
    obtain ⟨n0, n1, n2, o0, o1, o2⟩ := deal_cells HR9.out
    obtain ⟨u0, u1, u2, -⟩ := deal_put HR9.out (.bool (dealP key x (edHs x es) an (edAs an es)).ok) (.int .i64 (dealP key x (edHs x es) an (edAs an es)).ver) (.slice q9 k9 r9)
    have hin := deal_inside w9 (w.heap.size + 1) (.bool (dealP key x (edHs x es) an (edAs an es)).ok) (.int .i64 (dealP key x (edHs x es) an (edAs an es)).ver) (.slice q9 k9 r9)
    go_wp2_with fail
    (try simp only [Exit.inBlock, Exit.then])
    refine bodyPost_ret (by simp [results, Tryz.results8, go_sem, u0, u1, u2]; try rfl) rfl ?_
    exact ⟨_, rfl, ((HO9.out.aside hin (Or.inl (by omega))).lower (by omega)).top (by simp) (Nat.le_refl _), hin.to (HB.out.trans (HB10.out.mono HB.out.size)) (by omega) (by have := HB10.out.size; omega)⟩
  · skip
    have HB8 : Hid (Below X4.heap.size X4 (World.alloc X4 (.cells #[.slice none 0 0, .slice none 0 0, .int .i64 0, .slice none 0 0] 79)).drew) := Lib.hid (alloc_same X4 (.cells #[.slice none 0 0, .slice none 0 0, .int .i64 0, .slice none 0 0] 79)).drew
    have HZ4 : Hid ((World.alloc X4 (.cells #[.slice none 0 0, .slice none 0 0, .int .i64 0, .slice none 0 0] 79)).drew.heap[X4.heap.size]? = some (.cells #[.slice none 0 0, .slice none 0 0, .int .i64 0, .slice none 0 0] 79 (0, 0))) := Lib.hid (heap_alloc_new X4 _)
    have HgZ : Hid (X4.heap.size < (World.alloc X4 (.cells #[.slice none 0 0, .slice none 0 0, .int .i64 0, .slice none 0 0] 79)).drew.heap.size) := Lib.hid (by simp)
    go_simp
    refine hK.out _ _ ⟨⟨cell_stay CX.out.1 HB8.out, cell_stay CX.out.2.1 HB8.out⟩, cell_stay CA.out.1 HB8.out, cell_stay CA.out.2.1 HB8.out⟩ (fun hHeld => ?_)
    clear hK K
    try simp only [Act.put, List.setIfInBounds_toArray, List.set_cons_zero, List.set_cons_succ]
    refine wpAnyH_ready (rs := [3]) (by kernel_rfl) (by simp) (AllReadyH.cons (by simp only [List.getElem?_toArray, List.getElem?_cons_succ, List.getElem?_cons_zero]; rfl) (fun K hK => ?_) AllReadyH.nil)
    go_simp
    refine (editAllA_any (ec := ec) X4.heap.size (by have := HB8.out.size; omega) ⟨_, HVA4.out⟩ (fun w9 h9 => HVA4.out.same (HB8.out.trans (h9.to (Below.refl _ _) (Nat.le_refl _) HB8.out.size))) (HEs.out _ (HB.out.trans ((HB6.out.trans (HB8.out.mono HB6.out.size)).mono HB.out.size))) HWf.out HIa.out).mono ?_
    rintro e5 w5 ⟨v5, rfl, hv5, hb5⟩
    have hv0 := hv5 w5 (Inside.refl _ _ _)
    obtain ⟨p5, k5, r5, rfl⟩ := hv0.shape
    have HV5 := Lib.hid hv5
    have HB7 : Hid (Below X4.heap.size X4 w5) := Lib.hid (HB8.out.trans (hb5.mono HB8.out.size))
    replace HZ4 := Lib.hid ((hb5.block _ HgZ.out).trans HZ4.out)
    clear hv0 hb5 hv5
    go_wp2_with fail
    refine hK.out _ _ ⟨⟨cell_stay CX.out.1 HB7.out, cell_stay CX.out.2.1 HB7.out⟩, cell_stay CA.out.1 HB7.out, cell_stay CA.out.2.1 HB7.out⟩ (fun hHeld => ?_)
    clear hK K
    try simp only [Act.put, List.setIfInBounds_toArray, List.set_cons_zero, List.set_cons_succ]
    refine wpAnyH_take (i := 4) (v := ?v17) (by simp only [List.getElem?_toArray, List.getElem?_cons_succ, List.getElem?_cons_zero]; rfl) (by kernel_rfl) (by kernel_rfl) (by kernel_rfl) (by exact fun _ _ _ h => h) (Or.inl ⟨by rfl, fun w9 hS9 => ?hy17⟩) hHeld ?rest17
    case hy17 =>
      dsimp only at hS9
      obtain ⟨⟨y0, y1⟩, y2, y3⟩ := hS9
      go_simp
      try with_reducible rfl
    try simp only [Act.put, List.setIfInBounds_toArray, List.set_cons_zero, List.set_cons_succ]
    refine wpAnyH_ready (rs := [6]) (by kernel_rfl) (by simp) (AllReadyH.cons (by simp only [List.getElem?_toArray, List.getElem?_cons_succ, List.getElem?_cons_zero]; rfl) (fun K hK => ?_) AllReadyH.nil)
    obtain ⟨m0, m1, m2, m3, q0, q1, q2, q3⟩ := sight_cells HZ4.out
    obtain ⟨z0, z1, z2, z3⟩ := sight_put HZ4.out (.slice a n c) (.slice b m d) (.int .i64 (edAs an es).ver) (.slice p5 k5 r5)
    have HI9 : Hid (Inside X4.heap.size (X4.heap.size + 1) w5 ((((w5.setCell ⟨X4.heap.size, 0, none⟩ (.slice a n c)).setCell ⟨X4.heap.size, 1, none⟩ (.slice b m d)).setCell ⟨X4.heap.size, 2, none⟩ (.int .i64 (edAs an es).ver)).setCell ⟨X4.heap.size, 3, none⟩ (.slice p5 k5 r5))) := Lib.hid (sight_inside w5 X4.heap.size _ _ _ _)
    have HB9 : Hid (Below X4.heap.size X4 ((((w5.setCell ⟨X4.heap.size, 0, none⟩ (.slice a n c)).setCell ⟨X4.heap.size, 1, none⟩ (.slice b m d)).setCell ⟨X4.heap.size, 2, none⟩ (.int .i64 (edAs an es).ver)).setCell ⟨X4.heap.size, 3, none⟩ (.slice p5 k5 r5))) := Lib.hid (HI9.out.to HB7.out (Nat.le_refl _) HB7.out.size)
    have HG9 : Hid (((((w5.setCell ⟨X4.heap.size, 0, none⟩ (.slice a n c)).setCell ⟨X4.heap.size, 1, none⟩ (.slice b m d)).setCell ⟨X4.heap.size, 2, none⟩ (.int .i64 (edAs an es).ver)).setCell ⟨X4.heap.size, 3, none⟩ (.slice p5 k5 r5)).heap[X4.heap.size]? = some (.cells #[.slice a n c, .slice b m d, .int .i64 (edAs an es).ver, .slice p5 k5 r5] 79 (0, 0))) := Lib.hid z3
    go_simp
    refine hK.out _ _ ⟨⟨cell_stay CX.out.1 HB9.out, cell_stay CX.out.2.1 HB9.out⟩, cell_stay CA.out.1 HB9.out, cell_stay CA.out.2.1 HB9.out⟩ (fun hHeld => ?_)
    clear hK K
    try simp only [Act.put, List.setIfInBounds_toArray, List.set_cons_zero, List.set_cons_succ]
    refine wpAnyH_done (by kernel_rfl) ?_ _
    have HVb := Lib.hid (HV5.out _ (HI9.out.wide (Nat.le_refl _) (by have := HgZ.out; omega)))
    have HGS9 := Lib.hid ((HB9.out.block (w3.heap.size + 1) hs4).trans HGS.out)
    obtain ⟨s0, s1, s2, s3, -⟩ := sight_cells HG9.out
    obtain ⟨t0, t1, t2, t3, -⟩ := sight_cells HGS9.out
    have hs9 : X4.heap.size ≤ (((((w5.setCell ⟨X4.heap.size, 0, none⟩ (.slice a n c)).setCell ⟨X4.heap.size, 1, none⟩ (.slice b m d)).setCell ⟨X4.heap.size, 2, none⟩ (.int .i64 (edAs an es).ver)).setCell ⟨X4.heap.size, 3, none⟩ (.slice p5 k5 r5))).heap.size := HB9.out.size
    have HHx := Lib.hid (H.out _ (HB.out.trans ((HB6.out.trans (HB9.out.mono HB6.out.size)).mono HB.out.size)))
    have HHs := Lib.hid (HVH4.out.same HB9.out)
    have HHa := Lib.hid (HVA4.out.same HB9.out)
    have HIb := Lib.hid (edAs_is HIa.out es)
    have HBf : Hid (Below W0.heap.size W0 (((((w5.setCell ⟨X4.heap.size, 0, none⟩ (.slice a n c)).setCell ⟨X4.heap.size, 1, none⟩ (.slice b m d)).setCell ⟨X4.heap.size, 2, none⟩ (.int .i64 (edAs an es).ver)).setCell ⟨X4.heap.size, 3, none⟩ (.slice p5 k5 r5)))) := Lib.hid (HB6.out.trans (HB9.out.mono HB6.out.size))
    have KD := Lib.hid (dealOf_any key HHx.out HVb.out HHs.out HHa.out HIb.out)
    unfold MadeDl at KD
    go_wp2_with fail
    refine KD.out.mono ?_
    rintro e9 w9 ⟨v9, rfl, ho9, hb9⟩
    obtain ⟨q9, k9, r9, rfl⟩ := ho9.shape
    have HB10 : Hid (Below W0.heap.size W0 w9) := Lib.hid (HBf.out.trans (hb9.mono HBf.out.size))
    have HO9 := Lib.hid ho9
    have HR9 := Lib.hid ((HB10.out.block (w.heap.size + 1) (by omega)).trans HR.out)
    have hsf := HBf.out.size
    clear ho9 hb9 KD s0 s1 s2 s3 t0 t1 t2 t3
    obtain ⟨n0, n1, n2, o0, o1, o2⟩ := deal_cells HR9.out
    obtain ⟨u0, u1, u2, -⟩ := deal_put HR9.out (.bool (dealP key x (edHs x es) an (edAs an es)).ok) (.int .i64 (dealP key x (edHs x es) an (edAs an es)).ver) (.slice q9 k9 r9)
    have hin := deal_inside w9 (w.heap.size + 1) (.bool (dealP key x (edHs x es) an (edAs an es)).ok) (.int .i64 (dealP key x (edHs x es) an (edAs an es)).ver) (.slice q9 k9 r9)
    go_wp2_with fail
    (try simp only [Exit.inBlock, Exit.then])
    refine bodyPost_ret (by simp [results, Tryz.results8, go_sem, u0, u1, u2]; try rfl) rfl ?_
    exact ⟨_, rfl, ((HO9.out.aside hin (Or.inl (by omega))).lower (by omega)).top (by simp) (Nat.le_refl _), hin.to (HB.out.trans (HB10.out.mono HB.out.size)) (by omega) (by have := HB10.out.size; omega)⟩
theorem runHandshake_any {w : World} {v : Value} {x : Hel} {va ta ea : Option Addr} {vn vc tn tc en ec : Nat} {vs ts : List Int} {es : List Et} (key : Int) (h : HelW w v x) (h1 : Nums .i64 w va vn vs) (h2 : Nums .i64 w ta tn ts) (hz : ∀ z ∈ ts, (Lit.int .i64 z).wf = true) (he : Ets w ea en es) (hes : ∀ e ∈ es, e.wf) (hn : vn ≤ 1048576) (hm : tn ≤ 1048576) :
    Calls Tryz.prog 8 #[v, .slice va vn vc, .slice ta tn tc, .int .i64 key, .slice ea en ec] w (MadeDl w.heap.size (runH x vs ts key es) w) := by
  cases hx : isH x with
  | false => exact run_odd key h h1 h2 hz he hes hn hm hx
  | true =>
    by_cases h6 : 6 < en
    · exact run_many key h h1 h2 hz he hes hn hm hx h6
    · cases hch : chA vs ts (edHs x es) with
      | none => exact run_none key h h1 h2 hz he hes hn hm hx (by omega) hch
      | some an =>
        rw [runH_some hx (by have := he.len; omega) hch]
        exact run_some key h h1 h2 hz he hes hn hm hx (by omega) hch
set_option maxHeartbeats 4000000 in
set_option maxRecDepth 100000 in
theorem honestDeal_any {w : World} {v : Value} {x : Hel} {va ta : Option Addr} {vn vc tn tc : Nat} {vs ts : List Int} (key : Int) (h : HelW w v x) (h1 : Nums .i64 w va vn vs) (h2 : Nums .i64 w ta tn ts) (hz : ∀ z ∈ ts, (Lit.int .i64 z).wf = true) (hn : vn ≤ 1048576) (hm : tn ≤ 1048576) :
    Calls Tryz.prog 9 #[v, .slice va vn vc, .slice ta tn tc, .int .i64 key] w (MadeDl w.heap.size (runH x vs ts key []) w) := by
  obtain ⟨a, n, c, b, m, d, rfl⟩ := h.shape
  obtain ⟨hsz, hX, hR, hB0⟩ := two w #[.slice a n c, .slice b m d] #[.bool false, .int .i64 0, .slice none 0 0] 27 32
  have HR := Lib.hid hR
  have HB := Lib.hid hB0
  have KR := Lib.hid (runHandshake_any (vc := vc) (tc := tc) (ec := 0) key (h.same hB0) (h1.same hB0) (h2.same hB0) hz (Items.nothing (enc := Et.enc) (s := 2)) (fun _ q => by cases q) hn hm)
  unfold MadeDl at KR
  clear h h1 h2 hz hR hB0
  obtain ⟨x0, x1, -⟩ := two_cells hX
  unfold MadeDl
  go_enter Tryz.func9, Tryz.ntmps9
  go_wp2_with fail
  clear x0 x1 hX
  generalize ((w.alloc (.cells #[.slice a n c, .slice b m d] 27)).alloc (.cells #[.bool false, .int .i64 0, .slice none 0 0] 32)) = W0 at *
  refine KR.out.mono ?_
  rintro e9 w9 ⟨v9, rfl, ho9, hb9⟩
  obtain ⟨q9, k9, r9, rfl⟩ := ho9.shape
  have HB10 : Hid (Below W0.heap.size W0 w9) := Lib.hid hb9
  have HO9 := Lib.hid ho9
  have HR9 := Lib.hid ((HB10.out.block (w.heap.size + 1) (by omega)).trans HR.out)
  clear ho9 hb9 KR
  obtain ⟨n0, n1, n2, o0, o1, o2⟩ := deal_cells HR9.out
  obtain ⟨u0, u1, u2, -⟩ := deal_put HR9.out (.bool (runH x vs ts key []).ok) (.int .i64 (runH x vs ts key []).ver) (.slice q9 k9 r9)
  have hin := deal_inside w9 (w.heap.size + 1) (.bool (runH x vs ts key []).ok) (.int .i64 (runH x vs ts key []).ver) (.slice q9 k9 r9)
  go_wp2_with fail
  (try simp only [Exit.inBlock, Exit.then])
  refine bodyPost_ret (by simp [results, Tryz.results9, go_sem, u0, u1, u2]; try rfl) rfl ?_
  exact ⟨_, rfl, ((HO9.out.aside hin (Or.inl (by omega))).lower (by omega)).top (by simp) (Nat.le_refl _), hin.to (HB.out.trans (HB10.out.mono HB.out.size)) (by omega) (by have := HB10.out.size; omega)⟩
end Go.Proofs.YtcmjadfpifpknaaGreat
namespace Go.Proofs.YtcmjadfpifpknaaGreat
open Go.ChangeShapes Go.WideShapes Go.ChangeAt Go.RowKit
set_option linter.unusedVariables false
set_option linter.unusedSimpArgs false

section
variable {P : Program}
/-- Integers are appended to a slice of the call's own: where it lies alone anything has changed. -/
theorem run_app2 (w : World) {k : IntKind} (t ty e : TypeId) (i : TypeInfo) (z : Value) (bytes : Nat) (ht : P.underlying t = some (.slice e)) (hi : P.info? e = some i) (hz : i.zero = some z) (hsize : i.size = 1) (hby : i.bytes = bytes) (hzs : z.cells.size = 1)
    {B n c m d : Nat} {a b : Option Addr} {l l' : List Int} (ho : Own k e w B a n c l) (hs : Nums k w b m l') (hbytes : (n + m) * bytes ≤ 140737488355328) (h63 : n + m ≤ maxLen) (hB : B ≤ w.heap.size) :
    ∃ a' c' w', (Builtin.append_ #[t, t] ty #[.slice a n c, .slice b m d]).run P w = .ok (.slice a' (n + m) c') w' ∧ Own k e w' B a' (n + m) c' (l ++ l') ∧ w.grownBy w' (Value.ownBlock (.slice a n c)) := by
  have hsp := ho.span
  rcases b with _ | ad
  · obtain rfl : m = 0 := by
      rcases Nat.eq_zero_or_pos m with h0 | h0
      · exact h0
      · obtain ⟨ad, h, _⟩ := hs.cell 0 h0
        cases h
    obtain rfl : l' = [] := List.eq_nil_of_length_eq_zero hs.len
    exact ⟨a, c, w, run_app_nothing w B t ty e i ht hi ho.2 d, by simpa using ho, grown_below (Below.refl _ _) _⟩
  · obtain ⟨v', w', hr, h2, h3, _, _⟩ := run_append_own_at (P := P) w B t ty e i z 1 bytes ht hi hz hsize hby hzs (by omega) (.slice a n c) n (l.map (Value.int k)) ho.2 ad m d (l'.map (Value.int k)) (by simp [hs.len]) (fun j u hu => by
      have hj : j < m := by
        rcases Nat.lt_or_ge j m with h | h
        · exact h
        · rw [List.getElem?_eq_none (by simp [hs.len]; exact h)] at hu; cases hu
      obtain ⟨ad', e', hx⟩ := hs.cell j hj
      cases e'
      have hl : j < l'.length := by rw [hs.len]; exact hj
      rw [List.getElem?_map, List.getElem?_eq_getElem hl] at hu
      cases hu
      rw [hx]
      simp [List.getD, List.getElem?_eq_getElem hl]) (ints_oneCell k l') h63 hbytes hB
    rw [← List.map_append] at h2
    rcases h2.2 with ⟨rfl, hn⟩ | ⟨g, cap, cur, rfl, hrest⟩
    · exact ⟨none, 0, w', by rw [hn]; exact hr, by rw [hn] at h2 ⊢; exact ⟨by have := h2.1; simpa using this, h2⟩, h3⟩
    · exact ⟨_, cap, w', hr, ⟨by have := ho.len; have := hs.len; simp; omega, h2⟩, h3⟩
/-- An append of integers onto a slice of the call's own, at a step of a region that draws its order. -/
theorem step_app2 (w : World) {ops : Array Oper} {o : Oper} {act : Act} {K : Act → World → Prop} {Q : Exit → Act → World → Prop} {E : Prop} (hgd : o.guard = none) (s x : Operand) (t : TypeId)
    (ho : o.op = .call { callee := .builtin .append, args := #[s, x], argTypes := #[t, t] })
    (k : IntKind) (e : TypeId) (i : TypeInfo) (z : Value) (bytes : Nat) (ht : P.underlying t = some (.slice e)) (hi : P.info? e = some i) (hz : i.zero = some z) (hsize : i.size = 1) (hby : i.bytes = bytes) (hzs : z.cells.size = 1)
    {B n c m d : Nat} {a b : Option Addr} {l l' : List Int} (hs : act.eval s = .slice a n c) (hown : Own k e w B a n c l) (hx : act.eval x = .slice b m d) (hnew : Nums k w b m l')
    (hb1 : 0 < bytes) (hbytes : (n + m) * bytes ≤ 140737488355328) (hB : B ≤ w.heap.size)
    (h : ∀ a' c' w', Own k e w' B a' (n + m) c' (l ++ l') → w.grownBy w' (Value.ownBlock (.slice a n c)) → K (act.put o.dst (.slice a' (n + m) c')) w') :
    if Region.wanted o (yielded ops act.tmps) = true then Oper.wp P o act w K Q else E := by
  have hw : Region.wanted o (yielded ops act.tmps) = true := by simp [Region.wanted, hgd]
  rw [if_pos hw]
  have h63 : n + m ≤ maxLen := by
    have := Nat.mul_le_mul_left (n + m) hb1
    unfold maxLen
    omega
  obtain ⟨a', c', w', hr, h2, h3⟩ := run_app2 (P := P) (d := d) w t o.type e i z bytes ht hi hz hsize hby hzs hown hnew hbytes h63 hB
  unfold Oper.wp execOp
  simp only [ho, resolve, invoke, builtin, Sem.run_bind, Sem.run_pure, Result.andThen_ok, List.map_toArray, List.map_cons, List.map_nil, hs, hx, hr]
  exact h a' c' w' h2 h3
end
/-- What lies in other blocks than the one that was written to. -/
theorem nums_far {k : IntKind} {w w' : World} {g : Nat} {n : Nat} {l : List Int} {r : Option Nat} (h : Nums k w (some ⟨g, 0, none⟩) n l) (hg : w.grownBy w' r) (hne : r ≠ some g) : Nums k w' (some ⟨g, 0, none⟩) n l :=
  ⟨h.len, h.fits, fun j hj => by
    obtain ⟨ad, e, hx⟩ := h.cell j hj
    cases e
    refine ⟨_, rfl, ?_⟩
    have hlt := cell_in hx
    have hb : ((⟨g, 0, none⟩ : Addr).add j).block = g := addr_block _ _
    rw [← hx]
    unfold World.cell?
    rw [hg.block _ hlt (by rw [hb]; exact fun e => hne e.symm)]⟩

theorem nums_head {w : World} {g n : Nat} {l : List Int} (h : Nums .i64 w (some ⟨g, 0, none⟩) n l) {j : Nat} (hj : j ≤ n) : Nums .i64 w (some ⟨g, 0, none⟩) j (l.take j) := by
  have := h.sub 0 j (by omega) (b := some ⟨g, 0, none⟩) (fun _ ad e => by cases e; rfl)
  simpa using this
theorem nums_tail {w : World} {g n : Nat} {l : List Int} (c : Nat) (h : Nums .i64 w (some ⟨g, 0, none⟩) n l) {j : Nat} (hj : j ≤ n) (hc : n ≤ c) : Nums .i64 w (if c = j then some ⟨g, 0, none⟩ else some ⟨g, j, none⟩) (n - j) (l.drop j) := by
  have := h.sub j (n - j) (by omega) (b := if c = j then some ⟨g, 0, none⟩ else some ⟨g, j, none⟩) (fun h0 ad e => by
    cases e
    rw [if_neg (by omega), addr_zero])
  rw [List.take_of_length_le (by rw [List.length_drop, h.len]; omega)] at this
  exact this

theorem nums_tail0 {w : World} {g n : Nat} {l : List Int} (c : Nat) (h : Nums .i64 w (some ⟨g, 0, none⟩) n l) (hc : n ≤ c) : Nums .i64 w (if c = n then some ⟨g, 0, none⟩ else some ⟨g, n, none⟩) 0 [] := by
  have := nums_tail c h (Nat.le_refl n) hc
  rw [Nat.sub_self, List.drop_eq_nil_of_le (by rw [h.len]; exact Nat.le_refl _)] at this
  exact this

set_option maxHeartbeats 4000000 in
set_option maxRecDepth 100000 in
theorem specPut_any (g n c : Nat) (l : List Int) (x : Int) (w : World) (h : Nums .i64 w (some ⟨g, 0, none⟩) n l) (hc : n ≤ c ∧ (c : Int) ≤ 9223372036854775807) (hn : n ≤ 1000000000) :
    Calls Tryz.prog 85 #[.slice (some ⟨g, 0, none⟩) n c, .int .i64 x] w (Made .i64 3 w.heap.size (putL l x) w) := by
  have H := Lib.hid h
  have hl := Lib.hid h.len
  clear h
  obtain ⟨i0, hi, hz0, hz1, hz2⟩ := info_parts infoIntS
  have HI := Lib.hid (And.intro hi (And.intro hz0 (And.intro hz1 hz2)))
  clear hi hz0 hz1 hz2
  go_enter Tryz.func85, Tryz.ntmps85
  go_wp2_with fail
  go_loop [5] (fun i => ∃ j : Nat, j ≤ n ∧ i = .int .i64 j ∧ ∀ y ∈ l.take j, y < x) (fun i => n - (intOf i).toNat)
  case atStart => exact ⟨0, Nat.zero_le _, rfl, by simp⟩
  case round =>
    obtain ⟨j, hj, rfl, hlow⟩ := hrel
    have HL := Lib.hid hlow
    clear hlow
    by_cases hlt : j < n
    · obtain ⟨ad, y, had, hy, hcell⟩ := H.out.at_ hlt
      cases had
      rw [addr_zero] at hcell
      have HY := Lib.hid hy
      clear hy
      by_cases q : y < x
      · have e1 : decide (y < x) = true := decide_eq_true q
        go_wp2_with fail
        go_round
        case rel =>
          refine ⟨j + 1, by omega, by go_num, fun z hz => ?_⟩
          rw [List.take_add_one, HY.out] at hz
          rcases List.mem_append.1 hz with hz | hz
          · exact HL.out z hz
          · have : z = y := by simpa using hz
            omega
        case measure => simp [intOf]; omega
      · have e1 : decide (y < x) = false := decide_eq_false q
        by_cases q2 : y = x
        · subst q2
          have HP := Lib.hid (putL_there HL.out HY.out)
          go_wp2_with (at_builtin; refine wpl_app _ rfl (.tmp 32) (.tmp 33) 24 rfl .i64 3 i0 (.int .i64 0) 8 Tryz.underlying24 HI.out.1 HI.out.2.1 HI.out.2.2.1 HI.out.2.2.2 rfl rfl (Own.empty (Nat.le_refl _)) rfl (H.out.same (alloc_same _ _)) (by omega) ?c1 ?c2 ?_)
          case c1 => omega
          intro a' c' w' ho hb
          have HO := Lib.hid ho
          have HB := Lib.hid hb
          clear ho hb
          go_wp2
          go_ret
          refine ⟨a', _, c', rfl, ?_, ((Below.refl _ w).alloc (Nat.le_refl _) _).trans HB.out⟩
          rw [HP.out]
          simpa using HO.out
        · have e2 : (y == x) = false := by simpa using q2
          go_wp2_with fail
          have HP : Hid (putL l x = l.take j ++ x :: l.drop j) := Lib.hid (putL_new HL.out (fun z hz => by have e := HY.out; rw [hz] at e; cases e; omega))
          have hjc : j ≤ c := by omega
          have hjc2 : (j : Int) ≤ (c : Int) := by omega
          have hjn : j ≤ n := by omega
          refine wp_region_held_drew (S := fun w' => Nums .i64 w' (some ⟨g, 0, none⟩) n l) (by kernel_rfl) (H.out.same (Below.refl _ _).drew) (fun hHeld => ?_)
          refine wpAnyH_take (i := 1) (v := ?v1) (by simp only [List.getElem?_toArray, List.getElem?_cons_succ, List.getElem?_cons_zero]; rfl) (by kernel_rfl) (by kernel_rfl) (by kernel_rfl) (by exact fun _ _ _ h => h) (Or.inl ⟨by rfl, fun w9 hS9 => ?hy1⟩) hHeld ?rest1
          case hy1 =>
            clear hS9
            go_simp
            try with_reducible rfl
          try simp only [Act.put, List.setIfInBounds_toArray, List.set_cons_zero, List.set_cons_succ]
          refine wpAnyH_take (i := 2) (v := ?v2) (by simp only [List.getElem?_toArray, List.getElem?_cons_succ, List.getElem?_cons_zero]; rfl) (by kernel_rfl) (by kernel_rfl) (by kernel_rfl) (by exact fun _ _ _ h => h) (Or.inl ⟨by rfl, fun w9 hS9 => ?hy2⟩) hHeld ?rest2
          case hy2 =>
            clear hS9
            go_simp
            try with_reducible rfl
          try simp only [Act.put, List.setIfInBounds_toArray, List.set_cons_zero, List.set_cons_succ]
          refine wpAnyH_take (i := 3) (v := ?v3) (by simp only [List.getElem?_toArray, List.getElem?_cons_succ, List.getElem?_cons_zero]; rfl) (by kernel_rfl) (by kernel_rfl) (by kernel_rfl) (by exact fun _ _ _ h => h) (Or.inl ⟨by rfl, fun w9 hS9 => ?hy3⟩) hHeld ?rest3
          case hy3 =>
            clear hS9
            go_simp
            try with_reducible rfl
          try simp only [Act.put, List.setIfInBounds_toArray, List.set_cons_zero, List.set_cons_succ]
          refine wpAnyH_take (i := 5) (v := ?v4) (by simp only [List.getElem?_toArray, List.getElem?_cons_succ, List.getElem?_cons_zero]; rfl) (by kernel_rfl) (by kernel_rfl) (by kernel_rfl) (by exact fun _ _ _ h => h) (Or.inl ⟨by rfl, fun w9 hS9 => ?hy4⟩) hHeld ?rest4
          case hy4 =>
            clear hS9
            go_simp
            try with_reducible rfl
          try simp only [Act.put, List.setIfInBounds_toArray, List.set_cons_zero, List.set_cons_succ]
          refine wpAnyH_take (i := 8) (v := ?v5) (by simp only [List.getElem?_toArray, List.getElem?_cons_succ, List.getElem?_cons_zero]; rfl) (by kernel_rfl) (by kernel_rfl) (by kernel_rfl) (by exact fun _ _ _ h => h) (Or.inl ⟨by rfl, fun w9 hS9 => ?hy5⟩) hHeld ?rest5
          case hy5 =>
            clear hS9
            go_simp
            try with_reducible rfl
          try simp only [Act.put, List.setIfInBounds_toArray, List.set_cons_zero, List.set_cons_succ]
          refine wpAnyH_take (i := 9) (v := ?v6) (by simp only [List.getElem?_toArray, List.getElem?_cons_succ, List.getElem?_cons_zero]; rfl) (by kernel_rfl) (by kernel_rfl) (by kernel_rfl) (by exact fun _ _ _ h => h) (Or.inl ⟨by rfl, fun w9 hS9 => ?hy6⟩) hHeld ?rest6
          case hy6 =>
            clear hS9
            go_simp
            try with_reducible rfl
          try simp only [Act.put, List.setIfInBounds_toArray, List.set_cons_zero, List.set_cons_succ]
          refine wpAnyH_take (i := 10) (v := ?v7) (by simp only [List.getElem?_toArray, List.getElem?_cons_succ, List.getElem?_cons_zero]; rfl) (by kernel_rfl) (by kernel_rfl) (by kernel_rfl) (by exact fun _ _ _ h => h) (Or.inl ⟨by rfl, fun w9 hS9 => ?hy7⟩) hHeld ?rest7
          case hy7 =>
            clear hS9
            go_simp
            try with_reducible rfl
          try simp only [Act.put, List.setIfInBounds_toArray, List.set_cons_zero, List.set_cons_succ]
          refine wpAnyH_ready (rs := [0, 6]) (by kernel_rfl) (by simp) (AllReadyH.cons (by simp only [List.getElem?_toArray, List.getElem?_cons_succ, List.getElem?_cons_zero]; rfl) (fun K hK => ?_) (AllReadyH.cons (by simp only [List.getElem?_toArray, List.getElem?_cons_succ, List.getElem?_cons_zero]; rfl) (fun K hK => ?_) AllReadyH.nil))
          · have HB1 : Hid (Below w.heap.size w (w.alloc (.cells #[] 3)).drew) := Lib.hid ((Below.refl _ w).alloc (Nat.le_refl _) _).drew
            have O1 : Own .i64 3 (w.alloc (.cells #[] 3)).drew w.heap.size (some ⟨w.heap.size, 0, none⟩) 0 0 [] := Own.empty (Nat.le_refl _)
            go_simp
            refine hK.out _ _ (H.out.same HB1.out) (fun hHeld => ?_)
            clear hK K
            try simp only [Act.put, List.setIfInBounds_toArray, List.set_cons_zero, List.set_cons_succ]
            refine wpAnyH_ready (rs := [4, 6]) (by kernel_rfl) (by simp) (AllReadyH.cons (by simp only [List.getElem?_toArray, List.getElem?_cons_succ, List.getElem?_cons_zero]; rfl) (fun K hK => ?_) (AllReadyH.cons (by simp only [List.getElem?_toArray, List.getElem?_cons_succ, List.getElem?_cons_zero]; rfl) (fun K hK => ?_) AllReadyH.nil))
            · skip
              refine step_app2 _ (by rfl) (.tmp 35) (.tmp 38) 24 (by rfl) .i64 3 i0 (.int .i64 0) 8 Tryz.underlying24 HI.out.1 HI.out.2.1 HI.out.2.2.1 HI.out.2.2.2 rfl (by rfl) O1 (by rfl) (nums_head hHeld hjn) (by omega) (by omega) HB1.out.size ?_
              intro a2 c2 w2 ho2 hg2
              rw [Nat.zero_add] at ho2
              have HB2 := Lib.hid (grown_to hg2 HB1.out (Own.span O1) (Nat.le_refl _) HB1.out.size)
              refine hK.out _ _ (H.out.same HB2.out) (fun hHeld => ?_)
              clear hK K
              try simp only [Act.put, List.setIfInBounds_toArray, List.set_cons_zero, List.set_cons_succ]
              refine wpAnyH_ready (rs := [6]) (by kernel_rfl) (by simp) (AllReadyH.cons (by simp only [List.getElem?_toArray, List.getElem?_cons_succ, List.getElem?_cons_zero]; rfl) (fun K hK => ?_) AllReadyH.nil)
              have HB3 : Hid (Below w.heap.size w (w2.alloc (.cells #[.int .i64 x] 3))) := Lib.hid (HB2.out.alloc HB2.out.size _)
              have O3 := ho2.alloc (.cells #[.int .i64 x] 3)
              have N3 := nums_new w2 .i64 x 3
              go_simp
              refine hK.out _ _ (H.out.same HB3.out) (fun hHeld => ?_)
              clear hK K
              try simp only [Act.put, List.setIfInBounds_toArray, List.set_cons_zero, List.set_cons_succ]
              refine wpAnyH_ready (rs := [7]) (by kernel_rfl) (by simp) (AllReadyH.cons (by simp only [List.getElem?_toArray, List.getElem?_cons_succ, List.getElem?_cons_zero]; rfl) (fun K hK => ?_) AllReadyH.nil)
              refine step_app2 _ (by rfl) (.tmp 39) (.tmp 41) 24 (by rfl) .i64 3 i0 (.int .i64 0) 8 Tryz.underlying24 HI.out.1 HI.out.2.1 HI.out.2.2.1 HI.out.2.2.2 rfl (by rfl) O3 (by rfl) N3 (by omega) (by omega) HB3.out.size ?_
              intro a5 c5 w5 ho5 hg5
              skip
              have HB5 := Lib.hid (grown_to hg5 HB3.out (Own.span O3) (Nat.le_refl _) HB3.out.size)
              refine hK.out _ _ (H.out.same HB5.out) (fun hHeld => ?_)
              clear hK K
              try simp only [Act.put, List.setIfInBounds_toArray, List.set_cons_zero, List.set_cons_succ]
              refine wpAnyH_ready (rs := [11]) (by kernel_rfl) (by simp) (AllReadyH.cons (by simp only [List.getElem?_toArray, List.getElem?_cons_succ, List.getElem?_cons_zero]; rfl) (fun K hK => ?_) AllReadyH.nil)
              refine step_app2 _ (by rfl) (.tmp 42) (.tmp 45) 24 (by rfl) .i64 3 i0 (.int .i64 0) 8 Tryz.underlying24 HI.out.1 HI.out.2.1 HI.out.2.2.1 HI.out.2.2.2 rfl (by rfl) ho5 (by rfl) (nums_tail c hHeld hjn hc.1) (by omega) (by omega) HB5.out.size ?_
              intro a6 c6 w6 ho6 hg6
              skip
              have HB6 := Lib.hid (grown_to hg6 HB5.out (Own.span ho5) (Nat.le_refl _) HB5.out.size)
              refine hK.out _ _ (H.out.same HB6.out) (fun hHeld => ?_)
              clear hK K
              try simp only [Act.put, List.setIfInBounds_toArray, List.set_cons_zero, List.set_cons_succ]
              refine wpAnyH_take (i := 12) (v := ?v8) (by simp only [List.getElem?_toArray, List.getElem?_cons_succ, List.getElem?_cons_zero]; rfl) (by kernel_rfl) (by kernel_rfl) (by kernel_rfl) (by exact fun _ _ _ h => h) (Or.inl ⟨by rfl, fun w9 hS9 => ?hy8⟩) hHeld ?rest8
              case hy8 =>
                clear hS9
                go_simp
                try with_reducible rfl
              try simp only [Act.put, List.setIfInBounds_toArray, List.set_cons_zero, List.set_cons_succ]
              refine wpAnyH_done (by kernel_rfl) ?_ _
              go_wp2
              all_goals
                go_ret
                refine ⟨_, _, _, rfl, ?_, HB6.out⟩
                rw [HP.out]
                have e9 : [] ++ l.take j ++ [x] ++ l.drop j = l.take j ++ x :: l.drop j := by simp
                rw [e9] at ho6
                first | exact ho6 | simpa only [Nat.zero_add, Nat.add_zero] using ho6
            · have HB2 : Hid (Below w.heap.size w ((w.alloc (.cells #[] 3)).alloc (.cells #[.int .i64 x] 3)).drew) := Lib.hid (((Below.refl _ w).alloc (Nat.le_refl _) _).alloc (by simp) _).drew
              have O2 : Own .i64 3 ((w.alloc (.cells #[] 3)).alloc (.cells #[.int .i64 x] 3)).drew w.heap.size (some ⟨w.heap.size, 0, none⟩) 0 0 [] := (Own.empty (Nat.le_refl _)).alloc _
              have N2 : Nums .i64 ((w.alloc (.cells #[] 3)).alloc (.cells #[.int .i64 x] 3)).drew (some ⟨w.heap.size + 1, 0, none⟩) 1 [x] := by
                have := nums_new (w.alloc (.cells #[] 3)) .i64 x 3
                rw [World.size_alloc] at this
                exact this.same (Below.refl _ _).drew
              go_simp
              refine hK.out _ _ (H.out.same HB2.out) (fun hHeld => ?_)
              clear hK K
              try simp only [Act.put, List.setIfInBounds_toArray, List.set_cons_zero, List.set_cons_succ]
              refine wpAnyH_ready (rs := [4]) (by kernel_rfl) (by simp) (AllReadyH.cons (by simp only [List.getElem?_toArray, List.getElem?_cons_succ, List.getElem?_cons_zero]; rfl) (fun K hK => ?_) AllReadyH.nil)
              refine step_app2 _ (by rfl) (.tmp 35) (.tmp 38) 24 (by rfl) .i64 3 i0 (.int .i64 0) 8 Tryz.underlying24 HI.out.1 HI.out.2.1 HI.out.2.2.1 HI.out.2.2.2 rfl (by rfl) O2 (by rfl) (nums_head hHeld hjn) (by omega) (by omega) HB2.out.size ?_
              intro a3 c3 w3 ho3 hg3
              skip
              have HB3 := Lib.hid (grown_to hg3 HB2.out (Own.span O2) (Nat.le_refl _) HB2.out.size)
              have N3 := nums_far N2 hg3 (by simp [Value.ownBlock])
              refine hK.out _ _ (H.out.same HB3.out) (fun hHeld => ?_)
              clear hK K
              try simp only [Act.put, List.setIfInBounds_toArray, List.set_cons_zero, List.set_cons_succ]
              refine wpAnyH_ready (rs := [7]) (by kernel_rfl) (by simp) (AllReadyH.cons (by simp only [List.getElem?_toArray, List.getElem?_cons_succ, List.getElem?_cons_zero]; rfl) (fun K hK => ?_) AllReadyH.nil)
              refine step_app2 _ (by rfl) (.tmp 39) (.tmp 41) 24 (by rfl) .i64 3 i0 (.int .i64 0) 8 Tryz.underlying24 HI.out.1 HI.out.2.1 HI.out.2.2.1 HI.out.2.2.2 rfl (by rfl) ho3 (by rfl) N3 (by omega) (by omega) HB3.out.size ?_
              intro a5 c5 w5 ho5 hg5
              skip
              have HB5 := Lib.hid (grown_to hg5 HB3.out (Own.span ho3) (Nat.le_refl _) HB3.out.size)
              refine hK.out _ _ (H.out.same HB5.out) (fun hHeld => ?_)
              clear hK K
              try simp only [Act.put, List.setIfInBounds_toArray, List.set_cons_zero, List.set_cons_succ]
              refine wpAnyH_ready (rs := [11]) (by kernel_rfl) (by simp) (AllReadyH.cons (by simp only [List.getElem?_toArray, List.getElem?_cons_succ, List.getElem?_cons_zero]; rfl) (fun K hK => ?_) AllReadyH.nil)
              refine step_app2 _ (by rfl) (.tmp 42) (.tmp 45) 24 (by rfl) .i64 3 i0 (.int .i64 0) 8 Tryz.underlying24 HI.out.1 HI.out.2.1 HI.out.2.2.1 HI.out.2.2.2 rfl (by rfl) ho5 (by rfl) (nums_tail c hHeld hjn hc.1) (by omega) (by omega) HB5.out.size ?_
              intro a6 c6 w6 ho6 hg6
              skip
              have HB6 := Lib.hid (grown_to hg6 HB5.out (Own.span ho5) (Nat.le_refl _) HB5.out.size)
              refine hK.out _ _ (H.out.same HB6.out) (fun hHeld => ?_)
              clear hK K
              try simp only [Act.put, List.setIfInBounds_toArray, List.set_cons_zero, List.set_cons_succ]
              refine wpAnyH_take (i := 12) (v := ?v9) (by simp only [List.getElem?_toArray, List.getElem?_cons_succ, List.getElem?_cons_zero]; rfl) (by kernel_rfl) (by kernel_rfl) (by kernel_rfl) (by exact fun _ _ _ h => h) (Or.inl ⟨by rfl, fun w9 hS9 => ?hy9⟩) hHeld ?rest9
              case hy9 =>
                clear hS9
                go_simp
                try with_reducible rfl
              try simp only [Act.put, List.setIfInBounds_toArray, List.set_cons_zero, List.set_cons_succ]
              refine wpAnyH_done (by kernel_rfl) ?_ _
              go_wp2
              all_goals
                go_ret
                refine ⟨_, _, _, rfl, ?_, HB6.out⟩
                rw [HP.out]
                have e9 : [] ++ l.take j ++ [x] ++ l.drop j = l.take j ++ x :: l.drop j := by simp
                rw [e9] at ho6
                first | exact ho6 | simpa only [Nat.zero_add, Nat.add_zero] using ho6
          · have HB1 : Hid (Below w.heap.size w (w.alloc (.cells #[.int .i64 x] 3)).drew) := Lib.hid ((Below.refl _ w).alloc (Nat.le_refl _) _).drew
            go_simp
            refine hK.out _ _ (H.out.same HB1.out) (fun hHeld => ?_)
            clear hK K
            try simp only [Act.put, List.setIfInBounds_toArray, List.set_cons_zero, List.set_cons_succ]
            refine wpAnyH_ready (rs := [0]) (by kernel_rfl) (by simp) (AllReadyH.cons (by simp only [List.getElem?_toArray, List.getElem?_cons_succ, List.getElem?_cons_zero]; rfl) (fun K hK => ?_) AllReadyH.nil)
            have HB2 : Hid (Below w.heap.size w ((w.alloc (.cells #[.int .i64 x] 3)).alloc (.cells #[] 3)).drew) := Lib.hid (((Below.refl _ w).alloc (Nat.le_refl _) _).alloc (by simp) _).drew
            have O2 : Own .i64 3 ((w.alloc (.cells #[.int .i64 x] 3)).alloc (.cells #[] 3)).drew w.heap.size (some ⟨w.heap.size + 1, 0, none⟩) 0 0 [] := by
              have := Own.empty (k := .i64) (t := 3) (w := w.alloc (.cells #[.int .i64 x] 3)) (B := w.heap.size) (by simp)
              rw [World.size_alloc] at this
              exact this
            have N2 : Nums .i64 ((w.alloc (.cells #[.int .i64 x] 3)).alloc (.cells #[] 3)).drew (some ⟨w.heap.size, 0, none⟩) 1 [x] := (nums_new w .i64 x 3).same (alloc_same _ _).drew
            go_simp
            refine hK.out _ _ (H.out.same HB2.out) (fun hHeld => ?_)
            clear hK K
            try simp only [Act.put, List.setIfInBounds_toArray, List.set_cons_zero, List.set_cons_succ]
            refine wpAnyH_ready (rs := [4]) (by kernel_rfl) (by simp) (AllReadyH.cons (by simp only [List.getElem?_toArray, List.getElem?_cons_succ, List.getElem?_cons_zero]; rfl) (fun K hK => ?_) AllReadyH.nil)
            refine step_app2 _ (by rfl) (.tmp 35) (.tmp 38) 24 (by rfl) .i64 3 i0 (.int .i64 0) 8 Tryz.underlying24 HI.out.1 HI.out.2.1 HI.out.2.2.1 HI.out.2.2.2 rfl (by rfl) O2 (by rfl) (nums_head hHeld hjn) (by omega) (by omega) HB2.out.size ?_
            intro a3 c3 w3 ho3 hg3
            skip
            have HB3 := Lib.hid (grown_to hg3 HB2.out (Own.span O2) (Nat.le_refl _) HB2.out.size)
            have N3 := nums_far N2 hg3 (by simp [Value.ownBlock])
            refine hK.out _ _ (H.out.same HB3.out) (fun hHeld => ?_)
            clear hK K
            try simp only [Act.put, List.setIfInBounds_toArray, List.set_cons_zero, List.set_cons_succ]
            refine wpAnyH_ready (rs := [7]) (by kernel_rfl) (by simp) (AllReadyH.cons (by simp only [List.getElem?_toArray, List.getElem?_cons_succ, List.getElem?_cons_zero]; rfl) (fun K hK => ?_) AllReadyH.nil)
            refine step_app2 _ (by rfl) (.tmp 39) (.tmp 41) 24 (by rfl) .i64 3 i0 (.int .i64 0) 8 Tryz.underlying24 HI.out.1 HI.out.2.1 HI.out.2.2.1 HI.out.2.2.2 rfl (by rfl) ho3 (by rfl) N3 (by omega) (by omega) HB3.out.size ?_
            intro a5 c5 w5 ho5 hg5
            skip
            have HB5 := Lib.hid (grown_to hg5 HB3.out (Own.span ho3) (Nat.le_refl _) HB3.out.size)
            refine hK.out _ _ (H.out.same HB5.out) (fun hHeld => ?_)
            clear hK K
            try simp only [Act.put, List.setIfInBounds_toArray, List.set_cons_zero, List.set_cons_succ]
            refine wpAnyH_ready (rs := [11]) (by kernel_rfl) (by simp) (AllReadyH.cons (by simp only [List.getElem?_toArray, List.getElem?_cons_succ, List.getElem?_cons_zero]; rfl) (fun K hK => ?_) AllReadyH.nil)
            refine step_app2 _ (by rfl) (.tmp 42) (.tmp 45) 24 (by rfl) .i64 3 i0 (.int .i64 0) 8 Tryz.underlying24 HI.out.1 HI.out.2.1 HI.out.2.2.1 HI.out.2.2.2 rfl (by rfl) ho5 (by rfl) (nums_tail c hHeld hjn hc.1) (by omega) (by omega) HB5.out.size ?_
            intro a6 c6 w6 ho6 hg6
            skip
            have HB6 := Lib.hid (grown_to hg6 HB5.out (Own.span ho5) (Nat.le_refl _) HB5.out.size)
            refine hK.out _ _ (H.out.same HB6.out) (fun hHeld => ?_)
            clear hK K
            try simp only [Act.put, List.setIfInBounds_toArray, List.set_cons_zero, List.set_cons_succ]
            refine wpAnyH_take (i := 12) (v := ?v10) (by simp only [List.getElem?_toArray, List.getElem?_cons_succ, List.getElem?_cons_zero]; rfl) (by kernel_rfl) (by kernel_rfl) (by kernel_rfl) (by exact fun _ _ _ h => h) (Or.inl ⟨by rfl, fun w9 hS9 => ?hy10⟩) hHeld ?rest10
            case hy10 =>
              clear hS9
              go_simp
              try with_reducible rfl
            try simp only [Act.put, List.setIfInBounds_toArray, List.set_cons_zero, List.set_cons_succ]
            refine wpAnyH_done (by kernel_rfl) ?_ _
            go_wp2
            all_goals
              go_ret
              refine ⟨_, _, _, rfl, ?_, HB6.out⟩
              rw [HP.out]
              have e9 : [] ++ l.take j ++ [x] ++ l.drop j = l.take j ++ x :: l.drop j := by simp
              rw [e9] at ho6
              first | exact ho6 | simpa only [Nat.zero_add, Nat.add_zero] using ho6
    · obtain rfl : j = n := by omega
      go_wp2_with fail
      have HP : Hid (putL l x = l.take j ++ x :: l.drop j) := Lib.hid (putL_new HL.out (fun z hz => by have e := hl.out; rw [List.getElem?_eq_none (by omega)] at hz; cases hz))
      have hjc : j ≤ c := by omega
      have hjc2 : (j : Int) ≤ (c : Int) := by omega
      have hjn : j ≤ j := by omega
      refine wp_region_held_drew (S := fun w' => Nums .i64 w' (some ⟨g, 0, none⟩) j l) (by kernel_rfl) (H.out.same (Below.refl _ _).drew) (fun hHeld => ?_)
      refine wpAnyH_take (i := 1) (v := ?v11) (by simp only [List.getElem?_toArray, List.getElem?_cons_succ, List.getElem?_cons_zero]; rfl) (by kernel_rfl) (by kernel_rfl) (by kernel_rfl) (by exact fun _ _ _ h => h) (Or.inl ⟨by rfl, fun w9 hS9 => ?hy11⟩) hHeld ?rest11
      case hy11 =>
        clear hS9
        go_simp
        try with_reducible rfl
      try simp only [Act.put, List.setIfInBounds_toArray, List.set_cons_zero, List.set_cons_succ]
      refine wpAnyH_take (i := 2) (v := ?v12) (by simp only [List.getElem?_toArray, List.getElem?_cons_succ, List.getElem?_cons_zero]; rfl) (by kernel_rfl) (by kernel_rfl) (by kernel_rfl) (by exact fun _ _ _ h => h) (Or.inl ⟨by rfl, fun w9 hS9 => ?hy12⟩) hHeld ?rest12
      case hy12 =>
        clear hS9
        go_simp
        try with_reducible rfl
      try simp only [Act.put, List.setIfInBounds_toArray, List.set_cons_zero, List.set_cons_succ]
      refine wpAnyH_take (i := 3) (v := ?v13) (by simp only [List.getElem?_toArray, List.getElem?_cons_succ, List.getElem?_cons_zero]; rfl) (by kernel_rfl) (by kernel_rfl) (by kernel_rfl) (by exact fun _ _ _ h => h) (Or.inl ⟨by rfl, fun w9 hS9 => ?hy13⟩) hHeld ?rest13
      case hy13 =>
        clear hS9
        go_simp
        try with_reducible rfl
      try simp only [Act.put, List.setIfInBounds_toArray, List.set_cons_zero, List.set_cons_succ]
      refine wpAnyH_take (i := 5) (v := ?v14) (by simp only [List.getElem?_toArray, List.getElem?_cons_succ, List.getElem?_cons_zero]; rfl) (by kernel_rfl) (by kernel_rfl) (by kernel_rfl) (by exact fun _ _ _ h => h) (Or.inl ⟨by rfl, fun w9 hS9 => ?hy14⟩) hHeld ?rest14
      case hy14 =>
        clear hS9
        go_simp
        try with_reducible rfl
      try simp only [Act.put, List.setIfInBounds_toArray, List.set_cons_zero, List.set_cons_succ]
      refine wpAnyH_take (i := 8) (v := ?v15) (by simp only [List.getElem?_toArray, List.getElem?_cons_succ, List.getElem?_cons_zero]; rfl) (by kernel_rfl) (by kernel_rfl) (by kernel_rfl) (by exact fun _ _ _ h => h) (Or.inl ⟨by rfl, fun w9 hS9 => ?hy15⟩) hHeld ?rest15
      case hy15 =>
        clear hS9
        go_simp
        try with_reducible rfl
      try simp only [Act.put, List.setIfInBounds_toArray, List.set_cons_zero, List.set_cons_succ]
      refine wpAnyH_take (i := 9) (v := ?v16) (by simp only [List.getElem?_toArray, List.getElem?_cons_succ, List.getElem?_cons_zero]; rfl) (by kernel_rfl) (by kernel_rfl) (by kernel_rfl) (by exact fun _ _ _ h => h) (Or.inl ⟨by rfl, fun w9 hS9 => ?hy16⟩) hHeld ?rest16
      case hy16 =>
        clear hS9
        go_simp
        try with_reducible rfl
      try simp only [Act.put, List.setIfInBounds_toArray, List.set_cons_zero, List.set_cons_succ]
      refine wpAnyH_take (i := 10) (v := ?v17) (by simp only [List.getElem?_toArray, List.getElem?_cons_succ, List.getElem?_cons_zero]; rfl) (by kernel_rfl) (by kernel_rfl) (by kernel_rfl) (by exact fun _ _ _ h => h) (Or.inl ⟨by rfl, fun w9 hS9 => ?hy17⟩) hHeld ?rest17
      case hy17 =>
        clear hS9
        go_simp
        try with_reducible rfl
      try simp only [Act.put, List.setIfInBounds_toArray, List.set_cons_zero, List.set_cons_succ]
      refine wpAnyH_ready (rs := [0, 6]) (by kernel_rfl) (by simp) (AllReadyH.cons (by simp only [List.getElem?_toArray, List.getElem?_cons_succ, List.getElem?_cons_zero]; rfl) (fun K hK => ?_) (AllReadyH.cons (by simp only [List.getElem?_toArray, List.getElem?_cons_succ, List.getElem?_cons_zero]; rfl) (fun K hK => ?_) AllReadyH.nil))
      · have HB1 : Hid (Below w.heap.size w (w.alloc (.cells #[] 3)).drew) := Lib.hid ((Below.refl _ w).alloc (Nat.le_refl _) _).drew
        have O1 : Own .i64 3 (w.alloc (.cells #[] 3)).drew w.heap.size (some ⟨w.heap.size, 0, none⟩) 0 0 [] := Own.empty (Nat.le_refl _)
        go_simp
        refine hK.out _ _ (H.out.same HB1.out) (fun hHeld => ?_)
        clear hK K
        try simp only [Act.put, List.setIfInBounds_toArray, List.set_cons_zero, List.set_cons_succ]
        refine wpAnyH_ready (rs := [4, 6]) (by kernel_rfl) (by simp) (AllReadyH.cons (by simp only [List.getElem?_toArray, List.getElem?_cons_succ, List.getElem?_cons_zero]; rfl) (fun K hK => ?_) (AllReadyH.cons (by simp only [List.getElem?_toArray, List.getElem?_cons_succ, List.getElem?_cons_zero]; rfl) (fun K hK => ?_) AllReadyH.nil))
        · skip
          refine step_app2 _ (by rfl) (.tmp 35) (.tmp 38) 24 (by rfl) .i64 3 i0 (.int .i64 0) 8 Tryz.underlying24 HI.out.1 HI.out.2.1 HI.out.2.2.1 HI.out.2.2.2 rfl (by rfl) O1 (by rfl) (nums_head hHeld hjn) (by omega) (by omega) HB1.out.size ?_
          intro a2 c2 w2 ho2 hg2
          rw [Nat.zero_add] at ho2
          have HB2 := Lib.hid (grown_to hg2 HB1.out (Own.span O1) (Nat.le_refl _) HB1.out.size)
          refine hK.out _ _ (H.out.same HB2.out) (fun hHeld => ?_)
          clear hK K
          try simp only [Act.put, List.setIfInBounds_toArray, List.set_cons_zero, List.set_cons_succ]
          refine wpAnyH_ready (rs := [6]) (by kernel_rfl) (by simp) (AllReadyH.cons (by simp only [List.getElem?_toArray, List.getElem?_cons_succ, List.getElem?_cons_zero]; rfl) (fun K hK => ?_) AllReadyH.nil)
          have HB3 : Hid (Below w.heap.size w (w2.alloc (.cells #[.int .i64 x] 3))) := Lib.hid (HB2.out.alloc HB2.out.size _)
          have O3 := ho2.alloc (.cells #[.int .i64 x] 3)
          have N3 := nums_new w2 .i64 x 3
          go_simp
          refine hK.out _ _ (H.out.same HB3.out) (fun hHeld => ?_)
          clear hK K
          try simp only [Act.put, List.setIfInBounds_toArray, List.set_cons_zero, List.set_cons_succ]
          refine wpAnyH_ready (rs := [7]) (by kernel_rfl) (by simp) (AllReadyH.cons (by simp only [List.getElem?_toArray, List.getElem?_cons_succ, List.getElem?_cons_zero]; rfl) (fun K hK => ?_) AllReadyH.nil)
          refine step_app2 _ (by rfl) (.tmp 39) (.tmp 41) 24 (by rfl) .i64 3 i0 (.int .i64 0) 8 Tryz.underlying24 HI.out.1 HI.out.2.1 HI.out.2.2.1 HI.out.2.2.2 rfl (by rfl) O3 (by rfl) N3 (by omega) (by omega) HB3.out.size ?_
          intro a5 c5 w5 ho5 hg5
          skip
          have HB5 := Lib.hid (grown_to hg5 HB3.out (Own.span O3) (Nat.le_refl _) HB3.out.size)
          refine hK.out _ _ (H.out.same HB5.out) (fun hHeld => ?_)
          clear hK K
          try simp only [Act.put, List.setIfInBounds_toArray, List.set_cons_zero, List.set_cons_succ]
          refine wpAnyH_ready (rs := [11]) (by kernel_rfl) (by simp) (AllReadyH.cons (by simp only [List.getElem?_toArray, List.getElem?_cons_succ, List.getElem?_cons_zero]; rfl) (fun K hK => ?_) AllReadyH.nil)
          refine step_app2 _ (by rfl) (.tmp 42) (.tmp 45) 24 (by rfl) .i64 3 i0 (.int .i64 0) 8 Tryz.underlying24 HI.out.1 HI.out.2.1 HI.out.2.2.1 HI.out.2.2.2 rfl (by rfl) ho5 (by rfl) (nums_tail0 c hHeld hc.1) (by omega) (by omega) HB5.out.size ?_
          intro a6 c6 w6 ho6 hg6
          skip
          have HB6 := Lib.hid (grown_to hg6 HB5.out (Own.span ho5) (Nat.le_refl _) HB5.out.size)
          refine hK.out _ _ (H.out.same HB6.out) (fun hHeld => ?_)
          clear hK K
          try simp only [Act.put, List.setIfInBounds_toArray, List.set_cons_zero, List.set_cons_succ]
          refine wpAnyH_take (i := 12) (v := ?v18) (by simp only [List.getElem?_toArray, List.getElem?_cons_succ, List.getElem?_cons_zero]; rfl) (by kernel_rfl) (by kernel_rfl) (by kernel_rfl) (by exact fun _ _ _ h => h) (Or.inl ⟨by rfl, fun w9 hS9 => ?hy18⟩) hHeld ?rest18
          case hy18 =>
            clear hS9
            go_simp
            try with_reducible rfl
          try simp only [Act.put, List.setIfInBounds_toArray, List.set_cons_zero, List.set_cons_succ]
          refine wpAnyH_done (by kernel_rfl) ?_ _
          go_wp2
          all_goals
            go_ret
            refine ⟨_, _, _, rfl, ?_, HB6.out⟩
            rw [HP.out]
            have e9 : [] ++ l.take j ++ [x] ++ [] = l.take j ++ x :: l.drop j := by rw [List.drop_eq_nil_of_le (by have := hl.out; omega)]; simp
            rw [e9] at ho6
            first | exact ho6 | simpa only [Nat.zero_add, Nat.add_zero] using ho6
        · have HB2 : Hid (Below w.heap.size w ((w.alloc (.cells #[] 3)).alloc (.cells #[.int .i64 x] 3)).drew) := Lib.hid (((Below.refl _ w).alloc (Nat.le_refl _) _).alloc (by simp) _).drew
          have O2 : Own .i64 3 ((w.alloc (.cells #[] 3)).alloc (.cells #[.int .i64 x] 3)).drew w.heap.size (some ⟨w.heap.size, 0, none⟩) 0 0 [] := (Own.empty (Nat.le_refl _)).alloc _
          have N2 : Nums .i64 ((w.alloc (.cells #[] 3)).alloc (.cells #[.int .i64 x] 3)).drew (some ⟨w.heap.size + 1, 0, none⟩) 1 [x] := by
            have := nums_new (w.alloc (.cells #[] 3)) .i64 x 3
            rw [World.size_alloc] at this
            exact this.same (Below.refl _ _).drew
          go_simp
          refine hK.out _ _ (H.out.same HB2.out) (fun hHeld => ?_)
          clear hK K
          try simp only [Act.put, List.setIfInBounds_toArray, List.set_cons_zero, List.set_cons_succ]
          refine wpAnyH_ready (rs := [4]) (by kernel_rfl) (by simp) (AllReadyH.cons (by simp only [List.getElem?_toArray, List.getElem?_cons_succ, List.getElem?_cons_zero]; rfl) (fun K hK => ?_) AllReadyH.nil)
          refine step_app2 _ (by rfl) (.tmp 35) (.tmp 38) 24 (by rfl) .i64 3 i0 (.int .i64 0) 8 Tryz.underlying24 HI.out.1 HI.out.2.1 HI.out.2.2.1 HI.out.2.2.2 rfl (by rfl) O2 (by rfl) (nums_head hHeld hjn) (by omega) (by omega) HB2.out.size ?_
          intro a3 c3 w3 ho3 hg3
          skip
          have HB3 := Lib.hid (grown_to hg3 HB2.out (Own.span O2) (Nat.le_refl _) HB2.out.size)
          have N3 := nums_far N2 hg3 (by simp [Value.ownBlock])
          refine hK.out _ _ (H.out.same HB3.out) (fun hHeld => ?_)
          clear hK K
          try simp only [Act.put, List.setIfInBounds_toArray, List.set_cons_zero, List.set_cons_succ]
          refine wpAnyH_ready (rs := [7]) (by kernel_rfl) (by simp) (AllReadyH.cons (by simp only [List.getElem?_toArray, List.getElem?_cons_succ, List.getElem?_cons_zero]; rfl) (fun K hK => ?_) AllReadyH.nil)
          refine step_app2 _ (by rfl) (.tmp 39) (.tmp 41) 24 (by rfl) .i64 3 i0 (.int .i64 0) 8 Tryz.underlying24 HI.out.1 HI.out.2.1 HI.out.2.2.1 HI.out.2.2.2 rfl (by rfl) ho3 (by rfl) N3 (by omega) (by omega) HB3.out.size ?_
          intro a5 c5 w5 ho5 hg5
          skip
          have HB5 := Lib.hid (grown_to hg5 HB3.out (Own.span ho3) (Nat.le_refl _) HB3.out.size)
          refine hK.out _ _ (H.out.same HB5.out) (fun hHeld => ?_)
          clear hK K
          try simp only [Act.put, List.setIfInBounds_toArray, List.set_cons_zero, List.set_cons_succ]
          refine wpAnyH_ready (rs := [11]) (by kernel_rfl) (by simp) (AllReadyH.cons (by simp only [List.getElem?_toArray, List.getElem?_cons_succ, List.getElem?_cons_zero]; rfl) (fun K hK => ?_) AllReadyH.nil)
          refine step_app2 _ (by rfl) (.tmp 42) (.tmp 45) 24 (by rfl) .i64 3 i0 (.int .i64 0) 8 Tryz.underlying24 HI.out.1 HI.out.2.1 HI.out.2.2.1 HI.out.2.2.2 rfl (by rfl) ho5 (by rfl) (nums_tail0 c hHeld hc.1) (by omega) (by omega) HB5.out.size ?_
          intro a6 c6 w6 ho6 hg6
          skip
          have HB6 := Lib.hid (grown_to hg6 HB5.out (Own.span ho5) (Nat.le_refl _) HB5.out.size)
          refine hK.out _ _ (H.out.same HB6.out) (fun hHeld => ?_)
          clear hK K
          try simp only [Act.put, List.setIfInBounds_toArray, List.set_cons_zero, List.set_cons_succ]
          refine wpAnyH_take (i := 12) (v := ?v19) (by simp only [List.getElem?_toArray, List.getElem?_cons_succ, List.getElem?_cons_zero]; rfl) (by kernel_rfl) (by kernel_rfl) (by kernel_rfl) (by exact fun _ _ _ h => h) (Or.inl ⟨by rfl, fun w9 hS9 => ?hy19⟩) hHeld ?rest19
          case hy19 =>
            clear hS9
            go_simp
            try with_reducible rfl
          try simp only [Act.put, List.setIfInBounds_toArray, List.set_cons_zero, List.set_cons_succ]
          refine wpAnyH_done (by kernel_rfl) ?_ _
          go_wp2
          all_goals
            go_ret
            refine ⟨_, _, _, rfl, ?_, HB6.out⟩
            rw [HP.out]
            have e9 : [] ++ l.take j ++ [x] ++ [] = l.take j ++ x :: l.drop j := by rw [List.drop_eq_nil_of_le (by have := hl.out; omega)]; simp
            rw [e9] at ho6
            first | exact ho6 | simpa only [Nat.zero_add, Nat.add_zero] using ho6
      · have HB1 : Hid (Below w.heap.size w (w.alloc (.cells #[.int .i64 x] 3)).drew) := Lib.hid ((Below.refl _ w).alloc (Nat.le_refl _) _).drew
        go_simp
        refine hK.out _ _ (H.out.same HB1.out) (fun hHeld => ?_)
        clear hK K
        try simp only [Act.put, List.setIfInBounds_toArray, List.set_cons_zero, List.set_cons_succ]
        refine wpAnyH_ready (rs := [0]) (by kernel_rfl) (by simp) (AllReadyH.cons (by simp only [List.getElem?_toArray, List.getElem?_cons_succ, List.getElem?_cons_zero]; rfl) (fun K hK => ?_) AllReadyH.nil)
        have HB2 : Hid (Below w.heap.size w ((w.alloc (.cells #[.int .i64 x] 3)).alloc (.cells #[] 3)).drew) := Lib.hid (((Below.refl _ w).alloc (Nat.le_refl _) _).alloc (by simp) _).drew
        have O2 : Own .i64 3 ((w.alloc (.cells #[.int .i64 x] 3)).alloc (.cells #[] 3)).drew w.heap.size (some ⟨w.heap.size + 1, 0, none⟩) 0 0 [] := by
          have := Own.empty (k := .i64) (t := 3) (w := w.alloc (.cells #[.int .i64 x] 3)) (B := w.heap.size) (by simp)
          rw [World.size_alloc] at this
          exact this
        have N2 : Nums .i64 ((w.alloc (.cells #[.int .i64 x] 3)).alloc (.cells #[] 3)).drew (some ⟨w.heap.size, 0, none⟩) 1 [x] := (nums_new w .i64 x 3).same (alloc_same _ _).drew
        go_simp
        refine hK.out _ _ (H.out.same HB2.out) (fun hHeld => ?_)
        clear hK K
        try simp only [Act.put, List.setIfInBounds_toArray, List.set_cons_zero, List.set_cons_succ]
        refine wpAnyH_ready (rs := [4]) (by kernel_rfl) (by simp) (AllReadyH.cons (by simp only [List.getElem?_toArray, List.getElem?_cons_succ, List.getElem?_cons_zero]; rfl) (fun K hK => ?_) AllReadyH.nil)
        refine step_app2 _ (by rfl) (.tmp 35) (.tmp 38) 24 (by rfl) .i64 3 i0 (.int .i64 0) 8 Tryz.underlying24 HI.out.1 HI.out.2.1 HI.out.2.2.1 HI.out.2.2.2 rfl (by rfl) O2 (by rfl) (nums_head hHeld hjn) (by omega) (by omega) HB2.out.size ?_
        intro a3 c3 w3 ho3 hg3
        skip
        have HB3 := Lib.hid (grown_to hg3 HB2.out (Own.span O2) (Nat.le_refl _) HB2.out.size)
        have N3 := nums_far N2 hg3 (by simp [Value.ownBlock])
        refine hK.out _ _ (H.out.same HB3.out) (fun hHeld => ?_)
        clear hK K
        try simp only [Act.put, List.setIfInBounds_toArray, List.set_cons_zero, List.set_cons_succ]
        refine wpAnyH_ready (rs := [7]) (by kernel_rfl) (by simp) (AllReadyH.cons (by simp only [List.getElem?_toArray, List.getElem?_cons_succ, List.getElem?_cons_zero]; rfl) (fun K hK => ?_) AllReadyH.nil)
        refine step_app2 _ (by rfl) (.tmp 39) (.tmp 41) 24 (by rfl) .i64 3 i0 (.int .i64 0) 8 Tryz.underlying24 HI.out.1 HI.out.2.1 HI.out.2.2.1 HI.out.2.2.2 rfl (by rfl) ho3 (by rfl) N3 (by omega) (by omega) HB3.out.size ?_
        intro a5 c5 w5 ho5 hg5
        skip
        have HB5 := Lib.hid (grown_to hg5 HB3.out (Own.span ho3) (Nat.le_refl _) HB3.out.size)
        refine hK.out _ _ (H.out.same HB5.out) (fun hHeld => ?_)
        clear hK K
        try simp only [Act.put, List.setIfInBounds_toArray, List.set_cons_zero, List.set_cons_succ]
        refine wpAnyH_ready (rs := [11]) (by kernel_rfl) (by simp) (AllReadyH.cons (by simp only [List.getElem?_toArray, List.getElem?_cons_succ, List.getElem?_cons_zero]; rfl) (fun K hK => ?_) AllReadyH.nil)
        refine step_app2 _ (by rfl) (.tmp 42) (.tmp 45) 24 (by rfl) .i64 3 i0 (.int .i64 0) 8 Tryz.underlying24 HI.out.1 HI.out.2.1 HI.out.2.2.1 HI.out.2.2.2 rfl (by rfl) ho5 (by rfl) (nums_tail0 c hHeld hc.1) (by omega) (by omega) HB5.out.size ?_
        intro a6 c6 w6 ho6 hg6
        skip
        have HB6 := Lib.hid (grown_to hg6 HB5.out (Own.span ho5) (Nat.le_refl _) HB5.out.size)
        refine hK.out _ _ (H.out.same HB6.out) (fun hHeld => ?_)
        clear hK K
        try simp only [Act.put, List.setIfInBounds_toArray, List.set_cons_zero, List.set_cons_succ]
        refine wpAnyH_take (i := 12) (v := ?v20) (by simp only [List.getElem?_toArray, List.getElem?_cons_succ, List.getElem?_cons_zero]; rfl) (by kernel_rfl) (by kernel_rfl) (by kernel_rfl) (by exact fun _ _ _ h => h) (Or.inl ⟨by rfl, fun w9 hS9 => ?hy20⟩) hHeld ?rest20
        case hy20 =>
          clear hS9
          go_simp
          try with_reducible rfl
        try simp only [Act.put, List.setIfInBounds_toArray, List.set_cons_zero, List.set_cons_succ]
        refine wpAnyH_done (by kernel_rfl) ?_ _
        go_wp2
        all_goals
          go_ret
          refine ⟨_, _, _, rfl, ?_, HB6.out⟩
          rw [HP.out]
          have e9 : [] ++ l.take j ++ [x] ++ [] = l.take j ++ x :: l.drop j := by rw [List.drop_eq_nil_of_le (by have := hl.out; omega)]; simp
          rw [e9] at ho6
          first | exact ho6 | simpa only [Nat.zero_add, Nat.add_zero] using ho6
end Go.Proofs.YtcmjadfpifpknaaGreat
