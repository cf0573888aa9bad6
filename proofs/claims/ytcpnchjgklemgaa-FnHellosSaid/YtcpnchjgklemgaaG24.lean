/- What a side answers: by the program. A set of numbers as a map of the call's own: emptied and filled again, and asked for all numbers of a list. Whether an answer fits a hello: by the program. The laws' own helpers on lists of integers: whether a number is on a list, whether all are, what is left. -/
import Derived.Test.YtcpnchjgklemgaaG20
import Derived.Test.YtcpnchjgklemgaaG23
import Derived.Test.YtcpnchjgklemgaaG9
import Derived.Test.YtcpnchjgklemgaaG21
import Derived.Maps.Own
import Derived.MapKept
import Derived.Test.YtcpnchjgklemgaaG11
import Derived.Test.YtcpnchjgklemgaaG8
import Derived.Test.YtcpnchjgklemgaaG10
import Derived.RegionTactic
import Derived.Handy
namespace Go.Proofs.Ytcpnchjgklemgaa
open Go.ChangeShapes Go.WideShapes Go.ChangeAt Go.RowKit
set_option linter.unusedVariables false
set_option linter.unusedSimpArgs false

theorem set2_insideA (w : World) (g : Nat) (u v : Value) : Inside g (g + 1) w ((w.setCell ⟨g, 0, none⟩ u).setCell ⟨g, 1, none⟩ v) :=
  Inside.row (lo := g) (hi := g + 1) ((set_grown w g 0 u).trans (set_grown _ g 1 v)) (fun r e => by cases e; exact ⟨Nat.le_refl _, Nat.lt_succ_self _⟩)
theorem tags_wfH {x : Hel} (h : isH x = true) : ∀ z ∈ tagsX x.exts, (Lit.int .i64 z).wf = true := tags_wf (areX_parts.1 (isH_parts.1 h).2).2.1
theorem known_tags {l : List Vl} {ts : List Int} : ∀ z ∈ tagsX (knownOf l ts), z ∈ tagsX l := fun z hz => by
  unfold tagsX knownOf at *
  obtain ⟨e, he, rfl⟩ := List.mem_map.1 hz
  exact List.mem_map_of_mem (List.mem_filter.1 he).1
set_option maxHeartbeats 4000000 in
set_option maxRecDepth 100000 in
theorem choose_none {a b : Option Addr} {n c m d : Nat} {vs ts : List Int} {v : Value} {x : Hel} {w : World} (h1 : Nums .i64 w a n vs) (h2 : Nums .i64 w b m ts) (h : HelW w v x) (hz : ∀ z ∈ ts, (Lit.int .i64 z).wf = true) (hn : n ≤ 1048576) (hm : m ≤ 1048576) (h0 : best vs x.vers = 0) :
    Calls Try.prog 22 #[.slice a n c, .slice b m d, v] w (MadeAnsB w.heap.size ⟨0, []⟩ false w) := by
  have KH := Lib.hid (fun (w0 : World) (hb : Below w.heap.size w w0) => isHello_any (h.same hb))
  obtain ⟨va, vn, vc, xa, xn, xc, rfl, g1, g2, g3⟩ := h
  obtain ⟨hsz, hC, hD, hb0⟩ := two w #[.slice va vn vc, .slice xa xn xc] #[.int .i64 0, .slice none 0 0] 27 39
  have HB := Lib.hid hb0
  have KB := Lib.hid (told_is (bestCommon_any (c := c) (d := vc) (h1.same hb0) (g1.same hb0)))
  have H2 := Lib.hid (And.intro h2 (And.intro g2 hz))
  obtain ⟨B, hB⟩ : ∃ B : Nat, best vs x.vers = B := ⟨_, rfl⟩
  rw [hB] at KB
  have hlw : w.heap.size + 1 < ((w.alloc (.cells #[.slice va vn vc, .slice xa xn xc] 27)).alloc (.cells #[.int .i64 0, .slice none 0 0] 39)).heap.size := by omega
  have HC := Lib.hid hC
  have HD := Lib.hid hD
  clear hb0 hC hD hsz
  have hB0 : ((B : Int) == 0) = true := by rw [← hB, h0]; rfl
  clear h1 h2 hz g1 g2 g3 hB h0
  go_enter Try.func22, Try.ntmps22
  go_wp2_with fail
  generalize ((w.alloc (.cells #[.slice va vn vc, .slice xa xn xc] 27)).alloc (.cells #[.int .i64 0, .slice none 0 0] 39)) = W1 at *
  refine KB.out.mono ?_
  rintro e w2 ⟨rfl, hb⟩
  have HB2 := Lib.hid (HB.out.trans (hb.mono HB.out.size))
  have HC2 := Lib.hid ((hb.block w.heap.size (by omega)).trans HC.out)
  have HD2 := Lib.hid ((hb.block (w.heap.size + 1) (by omega)).trans HD.out)
  have hs2 := Nat.lt_of_lt_of_le hlw hb.size
  clear hb
  obtain ⟨m0, m1, q0, q1⟩ := two_cells HD2.out
  obtain ⟨z0, z1, hZ⟩ := two_put HD2.out (.int .i64 0) (.slice none 0 0)
  clear hZ
  go_wp2_with fail
  (try simp only [Exit.inBlock, Exit.then])
  refine bodyPost_ret (by simp [results, Try.results22, go_sem, z0, z1]; try rfl) rfl ?_
  exact ⟨_, rfl, no_ans (by simp; have := HB2.out.size; omega), (HB2.out.setCell (Nat.le_succ _) _).setCell (Nat.le_succ _) _⟩
set_option maxHeartbeats 4000000 in
set_option maxRecDepth 100000 in
theorem choose_odd {a b : Option Addr} {n c m d : Nat} {vs ts : List Int} {v : Value} {x : Hel} {w : World} (h1 : Nums .i64 w a n vs) (h2 : Nums .i64 w b m ts) (h : HelW w v x) (hz : ∀ z ∈ ts, (Lit.int .i64 z).wf = true) (hn : n ≤ 1048576) (hm : m ≤ 1048576) (h0 : ¬ best vs x.vers = 0) (hx : isH x = false) :
    Calls Try.prog 22 #[.slice a n c, .slice b m d, v] w (MadeAnsB w.heap.size ⟨0, []⟩ false w) := by
  have KH := Lib.hid (fun (w0 : World) (hb : Below w.heap.size w w0) => isHello_any (h.same hb))
  obtain ⟨va, vn, vc, xa, xn, xc, rfl, g1, g2, g3⟩ := h
  obtain ⟨hsz, hC, hD, hb0⟩ := two w #[.slice va vn vc, .slice xa xn xc] #[.int .i64 0, .slice none 0 0] 27 39
  have HB := Lib.hid hb0
  have KB := Lib.hid (told_is (bestCommon_any (c := c) (d := vc) (h1.same hb0) (g1.same hb0)))
  have H2 := Lib.hid (And.intro h2 (And.intro g2 hz))
  obtain ⟨B, hB⟩ : ∃ B : Nat, best vs x.vers = B := ⟨_, rfl⟩
  rw [hB] at KB
  have hlw : w.heap.size + 1 < ((w.alloc (.cells #[.slice va vn vc, .slice xa xn xc] 27)).alloc (.cells #[.int .i64 0, .slice none 0 0] 39)).heap.size := by omega
  have HC := Lib.hid hC
  have HD := Lib.hid hD
  clear hb0 hC hD hsz
  have hB0 : ((B : Int) == 0) = false := by simp; omega
  rw [hx] at KH
  clear h1 h2 hz g1 g2 g3 hB h0 hx
  go_enter Try.func22, Try.ntmps22
  go_wp2_with fail
  generalize ((w.alloc (.cells #[.slice va vn vc, .slice xa xn xc] 27)).alloc (.cells #[.int .i64 0, .slice none 0 0] 39)) = W1 at *
  refine KB.out.mono ?_
  rintro e w2 ⟨rfl, hb⟩
  have HB2 := Lib.hid (HB.out.trans (hb.mono HB.out.size))
  have HC2 := Lib.hid ((hb.block w.heap.size (by omega)).trans HC.out)
  have HD2 := Lib.hid ((hb.block (w.heap.size + 1) (by omega)).trans HD.out)
  have hs2 := Nat.lt_of_lt_of_le hlw hb.size
  clear hb
  obtain ⟨x0, x1, _, _⟩ := two_cells HC2.out
  go_wp2_with fail
  refine (KH.out _ HB2.out).mono ?_
  rintro e w3 ⟨rfl, hb⟩
  have HB3 := Lib.hid (HB2.out.trans (hb.mono HB2.out.size))
  have HC3 := Lib.hid ((hb.block w.heap.size (by omega)).trans HC2.out)
  have HD3 := Lib.hid ((hb.block (w.heap.size + 1) (by omega)).trans HD2.out)
  have hs3 := Nat.lt_of_lt_of_le hs2 hb.size
  clear hb x0 x1
  obtain ⟨m0, m1, q0, q1⟩ := two_cells HD3.out
  obtain ⟨z0, z1, hZ⟩ := two_put HD3.out (.int .i64 0) (.slice none 0 0)
  clear hZ
  go_wp2_with fail
  (try simp only [Exit.inBlock, Exit.then])
  refine bodyPost_ret (by simp [results, Try.results22, go_sem, z0, z1]; try rfl) rfl ?_
  exact ⟨_, rfl, no_ans (by simp; have := HB3.out.size; omega), (HB3.out.setCell (Nat.le_succ _) _).setCell (Nat.le_succ _) _⟩
set_option maxHeartbeats 4000000 in
set_option maxRecDepth 100000 in
theorem choose_yes {a b : Option Addr} {n c m d : Nat} {vs ts : List Int} {v : Value} {x : Hel} {w : World} (h1 : Nums .i64 w a n vs) (h2 : Nums .i64 w b m ts) (h : HelW w v x) (hz : ∀ z ∈ ts, (Lit.int .i64 z).wf = true) (hn : n ≤ 1048576) (hm : m ≤ 1048576) (h0 : ¬ best vs x.vers = 0) (hx : isH x = true) :
    Calls Try.prog 22 #[.slice a n c, .slice b m d, v] w (MadeAnsB w.heap.size ⟨(best vs x.vers : Int), strX (knownOf x.exts ts)⟩ true w) := by
  have KH := Lib.hid (fun (w0 : World) (hb : Below w.heap.size w w0) => isHello_any (h.same hb))
  obtain ⟨va, vn, vc, xa, xn, xc, rfl, g1, g2, g3⟩ := h
  obtain ⟨hsz, hC, hD, hb0⟩ := two w #[.slice va vn vc, .slice xa xn xc] #[.int .i64 0, .slice none 0 0] 27 39
  have HB := Lib.hid hb0
  have KB := Lib.hid (told_is (bestCommon_any (c := c) (d := vc) (h1.same hb0) (g1.same hb0)))
  have H2 := Lib.hid (And.intro h2 (And.intro g2 hz))
  obtain ⟨B, hB⟩ : ∃ B : Nat, best vs x.vers = B := ⟨_, rfl⟩
  rw [hB] at KB
  have hlw : w.heap.size + 1 < ((w.alloc (.cells #[.slice va vn vc, .slice xa xn xc] 27)).alloc (.cells #[.int .i64 0, .slice none 0 0] 39)).heap.size := by omega
  have HC := Lib.hid hC
  have HD := Lib.hid hD
  clear hb0 hC hD hsz
  have hB0 : ((B : Int) == 0) = false := by simp; omega
  have HT := Lib.hid (tags_wfH hx)
  have hfew := areX_few (isH_parts.1 hx).2
  have hxl := g2.len
  have hxn : xn ≤ 1048576 := by omega
  have hxi : itemsOf x.exts ≤ 1048576 := by omega
  have hk1 := known_few x.exts ts
  have hk2 : itemsOf (knownOf x.exts ts) ≤ itemsOf x.exts := items_filter _ _
  rw [hx] at KH
  rw [hB]
  clear h1 h2 hz g1 g2 g3 hB h0 hx
  go_enter Try.func22, Try.ntmps22
  go_wp2_with fail
  generalize ((w.alloc (.cells #[.slice va vn vc, .slice xa xn xc] 27)).alloc (.cells #[.int .i64 0, .slice none 0 0] 39)) = W1 at *
  refine KB.out.mono ?_
  rintro e w2 ⟨rfl, hb⟩
  have HB2 := Lib.hid (HB.out.trans (hb.mono HB.out.size))
  have HC2 := Lib.hid ((hb.block w.heap.size (by omega)).trans HC.out)
  have HD2 := Lib.hid ((hb.block (w.heap.size + 1) (by omega)).trans HD.out)
  have hs2 := Nat.lt_of_lt_of_le hlw hb.size
  clear hb
  obtain ⟨x0, x1, _, _⟩ := two_cells HC2.out
  go_wp2_with fail
  refine (KH.out _ HB2.out).mono ?_
  rintro e w3 ⟨rfl, hb⟩
  have HB3 := Lib.hid (HB2.out.trans (hb.mono HB2.out.size))
  have HC3 := Lib.hid ((hb.block w.heap.size (by omega)).trans HC2.out)
  have HD3 := Lib.hid ((hb.block (w.heap.size + 1) (by omega)).trans HD2.out)
  have hs3 := Nat.lt_of_lt_of_le hs2 hb.size
  clear hb x0 x1
  obtain ⟨x0, x1, _, _⟩ := two_cells HC3.out
  have KK := Lib.hid (knownOf_any (c := xc) (d := d) (H2.out.2.1.same HB3.out) (H2.out.1.same HB3.out) HT.out H2.out.2.2 hxn hxi (by omega))
  go_wp2_with fail
  refine KK.out.mono ?_
  rintro e w4 ⟨q4, n4, c4, rfl, ho4, hb4⟩
  have hl4 := ho4.len
  have HB4 := Lib.hid (HB3.out.trans (hb4.mono HB3.out.size))
  have HD4 := Lib.hid ((hb4.block (w.heap.size + 1) (by omega)).trans HD3.out)
  have hs4 := Nat.lt_of_lt_of_le hs3 hb4.size
  have KS := Lib.hid (stripGrease_any (c := c4) ho4.vals (fun z hz => HT.out z (known_tags z hz)) (by omega) (by omega))
  clear ho4 hb4 x0 x1 KK
  go_wp2_with fail
  refine KS.out.mono ?_
  rintro e w5 ⟨q5, n5, c5, rfl, ho5, hb5⟩
  have HB5 := Lib.hid (HB4.out.trans (hb5.mono HB4.out.size))
  have HD5 := Lib.hid ((hb5.block (w.heap.size + 1) (by omega)).trans HD4.out)
  have HO5 := Lib.hid ho5
  clear ho5 hb5 KS
  obtain ⟨m0, m1, q0, q1⟩ := two_cells HD5.out
  obtain ⟨z0, z1, hZ⟩ := two_put HD5.out (.int .i64 (B : Int)) (.slice q5 n5 c5)
  clear hZ
  go_wp2_with fail
  (try simp only [Exit.inBlock, Exit.then])
  refine bodyPost_ret (by simp [results, Try.results22, go_sem, z0, z1]; try rfl) rfl ?_
  have hfin := ((own_ans (k := (B : Int)) HO5.out.lim (Nat.le_refl _) (Nat.le_refl _) (Nat.le_refl _)).aside (set2_insideA w5 (w.heap.size + 1) (.int .i64 (B : Int)) (.slice q5 n5 c5)) (Or.inl (by omega))).lower (B' := w.heap.size) (by omega)
  exact ⟨_, rfl, by simpa using hfin, (HB5.out.setCell (Nat.le_succ _) _).setCell (Nat.le_succ _) _⟩
theorem chooseAnswer_any {a b : Option Addr} {n c m d : Nat} {vs ts : List Int} {v : Value} {x : Hel} {w : World} (h1 : Nums .i64 w a n vs) (h2 : Nums .i64 w b m ts) (h : HelW w v x) (hz : ∀ z ∈ ts, (Lit.int .i64 z).wf = true) (hn : n ≤ 1048576) (hm : m ≤ 1048576) :
    Calls Try.prog 22 #[.slice a n c, .slice b m d, v] w (MadeAnsB w.heap.size (chAns vs ts x) (chOk vs ts x) w) := by
  have no : chA vs ts x = none → Calls Try.prog 22 #[.slice a n c, .slice b m d, v] w (MadeAnsB w.heap.size ⟨0, []⟩ false w) → Calls Try.prog 22 #[.slice a n c, .slice b m d, v] w (MadeAnsB w.heap.size (chAns vs ts x) (chOk vs ts x) w) := fun e h => by
    rw [(chA_none e).1, (chA_none e).2]; exact h
  by_cases h0 : best vs x.vers = 0
  · exact no (chA_no (Or.inr h0)) (choose_none h1 h2 h hz hn hm h0)
  · cases hx : isH x with
    | false => exact no (chA_no (Or.inl hx)) (choose_odd h1 h2 h hz hn hm h0 hx)
    | true =>
      have e := chA_some (chA_yes (ts := ts) hx h0)
      rw [e.1, e.2]
      exact choose_yes h1 h2 h hz hn hm h0 hx
end Go.Proofs.Ytcpnchjgklemgaa
namespace Go.Proofs.Ytcpnchjgklemgaa
open Go.ChangeShapes Go.WideShapes Go.ChangeAt Go.RowKit
set_option linter.unusedVariables false
set_option linter.unusedSimpArgs false

def heldO (v : Value) : Option (DataW Value × List MemPlace) := some (.held v, [])
/-- What the map holds: every number that was kept. -/
def offD : List Int → DataW Value
  | [] => .map []
  | x :: M => (offD M).put (.int .i64 x) (.held (.bool true))
section
open Go.Maps
theorem offD_isMap : ∀ M, IsMap (offD M)
  | [] => isMap_empty
  | p :: M => (offD_isMap M).put _ _
theorem offD_at {p : Int} (z : DataW Value) : ∀ M : List Int, (offD M).atKey (.int .i64 p) z = if p ∈ M then .held (.bool true) else z
  | [] => by simp [offD, DataW.atKey]
  | q :: M => by
    have ih := offD_at (p := p) z M
    by_cases e : q = p
    · subst e
      unfold offD
      rw [atKey_put_same (offD_isMap M) (by simp [WideAt.IsKeyLit]), if_pos (by simp)]
    · unfold offD
      rw [atKey_put_other (lit_ne e), ih]
      have : ¬ p = q := fun h => e h.symm
      simp [this]
end
/-- Block g is a set of the numbers of M. -/
def Offer (w : World) (g : Nat) (M : List Int) : Prop := w.ownsMap Try.prog 3 heldO g M.length (offD M)
theorem Offer.lt {w : World} {g : Nat} {M : List Int} (h : Offer w g M) : g < w.heap.size := World.ownsMap.lt h
theorem Offer.same {w w' : World} {g : Nat} {M : List Int} (h : Offer w g M) (hb : Below w.heap.size w w') : Offer w' g M := World.ownsMap.kept h (grown_below hb none) (by simp)
theorem off_zero (w : World) : (zeroValue 4).run Try.prog w = .ok (.bool false) w := by kernel_rfl
theorem off_made (w : World) : Offer (w.alloc (.map #[] 0)) w.heap.size [] := World.ownsMap_made w Try.prog 3 heldO
set_option maxRecDepth 100000 in
theorem off_look {w : World} {g : Nat} {M : List Int} {p : Int} (h : Offer w g M) (hp : (Lit.int .i64 p).wf = true) :
    (Instr.lookup 90 (.map (some g)) (.int .i64 p) false).run Try.prog w = .ok (.bool (decide (p ∈ M))) w := by
  obtain ⟨es, ck, hb, F, hs, hD⟩ := h
  rcases Maps.fit_look false int_keys Try.underlying90 (off_zero w) hb F (Maps.keyOf_int_mk Try.underlying3 hp) with ⟨h1, _, h3⟩ | ⟨e0, y, _, _, hr, hR, hat, _⟩
  · have hn : p ∉ M := fun hm => by
      have q := h3 (.lit (.bool false))
      rw [← hD, offD_at, if_pos hm] at q
      cases q
    rw [decide_eq_false hn]
    exact h1
  · have hR2 : y = (.held e0.val, []) := by
      unfold heldO at hR
      exact (Option.some.inj hR).symm
    by_cases hm : p ∈ M
    · have q := hat (.lit (.bool false))
      rw [← hD, offD_at, if_pos hm, hR2] at q
      injection q with q
      rw [decide_eq_true hm]
      rw [q]
      exact hr
    · have q := hat (.lit (.bool false))
      rw [← hD, offD_at, if_neg hm, hR2] at q
      cases q
theorem off_clear {w : World} {g : Nat} {M : List Int} (h : Offer w g M) : ∃ w', (∀ ty, (Builtin.clear_ #[90] ty #[.map (some g)]).run Try.prog w = .ok (.tuple #[]) w') ∧ Offer w' g [] ∧ w.grownBy w' (some g) := by
  obtain ⟨es, ck, hb, F, hs, hD⟩ := h
  refine ⟨{ w with heap := w.heap.setIfInBounds g (.map #[] ck) }, fun ty => ?_, ⟨#[], ck, (MapKept.heap_set hb).1, ⟨by simp, MapKept.stamped_empty ck, by simp⟩, Nat.le_refl _, rfl⟩, ⟨rfl, rfl, rfl, by simp, fun i _ hi => (MapKept.heap_set hb).2 i (fun e => hi (by rw [e]))⟩⟩
  simp [Builtin.clear_, run_underlying Try.underlying90, MapKept.run_getObj_map hb, MapKept.run_setObj_map _ hb, Result.andThen]
set_option maxHeartbeats 4000000 in
set_option maxRecDepth 100000 in
theorem keep_any {w : World} {g : Nat} {M : List Int} {a : Option Addr} {n c : Nat} {l : List Int} (h : Offer w g M) (hN : ∀ w', w.grownBy w' (some g) → Nums .i64 w' a n l) (hz : ∀ z ∈ l, (Lit.int .i64 z).wf = true) (hn : n ≤ 1048576) :
    Calls Try.prog 72 #[.map (some g), .slice a n c] w fun e w' => e = .returned (.tuple #[]) ∧ Offer w' g l.reverse ∧ w.grownBy w' (some g) := by
  obtain ⟨w1, hrun, ho, hg⟩ := off_clear h
  have HN := Lib.hid hN
  have HZ := Lib.hid hz
  have hnl := Lib.hid (hN w (grown_below (Below.refl _ _) _)).len
  have HO := Lib.hid ho
  have HG := Lib.hid hg
  clear h hN hz ho hg
  go_enter Try.func72, Try.ntmps72
  go_wp2_with fail
  go_loopw [5, 9] (fun _ i wr => ∃ j : Nat, j ≤ n ∧ i = .int .i64 j ∧ Offer wr g (l.take j).reverse ∧ w.grownBy wr (some g)) (fun _ i _ => n - (intOf i).toNat)
  case atStart => exact ⟨0, Nat.zero_le _, rfl, HO.out, HG.out⟩
  case round =>
    obtain ⟨j, hj, rfl, ho, hg⟩ := hrel
    have HOr := Lib.hid ho
    have HGr := Lib.hid hg
    clear ho hg
    by_cases hlt : j < n
    · obtain ⟨ad, z, rfl, hx, hc⟩ := (HN.out wr HGr.out).at_ hlt
      have hkey := Maps.keyOf_int_mk Try.underlying3 (HZ.out z (List.mem_of_getElem? hx))
      have HL : Hid ((l.take (j + 1)).reverse = z :: (l.take j).reverse) := Lib.hid (by rw [List.take_add_one, hx]; simp)
      have hll : (l.take j).reverse.length < maxLen := by unfold maxLen; simp; omega
      clear hx
      go_wp2_with (at_mapUpdate; refine wpList_mapUpdate_own _ rfl _ _ _ 90 rfl 3 4 int_keys Try.underlying90 heldO g _ _ rfl HOr.out hll _ _ _ rfl rfl hkey _ [] rfl ?_; intro w2 ho2 hg2)
      have HO2 : Hid (Offer w2 g (l.take (j + 1)).reverse) := Lib.hid (by rw [HL.out]; exact ho2)
      have HG2 := Lib.hid (HGr.out.trans hg2)
      clear ho2 hg2 hkey hc
      go_wp2_with fail
      go_roundw
      case rel => exact ⟨j + 1, by omega, by go_num, HO2.out, HG2.out⟩
      case measure => simp [intOf]; omega
    · obtain rfl : j = n := by omega
      have h1 := HOr.out
      rw [List.take_of_length_le (by rw [hnl.out]; omega)] at h1
      have HF := Lib.hid h1
      clear h1
      go_wp2_with fail
      go_end0
      exact ⟨rfl, HF.out, HGr.out⟩
set_option maxHeartbeats 4000000 in
set_option maxRecDepth 100000 in
theorem hasAll_any {w : World} {g : Nat} {M : List Int} {a : Option Addr} {n c : Nat} {l : List Int} (h : Offer w g M) (hN : Nums .i64 w a n l) (hz : ∀ z ∈ l, (Lit.int .i64 z).wf = true) :
    Calls Try.prog 73 #[.map (some g), .slice a n c] w fun e w' => e = .returned (.bool (l.all fun t => decide (t ∈ M))) ∧ w = w' := by
  have H := Lib.hid h
  have HN := Lib.hid hN
  have HZ := Lib.hid hz
  have hfit := hN.fits
  have HA : Hid (∀ j z, l[j]? = some z → ¬ z ∈ M → (l.all fun t => decide (t ∈ M)) = false) := Lib.hid (fun j z hz hm => by
    rw [List.all_eq_false]
    exact ⟨z, List.mem_of_getElem? hz, by simpa using hm⟩)
  have HY : Hid ((∀ j z, j < n → l[j]? = some z → z ∈ M) → (l.all fun t => decide (t ∈ M)) = true) := Lib.hid (fun q => by
    rw [List.all_eq_true]
    intro z hz
    obtain ⟨j, hj⟩ := List.getElem?_of_mem hz
    exact decide_eq_true (q j z (by have := lt_of_some hj; have := hN.len; omega) hj))
  clear h hN hz
  go_enter Try.func73, Try.ntmps73
  go_wp2_with fail
  go_loopw [6, 9] (fun _ i wr => ∃ j : Nat, j ≤ n ∧ i = .int .i64 j ∧ wr = w ∧ ∀ q z, q < j → l[q]? = some z → z ∈ M) (fun _ i _ => n - (intOf i).toNat)
  case atStart => exact ⟨0, Nat.zero_le _, rfl, rfl, fun q z hq => absurd hq (by omega)⟩
  case round =>
    obtain ⟨j, hj, rfl, rfl, hall⟩ := hrel
    have HALL := Lib.hid hall
    clear hall
    by_cases hlt : j < n
    · obtain ⟨ad, z, rfl, hx, hc⟩ := HN.out.at_ hlt
      have hl := off_look H.out (HZ.out z (List.mem_of_getElem? hx))
      by_cases hm : z ∈ M
      · rw [decide_eq_true hm] at hl
        have HS : Hid (∀ q y, q < j + 1 → l[q]? = some y → y ∈ M) := Lib.hid (fun q y hq hy => by
          by_cases e : q = j
          · subst e; rw [hx] at hy; cases hy; exact hm
          · exact HALL.out q y (by omega) hy)
        clear hx hm
        go_wp2_with fail
        go_roundw
        case rel => exact ⟨j + 1, by omega, by go_num, by first | rfl | trivial, HS.out⟩
        case measure => simp [intOf]; omega
      · rw [decide_eq_false hm] at hl
        have HF := Lib.hid (HA.out j z hx hm)
        clear hx hm
        go_wp2_with fail
        go_ret
        rw [HF.out]
        exact ⟨rfl, rfl⟩
    · obtain rfl : j = n := by omega
      have HF := Lib.hid (HY.out HALL.out)
      go_wp2_with fail
      go_ret
      rw [HF.out]
      exact ⟨rfl, rfl⟩
end Go.Proofs.Ytcpnchjgklemgaa
namespace Go.Proofs.Ytcpnchjgklemgaa
open Go.ChangeShapes Go.WideShapes Go.ChangeAt Go.RowKit
set_option linter.unusedVariables false
set_option linter.unusedSimpArgs false

theorem areV_wf {l : List Int} (h : word l ≠ 0) : ∀ z ∈ l, (Lit.int .i64 z).wf = true := fun z hz => by
  have := in_range h hz
  exact WalkArith.wf_i64 (by omega)
theorem small_wf {z : Int} (h : 1 ≤ z ∧ z ≤ 9) : (Lit.int .i64 z).wf = true := by
  obtain ⟨k, rfl⟩ : ∃ k : Nat, z = k := ⟨z.toNat, by omega⟩
  exact WalkArith.wf_i64 (by omega)
theorem exts_wf {l : List Vl} (h : areX l = true) : ∀ z ∈ tagsX l, (Lit.int .i64 z).wf = true := tags_wf (areX_parts.1 h).2.1
theorem any_rev (l M : List Int) : (l.all fun t => decide (t ∈ M.reverse)) = l.all fun t => decide (t ∈ M) := by simp
theorem run_makeO (w : World) : (Instr.makeMap 90 none).run Try.prog w = .ok (.map (some w.heap.size)) (w.alloc (.map #[] 0)) := run_makeMap ..
set_option maxHeartbeats 4000000 in
set_option maxRecDepth 100000 in
theorem fits_odd1 {u v : Value} {x : Hel} {y : Ans} {w : World} (h : HelW w u x) (h' : AnsW w v y) (hx : isH x = false) :
    Calls Try.prog 23 #[u, v] w (Told (.bool false) w) := by
  have KH := Lib.hid (fun (w0 : World) (hb : Below w.heap.size w w0) => isHello_any (h.same hb))
  have KA := Lib.hid (fun (w0 : World) (hb : Below w.heap.size w w0) => isAnswer_any (h'.same hb))
  obtain ⟨va, vn, vc, xa, xn, xc, rfl, g1, g2, g3⟩ := h
  obtain ⟨b, m, d, rfl, g4, g5⟩ := h'
  obtain ⟨hsz, hC, hD, hb0⟩ := two w #[.slice va vn vc, .slice xa xn xc] #[.int .i64 y.ver, .slice b m d] 27 39
  have hlw1 : w.heap.size + 1 < ((w.alloc (.cells #[.slice va vn vc, .slice xa xn xc] 27)).alloc (.cells #[.int .i64 y.ver, .slice b m d] 39)).heap.size := by omega
  have HB1 := Lib.hid hb0
  have HC1 := Lib.hid hC
  have HD1 := Lib.hid hD
  have G := Lib.hid (And.intro g1 (And.intro g2 g4))
  clear hb0 hC hD hsz
  rw [hx] at KH
  clear g1 g2 g3 g4 g5 hx
  obtain ⟨x0, x1, _, _⟩ := two_cells HC1.out
  obtain ⟨y0, y1, _, _⟩ := two_cells HD1.out
  go_enter Try.func23, Try.ntmps23
  clear x0 x1 y0 y1
  go_wp2_with fail
  generalize ((w.alloc (.cells #[.slice va vn vc, .slice xa xn xc] 27)).alloc (.cells #[.int .i64 y.ver, .slice b m d] 39)) = W1 at *
  refine (KH.out _ HB1.out).mono ?_
  rintro e w2 ⟨rfl, hb⟩
  have HB2 := Lib.hid (HB1.out.trans (hb.mono HB1.out.size))
  have HC2 := Lib.hid ((hb.block w.heap.size (by omega)).trans HC1.out)
  have HD2 := Lib.hid ((hb.block (w.heap.size + 1) (by omega)).trans HD1.out)
  have hlw2 := Nat.lt_of_lt_of_le hlw1 hb.size
  clear hb
  obtain ⟨x0, x1, _, _⟩ := two_cells HC2.out
  obtain ⟨y0, y1, _, _⟩ := two_cells HD2.out
  go_wp2_with fail
  go_ret
  exact ⟨rfl, HB2.out⟩
set_option maxHeartbeats 4000000 in
set_option maxRecDepth 100000 in
theorem fits_odd2 {u v : Value} {x : Hel} {y : Ans} {w : World} (h : HelW w u x) (h' : AnsW w v y) (hx : isH x = true) (hy : isA y = false) :
    Calls Try.prog 23 #[u, v] w (Told (.bool false) w) := by
  have KH := Lib.hid (fun (w0 : World) (hb : Below w.heap.size w w0) => isHello_any (h.same hb))
  have KA := Lib.hid (fun (w0 : World) (hb : Below w.heap.size w w0) => isAnswer_any (h'.same hb))
  obtain ⟨va, vn, vc, xa, xn, xc, rfl, g1, g2, g3⟩ := h
  obtain ⟨b, m, d, rfl, g4, g5⟩ := h'
  obtain ⟨hsz, hC, hD, hb0⟩ := two w #[.slice va vn vc, .slice xa xn xc] #[.int .i64 y.ver, .slice b m d] 27 39
  have hlw1 : w.heap.size + 1 < ((w.alloc (.cells #[.slice va vn vc, .slice xa xn xc] 27)).alloc (.cells #[.int .i64 y.ver, .slice b m d] 39)).heap.size := by omega
  have HB1 := Lib.hid hb0
  have HC1 := Lib.hid hC
  have HD1 := Lib.hid hD
  have G := Lib.hid (And.intro g1 (And.intro g2 g4))
  clear hb0 hC hD hsz
  rw [hx] at KH
  rw [hy] at KA
  clear g1 g2 g3 g4 g5 hx hy
  obtain ⟨x0, x1, _, _⟩ := two_cells HC1.out
  obtain ⟨y0, y1, _, _⟩ := two_cells HD1.out
  go_enter Try.func23, Try.ntmps23
  clear x0 x1 y0 y1
  go_wp2_with fail
  generalize ((w.alloc (.cells #[.slice va vn vc, .slice xa xn xc] 27)).alloc (.cells #[.int .i64 y.ver, .slice b m d] 39)) = W1 at *
  refine (KH.out _ HB1.out).mono ?_
  rintro e w2 ⟨rfl, hb⟩
  have HB2 := Lib.hid (HB1.out.trans (hb.mono HB1.out.size))
  have HC2 := Lib.hid ((hb.block w.heap.size (by omega)).trans HC1.out)
  have HD2 := Lib.hid ((hb.block (w.heap.size + 1) (by omega)).trans HD1.out)
  have hlw2 := Nat.lt_of_lt_of_le hlw1 hb.size
  clear hb
  obtain ⟨x0, x1, _, _⟩ := two_cells HC2.out
  obtain ⟨y0, y1, _, _⟩ := two_cells HD2.out
  go_wp2_with fail
  refine (KA.out _ HB2.out).mono ?_
  rintro e w3 ⟨rfl, hb⟩
  have HB3 := Lib.hid (HB2.out.trans (hb.mono HB2.out.size))
  have HC3 := Lib.hid ((hb.block w.heap.size (by omega)).trans HC2.out)
  have HD3 := Lib.hid ((hb.block (w.heap.size + 1) (by omega)).trans HD2.out)
  have hlw3 := Nat.lt_of_lt_of_le hlw2 hb.size
  clear hb x0 x1 y0 y1
  obtain ⟨x0, x1, _, _⟩ := two_cells HC3.out
  obtain ⟨y0, y1, _, _⟩ := two_cells HD3.out
  go_wp2_with fail
  go_ret
  exact ⟨rfl, HB3.out⟩
set_option maxHeartbeats 4000000 in
set_option maxRecDepth 100000 in
theorem fits_odd3 {u v : Value} {x : Hel} {y : Ans} {w : World} (h : HelW w u x) (h' : AnsW w v y) (hx : isH x = true) (hy : isA y = true) (hg : hasG y.exts = true) :
    Calls Try.prog 23 #[u, v] w (Told (.bool false) w) := by
  have KH := Lib.hid (fun (w0 : World) (hb : Below w.heap.size w w0) => isHello_any (h.same hb))
  have KA := Lib.hid (fun (w0 : World) (hb : Below w.heap.size w w0) => isAnswer_any (h'.same hb))
  obtain ⟨va, vn, vc, xa, xn, xc, rfl, g1, g2, g3⟩ := h
  obtain ⟨b, m, d, rfl, g4, g5⟩ := h'
  obtain ⟨hsz, hC, hD, hb0⟩ := two w #[.slice va vn vc, .slice xa xn xc] #[.int .i64 y.ver, .slice b m d] 27 39
  have hlw1 : w.heap.size + 1 < ((w.alloc (.cells #[.slice va vn vc, .slice xa xn xc] 27)).alloc (.cells #[.int .i64 y.ver, .slice b m d] 39)).heap.size := by omega
  have HB1 := Lib.hid hb0
  have HC1 := Lib.hid hC
  have HD1 := Lib.hid hD
  have G := Lib.hid (And.intro g1 (And.intro g2 g4))
  clear hb0 hC hD hsz
  have hxX := (isH_parts.1 hx).2
  have hyX := (isA_parts.1 hy).2
  have hmn : m ≤ 1048576000 := by have := areX_few hyX; have := g4.len; omega
  rw [hx] at KH
  rw [hy] at KA
  have KG := Lib.hid (fun (w0 : World) (hb : Below w.heap.size w w0) => hasGrease_any (c := d) (G.out.2.2.same hb) hmn)
  rw [hg] at KG
  clear g1 g2 g3 g4 g5 hx hy hg hxX hyX
  obtain ⟨x0, x1, _, _⟩ := two_cells HC1.out
  obtain ⟨y0, y1, _, _⟩ := two_cells HD1.out
  go_enter Try.func23, Try.ntmps23
  clear x0 x1 y0 y1
  go_wp2_with fail
  generalize ((w.alloc (.cells #[.slice va vn vc, .slice xa xn xc] 27)).alloc (.cells #[.int .i64 y.ver, .slice b m d] 39)) = W1 at *
  refine (KH.out _ HB1.out).mono ?_
  rintro e w2 ⟨rfl, hb⟩
  have HB2 := Lib.hid (HB1.out.trans (hb.mono HB1.out.size))
  have HC2 := Lib.hid ((hb.block w.heap.size (by omega)).trans HC1.out)
  have HD2 := Lib.hid ((hb.block (w.heap.size + 1) (by omega)).trans HD1.out)
  have hlw2 := Nat.lt_of_lt_of_le hlw1 hb.size
  clear hb
  obtain ⟨x0, x1, _, _⟩ := two_cells HC2.out
  obtain ⟨y0, y1, _, _⟩ := two_cells HD2.out
  go_wp2_with fail
  refine (KA.out _ HB2.out).mono ?_
  rintro e w3 ⟨rfl, hb⟩
  have HB3 := Lib.hid (HB2.out.trans (hb.mono HB2.out.size))
  have HC3 := Lib.hid ((hb.block w.heap.size (by omega)).trans HC2.out)
  have HD3 := Lib.hid ((hb.block (w.heap.size + 1) (by omega)).trans HD2.out)
  have hlw3 := Nat.lt_of_lt_of_le hlw2 hb.size
  clear hb x0 x1 y0 y1
  obtain ⟨x0, x1, _, _⟩ := two_cells HC3.out
  obtain ⟨y0, y1, _, _⟩ := two_cells HD3.out
  go_wp2_with fail
  refine (KG.out _ HB3.out).mono ?_
  rintro e w4 ⟨rfl, hb⟩
  have HB4 := Lib.hid (HB3.out.trans (hb.mono HB3.out.size))
  have HC4 := Lib.hid ((hb.block w.heap.size (by omega)).trans HC3.out)
  have HD4 := Lib.hid ((hb.block (w.heap.size + 1) (by omega)).trans HD3.out)
  have hlw4 := Nat.lt_of_lt_of_le hlw3 hb.size
  clear hb x0 x1 y0 y1
  obtain ⟨x0, x1, _, _⟩ := two_cells HC4.out
  obtain ⟨y0, y1, _, _⟩ := two_cells HD4.out
  go_wp2_with fail
  go_ret
  exact ⟨rfl, HB4.out⟩
set_option maxHeartbeats 4000000 in
set_option maxRecDepth 100000 in
theorem fits_odd4 {u v : Value} {x : Hel} {y : Ans} {w : World} (h : HelW w u x) (h' : AnsW w v y) (hx : isH x = true) (hy : isA y = true) (hg : hasG y.exts = false) (hver : decide (y.ver ∈ x.vers) = false) :
    Calls Try.prog 23 #[u, v] w (Told (.bool false) w) := by
  have KH := Lib.hid (fun (w0 : World) (hb : Below w.heap.size w w0) => isHello_any (h.same hb))
  have KA := Lib.hid (fun (w0 : World) (hb : Below w.heap.size w w0) => isAnswer_any (h'.same hb))
  obtain ⟨va, vn, vc, xa, xn, xc, rfl, g1, g2, g3⟩ := h
  obtain ⟨b, m, d, rfl, g4, g5⟩ := h'
  obtain ⟨hsz, hC, hD, hb0⟩ := two w #[.slice va vn vc, .slice xa xn xc] #[.int .i64 y.ver, .slice b m d] 27 39
  have hlw1 : w.heap.size + 1 < ((w.alloc (.cells #[.slice va vn vc, .slice xa xn xc] 27)).alloc (.cells #[.int .i64 y.ver, .slice b m d] 39)).heap.size := by omega
  have HB1 := Lib.hid hb0
  have HC1 := Lib.hid hC
  have HD1 := Lib.hid hD
  have G := Lib.hid (And.intro g1 (And.intro g2 g4))
  clear hb0 hC hD hsz
  have hxX := (isH_parts.1 hx).2
  have hyX := (isA_parts.1 hy).2
  have hmn : m ≤ 1048576000 := by have := areX_few hyX; have := g4.len; omega
  have hxn : xn ≤ 1048576000 := by have := areX_few hxX; have := g2.len; omega
  have hvn : vn ≤ 1048576 := by have := (areV_len (isH_parts.1 hx).1).1; have := g1.len; omega
  have HVW := Lib.hid (areV_wf (isH_parts.1 hx).1)
  have HXW := Lib.hid (exts_wf hxX)
  have HYW := Lib.hid (exts_wf hyX)
  have HAW := Lib.hid (small_wf (isA_parts.1 hy).1)
  have hxt : (tagsX x.exts).length ≤ 1048576 := by have := areX_few hxX; rw [tagsX_len]; omega
  rw [hx] at KH
  rw [hy] at KA
  have KG := Lib.hid (fun (w0 : World) (hb : Below w.heap.size w w0) => hasGrease_any (c := d) (G.out.2.2.same hb) hmn)
  rw [hg] at KG
  clear g1 g2 g3 g4 g5 hx hy hg hxX hyX
  obtain ⟨x0, x1, _, _⟩ := two_cells HC1.out
  obtain ⟨y0, y1, _, _⟩ := two_cells HD1.out
  go_enter Try.func23, Try.ntmps23
  clear x0 x1 y0 y1
  go_wp2_with fail
  generalize ((w.alloc (.cells #[.slice va vn vc, .slice xa xn xc] 27)).alloc (.cells #[.int .i64 y.ver, .slice b m d] 39)) = W1 at *
  refine (KH.out _ HB1.out).mono ?_
  rintro e w2 ⟨rfl, hb⟩
  have HB2 := Lib.hid (HB1.out.trans (hb.mono HB1.out.size))
  have HC2 := Lib.hid ((hb.block w.heap.size (by omega)).trans HC1.out)
  have HD2 := Lib.hid ((hb.block (w.heap.size + 1) (by omega)).trans HD1.out)
  have hlw2 := Nat.lt_of_lt_of_le hlw1 hb.size
  clear hb
  obtain ⟨x0, x1, _, _⟩ := two_cells HC2.out
  obtain ⟨y0, y1, _, _⟩ := two_cells HD2.out
  go_wp2_with fail
  refine (KA.out _ HB2.out).mono ?_
  rintro e w3 ⟨rfl, hb⟩
  have HB3 := Lib.hid (HB2.out.trans (hb.mono HB2.out.size))
  have HC3 := Lib.hid ((hb.block w.heap.size (by omega)).trans HC2.out)
  have HD3 := Lib.hid ((hb.block (w.heap.size + 1) (by omega)).trans HD2.out)
  have hlw3 := Nat.lt_of_lt_of_le hlw2 hb.size
  clear hb x0 x1 y0 y1
  obtain ⟨x0, x1, _, _⟩ := two_cells HC3.out
  obtain ⟨y0, y1, _, _⟩ := two_cells HD3.out
  go_wp2_with fail
  refine (KG.out _ HB3.out).mono ?_
  rintro e w4 ⟨rfl, hb⟩
  have HB4 := Lib.hid (HB3.out.trans (hb.mono HB3.out.size))
  have HC4 := Lib.hid ((hb.block w.heap.size (by omega)).trans HC3.out)
  have HD4 := Lib.hid ((hb.block (w.heap.size + 1) (by omega)).trans HD3.out)
  have hlw4 := Nat.lt_of_lt_of_le hlw3 hb.size
  clear hb x0 x1 y0 y1
  have hmk := run_makeO
  have hb := alloc_same w4 (.map #[] 0)
  have HO5 := Lib.hid (off_made w4)
  have HB5 := Lib.hid (HB4.out.trans (hb.mono HB4.out.size))
  have HC5 := Lib.hid ((hb.block w.heap.size (by omega)).trans HC4.out)
  have HD5 := Lib.hid ((hb.block (w.heap.size + 1) (by omega)).trans HD4.out)
  have hlw5 := Nat.lt_of_lt_of_le hlw4 hb.size
  have hlg : w4.heap.size < (w4.alloc (.map #[] 0)).heap.size := by simp
  have KK := Lib.hid (keep_any (c := vc) HO5.out (fun w' hg => G.out.1.same (HB5.out.grown hg HB5.out.size (fun j e => by cases e; omega))) HVW.out hvn)
  clear hb
  obtain ⟨x0, x1, _, _⟩ := two_cells HC5.out
  obtain ⟨y0, y1, _, _⟩ := two_cells HD5.out
  obtain ⟨t0, t1, _, _⟩ := two_cells HC4.out
  obtain ⟨u0, u1, _, _⟩ := two_cells HD4.out
  go_wp2_with fail
  generalize w4.alloc (.map #[] 0) = W5 at *
  refine KK.out.mono ?_
  rintro e w6 ⟨rfl, ho6, hg6⟩
  have HO6 := Lib.hid ho6
  have HB6 := Lib.hid (HB5.out.grown hg6 HB5.out.size (fun j e => by cases e; omega))
  have HC6 := Lib.hid ((hg6.block w.heap.size (by omega) (by simp; omega)).trans HC5.out)
  have HD6 := Lib.hid ((hg6.block (w.heap.size + 1) (by omega) (by simp; omega)).trans HD5.out)
  have hlw6 := Nat.lt_of_lt_of_le hlw5 hg6.size
  have hb := alloc_same w6 (.cells #[.int .i64 y.ver] 3)
  have HB7 := Lib.hid (HB6.out.trans (hb.mono HB6.out.size))
  have HC7 := Lib.hid ((hb.block w.heap.size (by omega)).trans HC6.out)
  have HD7 := Lib.hid ((hb.block (w.heap.size + 1) (by omega)).trans HD6.out)
  have hlw7 := Nat.lt_of_lt_of_le hlw6 hb.size
  have HO7 := Lib.hid (HO6.out.same hb)
  have KHA := Lib.hid (hasAll_any (c := 1) HO7.out (nums_new w6 .i64 y.ver 3) (fun z hz => by rw [List.mem_singleton.1 hz]; exact HAW.out))
  rw [any_rev, show ([y.ver].all fun t => decide (t ∈ x.vers)) = decide (y.ver ∈ x.vers) by simp, hver] at KHA
  clear hb ho6 hg6 x0 x1 y0 y1 t0 t1 u0 u1 KK
  obtain ⟨x0, x1, _, _⟩ := two_cells HC6.out
  obtain ⟨y0, y1, _, _⟩ := two_cells HD6.out
  go_wp2_with fail
  generalize (w6.alloc (.cells #[.int .i64 y.ver] 3)) = W7 at *
  refine KHA.out.mono ?_
  rintro e w8 ⟨rfl, rfl⟩
  clear x0 x1 y0 y1 KHA
  obtain ⟨x0, x1, _, _⟩ := two_cells HC7.out
  obtain ⟨y0, y1, _, _⟩ := two_cells HD7.out
  go_wp2_with fail
  go_ret
  exact ⟨rfl, HB7.out⟩
set_option maxHeartbeats 4000000 in
set_option maxRecDepth 100000 in
theorem fits_all {u v : Value} {x : Hel} {y : Ans} {w : World} (h : HelW w u x) (h' : AnsW w v y) (hx : isH x = true) (hy : isA y = true) (hg : hasG y.exts = false) (hver : decide (y.ver ∈ x.vers) = true) :
    Calls Try.prog 23 #[u, v] w (Told (.bool ((tagsX y.exts).all fun t => decide (t ∈ tagsX x.exts))) w) := by
  have KH := Lib.hid (fun (w0 : World) (hb : Below w.heap.size w w0) => isHello_any (h.same hb))
  have KA := Lib.hid (fun (w0 : World) (hb : Below w.heap.size w w0) => isAnswer_any (h'.same hb))
  obtain ⟨va, vn, vc, xa, xn, xc, rfl, g1, g2, g3⟩ := h
  obtain ⟨b, m, d, rfl, g4, g5⟩ := h'
  obtain ⟨hsz, hC, hD, hb0⟩ := two w #[.slice va vn vc, .slice xa xn xc] #[.int .i64 y.ver, .slice b m d] 27 39
  have hlw1 : w.heap.size + 1 < ((w.alloc (.cells #[.slice va vn vc, .slice xa xn xc] 27)).alloc (.cells #[.int .i64 y.ver, .slice b m d] 39)).heap.size := by omega
  have HB1 := Lib.hid hb0
  have HC1 := Lib.hid hC
  have HD1 := Lib.hid hD
  have G := Lib.hid (And.intro g1 (And.intro g2 g4))
  clear hb0 hC hD hsz
  have hxX := (isH_parts.1 hx).2
  have hyX := (isA_parts.1 hy).2
  have hmn : m ≤ 1048576000 := by have := areX_few hyX; have := g4.len; omega
  have hxn : xn ≤ 1048576000 := by have := areX_few hxX; have := g2.len; omega
  have hvn : vn ≤ 1048576 := by have := (areV_len (isH_parts.1 hx).1).1; have := g1.len; omega
  have HVW := Lib.hid (areV_wf (isH_parts.1 hx).1)
  have HXW := Lib.hid (exts_wf hxX)
  have HYW := Lib.hid (exts_wf hyX)
  have HAW := Lib.hid (small_wf (isA_parts.1 hy).1)
  have hxt : (tagsX x.exts).length ≤ 1048576 := by have := areX_few hxX; rw [tagsX_len]; omega
  rw [hx] at KH
  rw [hy] at KA
  have KG := Lib.hid (fun (w0 : World) (hb : Below w.heap.size w w0) => hasGrease_any (c := d) (G.out.2.2.same hb) hmn)
  rw [hg] at KG
  clear g1 g2 g3 g4 g5 hx hy hg hxX hyX
  obtain ⟨x0, x1, _, _⟩ := two_cells HC1.out
  obtain ⟨y0, y1, _, _⟩ := two_cells HD1.out
  go_enter Try.func23, Try.ntmps23
  clear x0 x1 y0 y1
  go_wp2_with fail
  generalize ((w.alloc (.cells #[.slice va vn vc, .slice xa xn xc] 27)).alloc (.cells #[.int .i64 y.ver, .slice b m d] 39)) = W1 at *
  refine (KH.out _ HB1.out).mono ?_
  rintro e w2 ⟨rfl, hb⟩
  have HB2 := Lib.hid (HB1.out.trans (hb.mono HB1.out.size))
  have HC2 := Lib.hid ((hb.block w.heap.size (by omega)).trans HC1.out)
  have HD2 := Lib.hid ((hb.block (w.heap.size + 1) (by omega)).trans HD1.out)
  have hlw2 := Nat.lt_of_lt_of_le hlw1 hb.size
  clear hb
  obtain ⟨x0, x1, _, _⟩ := two_cells HC2.out
  obtain ⟨y0, y1, _, _⟩ := two_cells HD2.out
  go_wp2_with fail
  refine (KA.out _ HB2.out).mono ?_
  rintro e w3 ⟨rfl, hb⟩
  have HB3 := Lib.hid (HB2.out.trans (hb.mono HB2.out.size))
  have HC3 := Lib.hid ((hb.block w.heap.size (by omega)).trans HC2.out)
  have HD3 := Lib.hid ((hb.block (w.heap.size + 1) (by omega)).trans HD2.out)
  have hlw3 := Nat.lt_of_lt_of_le hlw2 hb.size
  clear hb x0 x1 y0 y1
  obtain ⟨x0, x1, _, _⟩ := two_cells HC3.out
  obtain ⟨y0, y1, _, _⟩ := two_cells HD3.out
  go_wp2_with fail
  refine (KG.out _ HB3.out).mono ?_
  rintro e w4 ⟨rfl, hb⟩
  have HB4 := Lib.hid (HB3.out.trans (hb.mono HB3.out.size))
  have HC4 := Lib.hid ((hb.block w.heap.size (by omega)).trans HC3.out)
  have HD4 := Lib.hid ((hb.block (w.heap.size + 1) (by omega)).trans HD3.out)
  have hlw4 := Nat.lt_of_lt_of_le hlw3 hb.size
  clear hb x0 x1 y0 y1
  have hmk := run_makeO
  have hb := alloc_same w4 (.map #[] 0)
  have HO5 := Lib.hid (off_made w4)
  have HB5 := Lib.hid (HB4.out.trans (hb.mono HB4.out.size))
  have HC5 := Lib.hid ((hb.block w.heap.size (by omega)).trans HC4.out)
  have HD5 := Lib.hid ((hb.block (w.heap.size + 1) (by omega)).trans HD4.out)
  have hlw5 := Nat.lt_of_lt_of_le hlw4 hb.size
  have hlg : w4.heap.size < (w4.alloc (.map #[] 0)).heap.size := by simp
  have KK := Lib.hid (keep_any (c := vc) HO5.out (fun w' hg => G.out.1.same (HB5.out.grown hg HB5.out.size (fun j e => by cases e; omega))) HVW.out hvn)
  clear hb
  obtain ⟨x0, x1, _, _⟩ := two_cells HC5.out
  obtain ⟨y0, y1, _, _⟩ := two_cells HD5.out
  obtain ⟨t0, t1, _, _⟩ := two_cells HC4.out
  obtain ⟨u0, u1, _, _⟩ := two_cells HD4.out
  go_wp2_with fail
  generalize w4.alloc (.map #[] 0) = W5 at *
  refine KK.out.mono ?_
  rintro e w6 ⟨rfl, ho6, hg6⟩
  have HO6 := Lib.hid ho6
  have HB6 := Lib.hid (HB5.out.grown hg6 HB5.out.size (fun j e => by cases e; omega))
  have HC6 := Lib.hid ((hg6.block w.heap.size (by omega) (by simp; omega)).trans HC5.out)
  have HD6 := Lib.hid ((hg6.block (w.heap.size + 1) (by omega) (by simp; omega)).trans HD5.out)
  have hlw6 := Nat.lt_of_lt_of_le hlw5 hg6.size
  have hb := alloc_same w6 (.cells #[.int .i64 y.ver] 3)
  have HB7 := Lib.hid (HB6.out.trans (hb.mono HB6.out.size))
  have HC7 := Lib.hid ((hb.block w.heap.size (by omega)).trans HC6.out)
  have HD7 := Lib.hid ((hb.block (w.heap.size + 1) (by omega)).trans HD6.out)
  have hlw7 := Nat.lt_of_lt_of_le hlw6 hb.size
  have HO7 := Lib.hid (HO6.out.same hb)
  have KHA := Lib.hid (hasAll_any (c := 1) HO7.out (nums_new w6 .i64 y.ver 3) (fun z hz => by rw [List.mem_singleton.1 hz]; exact HAW.out))
  rw [any_rev, show ([y.ver].all fun t => decide (t ∈ x.vers)) = decide (y.ver ∈ x.vers) by simp, hver] at KHA
  clear hb ho6 hg6 x0 x1 y0 y1 t0 t1 u0 u1 KK
  obtain ⟨x0, x1, _, _⟩ := two_cells HC6.out
  obtain ⟨y0, y1, _, _⟩ := two_cells HD6.out
  go_wp2_with fail
  generalize (w6.alloc (.cells #[.int .i64 y.ver] 3)) = W7 at *
  refine KHA.out.mono ?_
  rintro e w8 ⟨rfl, rfl⟩
  clear x0 x1 y0 y1 KHA
  have KT := Lib.hid (tagsOf_any (c := xc) (G.out.2.1.same HB7.out) hxn)
  obtain ⟨x0, x1, _, _⟩ := two_cells HC7.out
  obtain ⟨y0, y1, _, _⟩ := two_cells HD7.out
  go_wp2_with fail
  refine KT.out.mono ?_
  rintro e w9 ⟨q9, n9, c9, rfl, ho9, hb⟩
  have HB9 := Lib.hid (HB7.out.trans (hb.mono HB7.out.size))
  have HC9 := Lib.hid ((hb.block w.heap.size (by omega)).trans HC7.out)
  have HD9 := Lib.hid ((hb.block (w.heap.size + 1) (by omega)).trans HD7.out)
  have hlw9 := Nat.lt_of_lt_of_le hlw7 hb.size
  have HO9 := Lib.hid (HO7.out.same hb)
  have hn9 := ho9.len
  have hlg9 := HO7.out.lt
  have hsp9 := ho9.span
  have KP := Lib.hid (keep_any (c := c9) HO9.out (fun w' hg => (ho9.apart (b := some ⟨w4.heap.size, 0, none⟩) (m := 0) (d := 0) (lo' := w4.heap.size) (hi' := w4.heap.size + 1) hg hsp9 (fun ad e => by cases e; exact ⟨Nat.le_refl _, Nat.lt_succ_self _⟩) (Or.inr hlg9)).nums) HXW.out (by omega))
  clear hb ho9 x0 x1 y0 y1 KT hn9 hsp9
  obtain ⟨x0, x1, _, _⟩ := two_cells HC9.out
  obtain ⟨y0, y1, _, _⟩ := two_cells HD9.out
  go_wp2_with fail
  refine KP.out.mono ?_
  rintro e w10 ⟨rfl, ho10, hg10⟩
  have HO10 := Lib.hid ho10
  have HB10 := Lib.hid (HB9.out.grown hg10 HB9.out.size (fun j e => by cases e; omega))
  have HC10 := Lib.hid ((hg10.block w.heap.size (by omega) (by simp; omega)).trans HC9.out)
  have HD10 := Lib.hid ((hg10.block (w.heap.size + 1) (by omega) (by simp; omega)).trans HD9.out)
  have hlw10 := Nat.lt_of_lt_of_le hlw9 hg10.size
  have KT := Lib.hid (tagsOf_any (c := d) (G.out.2.2.same HB10.out) hmn)
  clear ho10 hg10 x0 x1 y0 y1 KP
  obtain ⟨x0, x1, _, _⟩ := two_cells HC10.out
  obtain ⟨y0, y1, _, _⟩ := two_cells HD10.out
  go_wp2_with fail
  refine KT.out.mono ?_
  rintro e w11 ⟨q11, n11, c11, rfl, ho11, hb⟩
  have HB11 := Lib.hid (HB10.out.trans (hb.mono HB10.out.size))
  have HC11 := Lib.hid ((hb.block w.heap.size (by omega)).trans HC10.out)
  have HD11 := Lib.hid ((hb.block (w.heap.size + 1) (by omega)).trans HD10.out)
  have hlw11 := Nat.lt_of_lt_of_le hlw10 hb.size
  have KHA := Lib.hid (hasAll_any (c := c11) (HO10.out.same hb) ho11.nums HYW.out)
  rw [any_rev] at KHA
  clear hb ho11 x0 x1 y0 y1 KT
  obtain ⟨x0, x1, _, _⟩ := two_cells HC11.out
  obtain ⟨y0, y1, _, _⟩ := two_cells HD11.out
  go_wp2_with fail
  refine KHA.out.mono ?_
  rintro e w12 ⟨rfl, rfl⟩
  clear x0 x1 y0 y1 KHA
  obtain ⟨x0, x1, _, _⟩ := two_cells HC11.out
  obtain ⟨y0, y1, _, _⟩ := two_cells HD11.out
  go_wp2_with fail
  go_ret
  exact ⟨rfl, HB11.out⟩
theorem fitsHello_any {u v : Value} {x : Hel} {y : Ans} {w : World} (h : HelW w u x) (h' : AnsW w v y) : Calls Try.prog 23 #[u, v] w (Told (.bool (fitsA x y)) w) := by
  unfold fitsA
  rw [fitsX_split]
  cases hx : isH x with
  | false => rw [Bool.false_and, Bool.false_and, Bool.and_false]; exact fits_odd1 h h' hx
  | true =>
    cases hy : isA y with
    | false => rw [Bool.and_false, Bool.false_and, Bool.and_false]; exact fits_odd2 h h' hx hy
    | true =>
      cases hg : hasG y.exts with
      | true => rw [Bool.not_true, Bool.false_and, Bool.false_and]; exact fits_odd3 h h' hx hy hg
      | false =>
        cases hver : decide (y.ver ∈ x.vers) with
        | false => rw [Bool.and_false, Bool.and_false]; exact fits_odd4 h h' hx hy hg hver
        | true =>
          rw [Bool.not_false, Bool.true_and, Bool.and_true, Bool.and_true, Bool.and_true]
          exact fits_all h h' hx hy hg hver
end Go.Proofs.Ytcpnchjgklemgaa
namespace Go.Proofs.Ytcpnchjgklemgaa
open Go.ChangeShapes Go.WideShapes Go.ChangeAt Go.RowKit
set_option linter.unusedVariables false
set_option linter.unusedSimpArgs false

set_option maxRecDepth 100000 in
theorem contains_any {p : Option Addr} {m c : Nat} {y : List Int} (t : Int) {w : World} (h : Nums .i64 w p m y) :
    Calls Try.prog 76 #[.slice p m c, .int .i64 t] w fun e w' => e = .returned (.bool (decide (t ∈ y))) ∧ w = w' := by
  have H := Lib.hid h
  have hl := h.len
  have hfit := h.fits
  clear h
  go_enter Try.func76, Try.ntmps76
  go_wp2_with fail
  go_loop [5] (fun i => ∃ j : Nat, j ≤ m ∧ i = .int .i64 j ∧ ¬ t ∈ y.take j) (fun i => m - (intOf i).toNat)
  case atStart => exact ⟨0, Nat.zero_le _, rfl, by simp⟩
  case round =>
    obtain ⟨j, hj, rfl, hno⟩ := hrel
    have HN := Lib.hid hno
    clear hno
    by_cases hlt : j < m
    · obtain ⟨ad, z, rfl, hz, hc⟩ := H.out.at_ hlt
      by_cases hk : z = t
      · have HE : Hid (decide (t ∈ y) = true) := Lib.hid (decide_eq_true (by rw [← hk]; exact List.mem_of_getElem? hz))
        have hb : (z == t) = true := by simpa using hk
        clear hz hk
        go_wp2_with fail
        go_ret
        exact ⟨by rw [HE.out]; rfl, rfl⟩
      · have hb : (z == t) = false := by simpa using hk
        have HS : Hid (¬ t ∈ y.take (j + 1)) := Lib.hid (by
          rw [List.take_add_one, hz]
          intro hm
          rcases List.mem_append.1 hm with q | q
          · exact HN.out q
          · have : t = z := by simpa using q
            exact hk this.symm)
        clear hz hk
        go_wp2_with fail
        go_round
        case rel => exact ⟨j + 1, by omega, by go_num, HS.out⟩
        case measure => simp [intOf]; omega
    · obtain rfl : j = m := by omega
      have h1 := HN.out
      rw [List.take_of_length_le (by omega)] at h1
      have HE := Lib.hid (decide_eq_false h1)
      clear h1
      go_wp2_with fail
      go_ret
      exact ⟨by rw [HE.out]; rfl, rfl⟩
set_option maxRecDepth 100000 in
theorem within_yes {p q : Option Addr} {m c n d : Nat} {y z : List Int} {w : World} (h : Nums .i64 w p m y) (h' : Nums .i64 w q n z) (hs : ∀ x ∈ y, x ∈ z) :
    Calls Try.prog 25 #[.slice p m c, .slice q n d] w (Told (.bool true) w) := by
  have H := Lib.hid h
  have hfit := h.fits
  have K := Lib.hid (fun t => contains_any (c := d) t h')
  have HS := Lib.hid hs
  clear h h' hs
  go_enter Try.func25, Try.ntmps25
  go_wp2_with fail
  go_loop [5] (fun i => ∃ j : Nat, j ≤ m ∧ i = .int .i64 j) (fun i => m - (intOf i).toNat)
  case atStart => exact ⟨0, Nat.zero_le _, rfl⟩
  case round =>
    obtain ⟨j, hj, rfl⟩ := hrel
    by_cases hlt : j < m
    · obtain ⟨ad, x, rfl, hx, hc⟩ := H.out.at_ hlt
      have KC := K.out x
      rw [decide_eq_true (HS.out x (List.mem_of_getElem? hx))] at KC
      have KC := Lib.hid KC
      clear hx
      go_wp2_with (go_at_call 76; refine KC.out.mono ?_; rintro e w' ⟨rfl, rfl⟩)
      go_round
      case rel => exact ⟨j + 1, by omega, by go_num⟩
      case measure => simp [intOf]; omega
    · go_wp2_with fail
      go_ret
      exact ⟨rfl, Below.refl _ _⟩
def leftX (y ts : List Int) : List Int := y.filter fun x => !decide (x ∈ ts)
theorem left_yes {y ts : List Int} {j : Nat} {x : Int} (hx : y[j]? = some x) (h : x ∈ ts) : leftX (y.take (j + 1)) ts = leftX (y.take j) ts := by
  rw [List.take_add_one, hx]
  simp [leftX, h]
theorem left_no {y ts : List Int} {j : Nat} {x : Int} (hx : y[j]? = some x) (h : ¬ x ∈ ts) : leftX (y.take (j + 1)) ts = leftX (y.take j) ts ++ [x] := by
  rw [List.take_add_one, hx]
  simp [leftX, h]
theorem left_few (y ts : List Int) : (leftX y ts).length ≤ y.length := List.length_filter_le _ _
end Go.Proofs.Ytcpnchjgklemgaa
