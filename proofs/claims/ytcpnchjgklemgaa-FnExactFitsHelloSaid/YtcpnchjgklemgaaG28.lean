/- What a side answers: by the model. What is left behind a region that draws its order, calls ChooseAnswer and puts its answer into a variable: told once for all orders. Chapter 9 by the program and by the model: what the exact laws take. Whether an answer fits a hello: by the model. -/
import Derived.Test.YtcpnchjgklemgaaG24
import Derived.Test.YtcpnchjgklemgaaG26
import Derived.Test.YtcpnchjgklemgaaG27
import Derived.Test.YtcpnchjgklemgaaG17
import Derived.Test.YtcpnchjgklemgaaG13
import Derived.Tactics
import Derived.Test.YtcpnchjgklemgaaG21
import Derived.Test.YtcpnchjgklemgaaG20
import Derived.Test.YtcpnchjgklemgaaG11
import Derived.Deep.RegionHeld3
namespace Go.Proofs.Ytcpnchjgklemgaa
open Go.ChangeShapes Go.WideShapes Go.ChangeAt Go.RowKit
set_option linter.unusedVariables false
set_option linter.unusedSimpArgs false

set_option maxHeartbeats 4000000 in
set_option maxRecDepth 100000 in
theorem specChoose_odd {a b : Option Addr} {n c m d : Nat} {vs ts : List Int} {v : Value} {x : Hel} {w : World} (h1 : Nums .i64 w a n vs) (h2 : Nums .i64 w b m ts) (h : HelW w v x) (hz : ∀ z ∈ ts, (Lit.int .i64 z).wf = true) (hn : n ≤ 1048576) (hm : m ≤ 1048576) (hx : isH x = false) :
    Calls Try.prog 46 #[.slice a n c, .slice b m d, v] w (MadeAnsB w.heap.size ⟨0, []⟩ false w) := by
  have KH := Lib.hid (fun (w0 : World) (hb : Below w.heap.size w w0) => specIsHello_any (h.same hb))
  obtain ⟨va, vn, vc, xa, xn, xc, rfl, g1, g2, g3⟩ := h
  obtain ⟨hsz, hC, hD, hb0⟩ := two w #[.slice va vn vc, .slice xa xn xc] #[.int .i64 0, .slice none 0 0] 27 39
  have HB := Lib.hid hb0
  have KB := Lib.hid (specBestCommon_any (c := c) (d := vc) (h1.same hb0) (g1.same hb0) (by omega))
  have H2 := Lib.hid (And.intro h2 (And.intro g2 hz))
  obtain ⟨B, hB⟩ : ∃ B : Nat, best vs x.vers = B := ⟨_, rfl⟩
  rw [hB] at KB
  have hlw : w.heap.size + 1 < ((w.alloc (.cells #[.slice va vn vc, .slice xa xn xc] 27)).alloc (.cells #[.int .i64 0, .slice none 0 0] 39)).heap.size := by omega
  have HC := Lib.hid hC
  have HD := Lib.hid hD
  clear hb0 hC hD hsz
  rw [hx] at KH
  clear h1 h2 hz g1 g2 g3 hB hx
  go_enter Try.func46, Try.ntmps46
  go_wp2_with fail
  generalize ((w.alloc (.cells #[.slice va vn vc, .slice xa xn xc] 27)).alloc (.cells #[.int .i64 0, .slice none 0 0] 39)) = W1 at *
  refine KB.out.mono ?_
  rintro e w2 ⟨rfl, hb⟩
  have HB2 := Lib.hid (HB.out.trans (hb.mono HB.out.size))
  have HC2 := Lib.hid ((hb.block w.heap.size (by omega)).trans HC.out)
  have HD2 := Lib.hid ((hb.block (w.heap.size + 1) (by omega)).trans HD.out)
  have hs2 := Nat.lt_of_lt_of_le hlw hb.size
  clear hb
  obtain ⟨x0, x1, _, _⟩ := two_cells HC2.out
  go_wp2_with fail
  refine (KH.out _ HB2.out).mono ?_
  rintro e w3 ⟨rfl, hb⟩
  have HB3 := Lib.hid (HB2.out.trans (hb.mono HB2.out.size))
  have HC3 := Lib.hid ((hb.block w.heap.size (by omega)).trans HC2.out)
  have HD3 := Lib.hid ((hb.block (w.heap.size + 1) (by omega)).trans HD2.out)
  have hs3 := Nat.lt_of_lt_of_le hs2 hb.size
  clear hb x0 x1
  obtain ⟨m0, m1, q0, q1⟩ := two_cells HD3.out
  obtain ⟨z0, z1, hZ⟩ := two_put HD3.out (.int .i64 0) (.slice none 0 0)
  clear hZ
  go_wp2_with fail
  (try simp only [Exit.inBlock, Exit.then])
  refine bodyPost_ret (by simp [results, Try.results46, go_sem, z0, z1]; try rfl) rfl ?_
  exact ⟨_, rfl, no_ans (by simp; have := HB3.out.size; omega), (HB3.out.setCell (Nat.le_succ _) _).setCell (Nat.le_succ _) _⟩
set_option maxHeartbeats 4000000 in
set_option maxRecDepth 100000 in
theorem specChoose_none {a b : Option Addr} {n c m d : Nat} {vs ts : List Int} {v : Value} {x : Hel} {w : World} (h1 : Nums .i64 w a n vs) (h2 : Nums .i64 w b m ts) (h : HelW w v x) (hz : ∀ z ∈ ts, (Lit.int .i64 z).wf = true) (hn : n ≤ 1048576) (hm : m ≤ 1048576) (h0 : best vs x.vers = 0) (hx : isH x = true) :
    Calls Try.prog 46 #[.slice a n c, .slice b m d, v] w (MadeAnsB w.heap.size ⟨0, []⟩ false w) := by
  have KH := Lib.hid (fun (w0 : World) (hb : Below w.heap.size w w0) => specIsHello_any (h.same hb))
  obtain ⟨va, vn, vc, xa, xn, xc, rfl, g1, g2, g3⟩ := h
  obtain ⟨hsz, hC, hD, hb0⟩ := two w #[.slice va vn vc, .slice xa xn xc] #[.int .i64 0, .slice none 0 0] 27 39
  have HB := Lib.hid hb0
  have KB := Lib.hid (specBestCommon_any (c := c) (d := vc) (h1.same hb0) (g1.same hb0) (by omega))
  have H2 := Lib.hid (And.intro h2 (And.intro g2 hz))
  obtain ⟨B, hB⟩ : ∃ B : Nat, best vs x.vers = B := ⟨_, rfl⟩
  rw [hB] at KB
  have hlw : w.heap.size + 1 < ((w.alloc (.cells #[.slice va vn vc, .slice xa xn xc] 27)).alloc (.cells #[.int .i64 0, .slice none 0 0] 39)).heap.size := by omega
  have HC := Lib.hid hC
  have HD := Lib.hid hD
  clear hb0 hC hD hsz
  have hB0 : ((B : Int) == 0) = true := by rw [← hB, h0]; rfl
  rw [hx] at KH
  clear h1 h2 hz g1 g2 g3 hB h0 hx
  go_enter Try.func46, Try.ntmps46
  go_wp2_with fail
  generalize ((w.alloc (.cells #[.slice va vn vc, .slice xa xn xc] 27)).alloc (.cells #[.int .i64 0, .slice none 0 0] 39)) = W1 at *
  refine KB.out.mono ?_
  rintro e w2 ⟨rfl, hb⟩
  have HB2 := Lib.hid (HB.out.trans (hb.mono HB.out.size))
  have HC2 := Lib.hid ((hb.block w.heap.size (by omega)).trans HC.out)
  have HD2 := Lib.hid ((hb.block (w.heap.size + 1) (by omega)).trans HD.out)
  have hs2 := Nat.lt_of_lt_of_le hlw hb.size
  clear hb
  obtain ⟨x0, x1, _, _⟩ := two_cells HC2.out
  go_wp2_with fail
  refine (KH.out _ HB2.out).mono ?_
  rintro e w3 ⟨rfl, hb⟩
  have HB3 := Lib.hid (HB2.out.trans (hb.mono HB2.out.size))
  have HC3 := Lib.hid ((hb.block w.heap.size (by omega)).trans HC2.out)
  have HD3 := Lib.hid ((hb.block (w.heap.size + 1) (by omega)).trans HD2.out)
  have hs3 := Nat.lt_of_lt_of_le hs2 hb.size
  clear hb x0 x1
  obtain ⟨m0, m1, q0, q1⟩ := two_cells HD3.out
  obtain ⟨z0, z1, hZ⟩ := two_put HD3.out (.int .i64 0) (.slice none 0 0)
  clear hZ
  go_wp2_with fail
  (try simp only [Exit.inBlock, Exit.then])
  refine bodyPost_ret (by simp [results, Try.results46, go_sem, z0, z1]; try rfl) rfl ?_
  exact ⟨_, rfl, no_ans (by simp; have := HB3.out.size; omega), (HB3.out.setCell (Nat.le_succ _) _).setCell (Nat.le_succ _) _⟩
set_option maxHeartbeats 4000000 in
set_option maxRecDepth 100000 in
theorem specChoose_yes {a b : Option Addr} {n c m d : Nat} {vs ts : List Int} {v : Value} {x : Hel} {w : World} (h1 : Nums .i64 w a n vs) (h2 : Nums .i64 w b m ts) (h : HelW w v x) (hz : ∀ z ∈ ts, (Lit.int .i64 z).wf = true) (hn : n ≤ 1048576) (hm : m ≤ 1048576) (h0 : ¬ best vs x.vers = 0) (hx : isH x = true) :
    Calls Try.prog 46 #[.slice a n c, .slice b m d, v] w (MadeAnsB w.heap.size ⟨(best vs x.vers : Int), strX (knownOf x.exts ts)⟩ true w) := by
  have KH := Lib.hid (fun (w0 : World) (hb : Below w.heap.size w w0) => specIsHello_any (h.same hb))
  obtain ⟨va, vn, vc, xa, xn, xc, rfl, g1, g2, g3⟩ := h
  obtain ⟨hsz, hC, hD, hb0⟩ := two w #[.slice va vn vc, .slice xa xn xc] #[.int .i64 0, .slice none 0 0] 27 39
  have HB := Lib.hid hb0
  have KB := Lib.hid (specBestCommon_any (c := c) (d := vc) (h1.same hb0) (g1.same hb0) (by omega))
  have H2 := Lib.hid (And.intro h2 (And.intro g2 hz))
  obtain ⟨B, hB⟩ : ∃ B : Nat, best vs x.vers = B := ⟨_, rfl⟩
  rw [hB] at KB
  have hlw : w.heap.size + 1 < ((w.alloc (.cells #[.slice va vn vc, .slice xa xn xc] 27)).alloc (.cells #[.int .i64 0, .slice none 0 0] 39)).heap.size := by omega
  have HC := Lib.hid hC
  have HD := Lib.hid hD
  clear hb0 hC hD hsz
  have hB0 : ((B : Int) == 0) = false := by simp; omega
  have HT := Lib.hid (tags_wfH hx)
  have hfew := areX_few (isH_parts.1 hx).2
  have hxl := g2.len
  have hxn : xn ≤ 1048576 := by omega
  have hxi : itemsOf x.exts ≤ 1048576 := by omega
  have hk1 := known_few x.exts ts
  have hk2 : itemsOf (knownOf x.exts ts) ≤ itemsOf x.exts := items_filter _ _
  rw [hx] at KH
  rw [hB]
  clear h1 h2 hz g1 g2 g3 hB h0 hx
  go_enter Try.func46, Try.ntmps46
  go_wp2_with fail
  generalize ((w.alloc (.cells #[.slice va vn vc, .slice xa xn xc] 27)).alloc (.cells #[.int .i64 0, .slice none 0 0] 39)) = W1 at *
  refine KB.out.mono ?_
  rintro e w2 ⟨rfl, hb⟩
  have HB2 := Lib.hid (HB.out.trans (hb.mono HB.out.size))
  have HC2 := Lib.hid ((hb.block w.heap.size (by omega)).trans HC.out)
  have HD2 := Lib.hid ((hb.block (w.heap.size + 1) (by omega)).trans HD.out)
  have hs2 := Nat.lt_of_lt_of_le hlw hb.size
  clear hb
  obtain ⟨x0, x1, _, _⟩ := two_cells HC2.out
  go_wp2_with fail
  refine (KH.out _ HB2.out).mono ?_
  rintro e w3 ⟨rfl, hb⟩
  have HB3 := Lib.hid (HB2.out.trans (hb.mono HB2.out.size))
  have HC3 := Lib.hid ((hb.block w.heap.size (by omega)).trans HC2.out)
  have HD3 := Lib.hid ((hb.block (w.heap.size + 1) (by omega)).trans HD2.out)
  have hs3 := Nat.lt_of_lt_of_le hs2 hb.size
  clear hb x0 x1
  obtain ⟨x0, x1, _, _⟩ := two_cells HC3.out
  have KK := Lib.hid (specKnownOf_any (c := xc) (d := d) (H2.out.2.1.same HB3.out) (H2.out.1.same HB3.out) hxn hxi)
  go_wp2_with fail
  refine KK.out.mono ?_
  rintro e w4 ⟨q4, n4, c4, rfl, ho4, hb4⟩
  have hl4 := ho4.len
  have HB4 := Lib.hid (HB3.out.trans (hb4.mono HB3.out.size))
  have HD4 := Lib.hid ((hb4.block (w.heap.size + 1) (by omega)).trans HD3.out)
  have hs4 := Nat.lt_of_lt_of_le hs3 hb4.size
  have KS := Lib.hid (specStripGrease_any (c := c4) ho4.vals (by omega) (by omega))
  clear ho4 hb4 x0 x1 KK
  go_wp2_with fail
  refine KS.out.mono ?_
  rintro e w5 ⟨q5, n5, c5, rfl, ho5, hb5⟩
  have HB5 := Lib.hid (HB4.out.trans (hb5.mono HB4.out.size))
  have HD5 := Lib.hid ((hb5.block (w.heap.size + 1) (by omega)).trans HD4.out)
  have HO5 := Lib.hid ho5
  clear ho5 hb5 KS
  obtain ⟨m0, m1, q0, q1⟩ := two_cells HD5.out
  obtain ⟨z0, z1, hZ⟩ := two_put HD5.out (.int .i64 (B : Int)) (.slice q5 n5 c5)
  clear hZ
  go_wp2_with fail
  (try simp only [Exit.inBlock, Exit.then])
  refine bodyPost_ret (by simp [results, Try.results46, go_sem, z0, z1]; try rfl) rfl ?_
  have hfin := ((own_ans (k := (B : Int)) HO5.out.lim (Nat.le_refl _) (Nat.le_refl _) (Nat.le_refl _)).aside (set2_insideA w5 (w.heap.size + 1) (.int .i64 (B : Int)) (.slice q5 n5 c5)) (Or.inl (by omega))).lower (B' := w.heap.size) (by omega)
  exact ⟨_, rfl, by simpa using hfin, (HB5.out.setCell (Nat.le_succ _) _).setCell (Nat.le_succ _) _⟩
theorem specChooseAnswer_any {a b : Option Addr} {n c m d : Nat} {vs ts : List Int} {v : Value} {x : Hel} {w : World} (h1 : Nums .i64 w a n vs) (h2 : Nums .i64 w b m ts) (h : HelW w v x) (hz : ∀ z ∈ ts, (Lit.int .i64 z).wf = true) (hn : n ≤ 1048576) (hm : m ≤ 1048576) :
    Calls Try.prog 46 #[.slice a n c, .slice b m d, v] w (MadeAnsB w.heap.size (chAns vs ts x) (chOk vs ts x) w) := by
  have no : chA vs ts x = none → Calls Try.prog 46 #[.slice a n c, .slice b m d, v] w (MadeAnsB w.heap.size ⟨0, []⟩ false w) → Calls Try.prog 46 #[.slice a n c, .slice b m d, v] w (MadeAnsB w.heap.size (chAns vs ts x) (chOk vs ts x) w) := fun e h => by
    rw [(chA_none e).1, (chA_none e).2]; exact h
  by_cases h0 : best vs x.vers = 0
  · cases hx : isH x with
    | false => exact no (chA_no (Or.inl hx)) (specChoose_odd h1 h2 h hz hn hm hx)
    | true => exact no (chA_no (Or.inr h0)) (specChoose_none h1 h2 h hz hn hm h0 hx)
  · cases hx : isH x with
    | false => exact no (chA_no (Or.inl hx)) (specChoose_odd h1 h2 h hz hn hm hx)
    | true =>
      have e := chA_some (chA_yes (ts := ts) hx h0)
      rw [e.1, e.2]
      exact specChoose_yes h1 h2 h hz hn hm h0 hx
end Go.Proofs.Ytcpnchjgklemgaa
namespace Go.Proofs.Ytcpnchjgklemgaa
open Go.ChangeShapes Go.WideShapes Go.ChangeAt Go.RowKit
set_option linter.unusedVariables false

def ChR (pw : World) (L : Ans) (g : Nat) (b : Option Addr) (m d : Nat) (W : World) : Prop :=
  Below pw.heap.size pw W ∧ W.heap[g]? = some (.cells #[.int .i64 L.ver, .slice b m d] 39 (0, 0)) ∧ (pw.heap.size ≤ g ∧ g < W.heap.size) ∧ ∃ lo S, OwnAns S W lo (.agg #[.int .i64 L.ver, .slice b m d]) L ∧ pw.heap.size ≤ lo ∧ S ≤ W.heap.size ∧ (g < lo ∨ S ≤ g)
def ChQ (R : Nat → Option Addr → Nat → Nat → World → Prop) (act : Nat → Value → Value → Value → Option Addr → Nat → Nat → Act) : Exit → Act → World → Prop
  | .normal, a, W => ∃ g u3 u5 u7 b m d, a = act g u3 u5 u7 b m d ∧ R g b m d W
  | _, _, _ => False
/-- One act and one condition for every order: the rest is walked once. -/
theorem ch_cut {P : Program} {c : Go.Code} {Q' : Exit → Act → World → Prop} {a : Act} {w : World} (R : Nat → Option Addr → Nat → Nat → World → Prop) (act : Nat → Value → Value → Value → Option Addr → Nat → Nat → Act)
    (h : c.wp P (ChQ R act) a w)
    (hr : ∀ g u3 u5 u7 b m d W', R g b m d W' → Q' .normal (act g u3 u5 u7 b m d) W') : c.wp P Q' a w :=
  Go.Code.wp_mono (fun e a' W' hq => by
    cases e with
    | normal =>
      obtain ⟨g, u3, u5, u7, b, m, d, ha, hR⟩ := hq
      subst ha
      exact hr g u3 u5 u7 b m d W' hR
    | _ => exact hq.elim) h
theorem chR_alloc {pw w : World} {L : Ans} {b : Option Addr} {m d : Nat} (hb : Below pw.heap.size pw w) (ho : OwnAns w.heap.size w pw.heap.size (.agg #[.int .i64 L.ver, .slice b m d]) L) : ChR pw L w.heap.size b m d (w.alloc (.cells #[.int .i64 L.ver, .slice b m d] 39)) :=
  ⟨hb.alloc hb.size _, heap_alloc_new w _, ⟨hb.size, by simp⟩, _, _, ho.same ((Below.refl _ w).alloc (Nat.le_refl _) _), Nat.le_refl _, by simp, Or.inr (Nat.le_refl _)⟩
theorem chR_store {pw w v : World} {L : Ans} {g : Nat} {b : Option Addr} {m d : Nat} (hb : Below pw.heap.size pw v) (hg : pw.heap.size ≤ g) (hz : v.heap[g]? = some (.cells #[.int .i64 0, .slice none 0 0] 39 (0, 0))) (hgw : g < w.heap.size) (hwv : w.heap.size ≤ v.heap.size)
    (ho : OwnAns v.heap.size v w.heap.size (.agg #[.int .i64 L.ver, .slice b m d]) L) : ChR pw L g b m d ((v.setCell ⟨g, 0, none⟩ (.int .i64 L.ver)).setCell ⟨g, 1, none⟩ (.slice b m d)) := by
  obtain ⟨z0, z1, hZ⟩ := two_put hz (.int .i64 L.ver) (.slice b m d)
  have hi : Inside g (g + 1) v ((v.setCell ⟨g, 0, none⟩ (.int .i64 L.ver)).setCell ⟨g, 1, none⟩ (.slice b m d)) :=
    Inside.row (lo := g) (hi := g + 1) ((set_grown v g 0 _).trans (set_grown _ g 1 _)) (fun r e => by cases e; exact ⟨Nat.le_refl _, Nat.lt_succ_self _⟩)
  exact ⟨(hb.setCell hg _).setCell hg _, hZ, ⟨hg, by simp; omega⟩, w.heap.size, v.heap.size, ho.aside hi (Or.inl (by omega)), by have := hb.size; omega, by simp, Or.inl hgw⟩
end Go.Proofs.Ytcpnchjgklemgaa
namespace Go.Proofs.Ytcpnchjgklemgaa
open Go.ChangeShapes Go.WideShapes Go.ChangeAt Go.RowKit
set_option linter.unusedVariables false

theorem told_same {P : Program} {f : Nat} {args : Array Value} {v : Value} {w : World} (h : Calls P f args w fun e w' => e = .returned v ∧ w = w') : Calls P f args w (Told v w) :=
  h.mono fun e w' ⟨e1, e2⟩ => ⟨e1, by rw [← e2]; exact Below.refl _ _⟩
theorem tags_ok {l : List Vl} (h : ∀ x ∈ l, x.wf) : ∀ z ∈ tagsX l, (Lit.int .i64 z).wf = true := by
  intro z hz
  obtain ⟨x, hx, rfl⟩ := List.mem_map.1 hz
  exact (h x hx).1
end Go.Proofs.Ytcpnchjgklemgaa
namespace Go.Proofs.Ytcpnchjgklemgaa
open Go.ChangeShapes Go.WideShapes Go.ChangeAt Go.RowKit
set_option linter.unusedVariables false
set_option linter.unusedSimpArgs false

theorem all_no {α : Type} {p : α → Bool} {l : List α} {j : Nat} {x : α} (hx : l[j]? = some x) (hp : p x = false) : l.all p = false := by
  rw [List.all_eq_false]
  exact ⟨x, List.mem_of_getElem? hx, by simp [hp]⟩
theorem all_next {α : Type} {p : α → Bool} {l : List α} {j : Nat} {x : α} (hx : l[j]? = some x) (h : (l.take j).all p = true) (hp : p x = true) : (l.take (j + 1)).all p = true := by
  rw [List.take_add_one, hx, List.all_append, h]
  simp [hp]
set_option maxHeartbeats 4000000 in
set_option maxRecDepth 100000 in
theorem specFitsHello_any {u v : Value} {x : Hel} {y : Ans} {w : World} (h : HelW w u x) (h' : AnsW w v y) (hm1 : y.exts.length ≤ 1048576) :
    Calls Try.prog 49 #[u, v] w (Told (.bool (fitsA x y)) w) := by
  have KH := Lib.hid (fun (w0 : World) (hb : Below w.heap.size w w0) => specIsHello_any (h.same hb))
  have KA := Lib.hid (fun (w0 : World) (hb : Below w.heap.size w w0) => specIsAnswer_any (h'.same hb))
  obtain ⟨va, vn, vc, xa, xn, xc, rfl, g1, g2, g3⟩ := h
  obtain ⟨b, m, d, rfl, g4, g5⟩ := h'
  obtain ⟨hsz, hC, hD, hb0⟩ := two w #[.slice va vn vc, .slice xa xn xc] #[.int .i64 y.ver, .slice b m d] 27 39
  have hlw : w.heap.size + 1 < ((w.alloc (.cells #[.slice va vn vc, .slice xa xn xc] 27)).alloc (.cells #[.int .i64 y.ver, .slice b m d] 39)).heap.size := by omega
  have HB := Lib.hid hb0
  have HC := Lib.hid hC
  have HD := Lib.hid hD
  have hln := Lib.hid g4.len
  have hmm : m ≤ 1048576 := by have := g4.len; omega
  have G := Lib.hid (And.intro g1 (And.intro g2 g4))
  have KL := Lib.hid (fun (w0 : World) (hb : Below w.heap.size w w0) => told_same (l9Has_any (c := vc) y.ver (g1.same hb)))
  have KX := Lib.hid (fun (t : Int) (w0 : World) (hb : Below w.heap.size w w0) => told_same (specExtOf_any (c := xc) t (g2.same hb)))
  obtain ⟨s0, s1, -⟩ := two_cells hC
  obtain ⟨t0, t1, -⟩ := two_cells hD
  clear hb0 hsz g1 g2 g3 g4 g5 hm1
  unfold fitsA
  go_enter Try.func49, Try.ntmps49
  go_wp2_with fail
  clear s0 s1 t0 t1 hC hD
  generalize ((w.alloc (.cells #[.slice va vn vc, .slice xa xn xc] 27)).alloc (.cells #[.int .i64 y.ver, .slice b m d] 39)) = W1 at *
  go_loopw [5] (fun i wr => ∃ j : Nat, j ≤ m ∧ i = .int .i64 j ∧ (y.exts.take j).all (fun e => decide (e.num ∈ tagsX x.exts) && !resv e.num) = true ∧ Below w.heap.size w wr ∧ (wr.heap[w.heap.size]? = W1.heap[w.heap.size]? ∧ wr.heap[w.heap.size + 1]? = W1.heap[w.heap.size + 1]?) ∧ W1.heap.size ≤ wr.heap.size) (fun i _ => m - (intOf i).toNat)
  case atStart => exact ⟨0, Nat.zero_le _, rfl, by simp, HB.out, ⟨rfl, rfl⟩, Nat.le_refl _⟩
  case round =>
    obtain ⟨j, hj, rfl, hall, hb, hk2, hs2⟩ := hrel
    have HALL := Lib.hid hall
    have HBr := Lib.hid hb
    have HCr := Lib.hid (hk2.1.trans HC.out)
    have HDr := Lib.hid (hk2.2.trans HD.out)
    clear hall hb hk2
    have hlr : w.heap.size + 1 < wr.heap.size := by omega
    by_cases hlt : j < m
    · obtain ⟨bb, o, p, pm, pd, k, z, rfl, hx, hc0, hc1, hN, hr⟩ := (G.out.2.2.same HBr.out).at_ hlt
      obtain ⟨s0, s1, -⟩ := two_cells HCr.out
      obtain ⟨t0, t1, -⟩ := two_cells HDr.out
      have CX := Lib.hid s1
      have CY := Lib.hid t1
      have CK := Lib.hid hc0
      have HX := Lib.hid hx
      have hj0 : (0 : Int) ≤ (j : Int) := by omega
      have hj1 : (j : Int) < (m : Int) := by omega
      clear hc1 hN hr hx s0 t0 hc0
      by_cases hin : k ∈ tagsX x.exts
      · have hex := extOf_yes hin
        have KE := Lib.hid (KX.out k)
        rw [hex] at KE
        obtain ⟨r, hr⟩ : ∃ r : Nat, (tagsX x.exts).idxOf k = r := ⟨_, rfl⟩
        rw [hr] at KE
        have hneg : decide ((r : Int) < 0) = false := decide_eq_false (by omega)
        have hr0 : (0 : Int) ≤ (r : Int) := by omega
        clear hex hr
        have KR := Lib.hid (fun w0 => told_back (specIsReserved_any k w0))
        cases hres : resv k with
        | true =>
          rw [hres] at KR
          have HE : Hid (fitsX x y = false) := Lib.hid (by unfold fitsX; exact all_no (p := fun e => decide (e.num ∈ tagsX x.exts) && !resv e.num) HX.out (by dsimp only; rw [hres]; simp))
          clear hres
          go_wp2_with fail
          clear s1 t1
          have HBd : Hid (Below wr.heap.size wr wr.drew) := Lib.hid (Below.refl _ _).drew
          refine wp_region_held_drew (S := fun w9 => w9.cell? ⟨w.heap.size, 1, none⟩ = some (.slice xa xn xc) ∧ w9.cell? ⟨w.heap.size + 1, 1, none⟩ = some (.slice (some ⟨bb, o, none⟩) m d) ∧ w9.cell? ⟨bb, o + j * 2, none⟩ = some (.int .i64 k)) (by kernel_rfl) ⟨cell_stay CX.out HBd.out, cell_stay CY.out HBd.out, cell_stay CK.out HBd.out⟩ (fun hHeld => ?_)
          refine wpAnyH_take (i := 0) (v := ?v1) (by simp only [List.getElem?_toArray, List.getElem?_cons_succ, List.getElem?_cons_zero]; rfl) (by kernel_rfl) (by kernel_rfl) (by kernel_rfl) (by exact fun _ _ _ h => h) (Or.inl ⟨by rfl, fun w9 hS9 => ?hy1⟩) hHeld ?rest1
          case hy1 =>
            dsimp only at hS9
            obtain ⟨q0, q1, q2⟩ := hS9
            go_simp
            try with_reducible rfl
          try simp only [Act.put, List.setIfInBounds_toArray, List.set_cons_zero, List.set_cons_succ]
          refine wpAnyH_take (i := 1) (v := ?v2) (by simp only [List.getElem?_toArray, List.getElem?_cons_succ, List.getElem?_cons_zero]; rfl) (by kernel_rfl) (by kernel_rfl) (by kernel_rfl) (by exact fun _ _ _ h => h) (Or.inl ⟨by rfl, fun w9 hS9 => ?hy2⟩) hHeld ?rest2
          case hy2 =>
            dsimp only at hS9
            obtain ⟨q0, q1, q2⟩ := hS9
            go_simp
            try with_reducible rfl
          try simp only [Act.put, List.setIfInBounds_toArray, List.set_cons_zero, List.set_cons_succ]
          refine wpAnyH_take (i := 2) (v := ?v3) (by simp only [List.getElem?_toArray, List.getElem?_cons_succ, List.getElem?_cons_zero]; rfl) (by kernel_rfl) (by kernel_rfl) (by kernel_rfl) (by exact fun _ _ _ h => h) (Or.inl ⟨by rfl, fun w9 hS9 => ?hy3⟩) hHeld ?rest3
          case hy3 =>
            dsimp only at hS9
            obtain ⟨q0, q1, q2⟩ := hS9
            go_simp
            try with_reducible rfl
          try simp only [Act.put, List.setIfInBounds_toArray, List.set_cons_zero, List.set_cons_succ]
          refine wpAnyH_take (i := 3) (v := ?v4) (by simp only [List.getElem?_toArray, List.getElem?_cons_succ, List.getElem?_cons_zero]; rfl) (by kernel_rfl) (by kernel_rfl) (by kernel_rfl) (by exact fun _ _ _ h => h) (Or.inl ⟨by rfl, fun w9 hS9 => ?hy4⟩) hHeld ?rest4
          case hy4 =>
            dsimp only at hS9
            obtain ⟨q0, q1, q2⟩ := hS9
            go_simp
            try with_reducible rfl
          try simp only [Act.put, List.setIfInBounds_toArray, List.set_cons_zero, List.set_cons_succ]
          refine wpAnyH_take (i := 4) (v := ?v5) (by simp only [List.getElem?_toArray, List.getElem?_cons_succ, List.getElem?_cons_zero]; rfl) (by kernel_rfl) (by kernel_rfl) (by kernel_rfl) (by exact fun _ _ _ h => h) (Or.inl ⟨by rfl, fun w9 hS9 => ?hy5⟩) hHeld ?rest5
          case hy5 =>
            dsimp only at hS9
            obtain ⟨q0, q1, q2⟩ := hS9
            go_simp
            try with_reducible rfl
          try simp only [Act.put, List.setIfInBounds_toArray, List.set_cons_zero, List.set_cons_succ]
          refine wpAnyH_take (i := 5) (v := ?v6) (by simp only [List.getElem?_toArray, List.getElem?_cons_succ, List.getElem?_cons_zero]; rfl) (by kernel_rfl) (by kernel_rfl) (by kernel_rfl) (by exact fun _ _ _ h => h) (Or.inl ⟨by rfl, fun w9 hS9 => ?hy6⟩) hHeld ?rest6
          case hy6 =>
            dsimp only at hS9
            obtain ⟨q0, q1, q2⟩ := hS9
            go_simp
            try with_reducible rfl
          try simp only [Act.put, List.setIfInBounds_toArray, List.set_cons_zero, List.set_cons_succ]
          refine wpAnyH_take (i := 6) (v := ?v7) (by simp only [List.getElem?_toArray, List.getElem?_cons_succ, List.getElem?_cons_zero]; rfl) (by kernel_rfl) (by kernel_rfl) (by kernel_rfl) (by exact fun _ _ _ h => h) (Or.inl ⟨by rfl, fun w9 hS9 => ?hy7⟩) hHeld ?rest7
          case hy7 =>
            dsimp only at hS9
            obtain ⟨q0, q1, q2⟩ := hS9
            go_simp
            try with_reducible rfl
          try simp only [Act.put, List.setIfInBounds_toArray, List.set_cons_zero, List.set_cons_succ]
          refine wpAnyH_take (i := 7) (v := ?v8) (by simp only [List.getElem?_toArray, List.getElem?_cons_succ, List.getElem?_cons_zero]; rfl) (by kernel_rfl) (by kernel_rfl) (by kernel_rfl) (by exact fun _ _ _ h => h) (Or.inl ⟨by rfl, fun w9 hS9 => ?hy8⟩) hHeld ?rest8
          case hy8 =>
            dsimp only at hS9
            obtain ⟨q0, q1, q2⟩ := hS9
            go_simp
            try with_reducible rfl
          try simp only [Act.put, List.setIfInBounds_toArray, List.set_cons_zero, List.set_cons_succ]
          refine wpAnyH_ready (rs := [8]) (by kernel_rfl) (by simp) (AllReadyH.cons (by simp only [List.getElem?_toArray, List.getElem?_cons_succ, List.getElem?_cons_zero]; rfl) (fun K hK => ?_) AllReadyH.nil)
          go_simp
          refine (KE.out _ (HBr.out.trans (HBd.out.mono HBr.out.size))).mono ?_
          rintro e w1 ⟨rfl, hb1⟩
          have HB1 : Hid (Below wr.heap.size wr w1) := Lib.hid (HBd.out.trans (hb1.mono HBd.out.size))
          clear hb1
          go_wp2_with fail
          refine hK.out _ _ ⟨cell_stay CX.out HB1.out, cell_stay CY.out HB1.out, cell_stay CK.out HB1.out⟩ (fun hHeld => ?_)
          clear hK K
          try simp only [Act.put, List.setIfInBounds_toArray, List.set_cons_zero, List.set_cons_succ]
          refine wpAnyH_take (i := 9) (v := ?v9) (by simp only [List.getElem?_toArray, List.getElem?_cons_succ, List.getElem?_cons_zero]; rfl) (by kernel_rfl) (by kernel_rfl) (by kernel_rfl) (by exact fun _ _ _ h => h) (Or.inl ⟨by rfl, fun w9 hS9 => ?hy9⟩) hHeld ?rest9
          case hy9 =>
            dsimp only at hS9
            obtain ⟨q0, q1, q2⟩ := hS9
            go_simp
            try with_reducible rfl
          try simp only [Act.put, List.setIfInBounds_toArray, List.set_cons_zero, List.set_cons_succ]
          refine wpAnyH_take (i := 10) (v := ?v10) (by simp only [List.getElem?_toArray, List.getElem?_cons_succ, List.getElem?_cons_zero]; rfl) (by kernel_rfl) (by kernel_rfl) (by kernel_rfl) (by exact fun _ _ _ h => h) (Or.inl ⟨by rfl, fun w9 hS9 => ?hy10⟩) hHeld ?rest10
          case hy10 =>
            dsimp only at hS9
            obtain ⟨q0, q1, q2⟩ := hS9
            go_simp
            try with_reducible rfl
          try simp only [Act.put, List.setIfInBounds_toArray, List.set_cons_zero, List.set_cons_succ]
          refine wpAnyH_take (i := 11) (v := ?v11) (by simp only [List.getElem?_toArray, List.getElem?_cons_succ, List.getElem?_cons_zero]; rfl) (by kernel_rfl) (by kernel_rfl) (by kernel_rfl) (by exact fun _ _ _ h => h) (Or.inl ⟨by rfl, fun w9 hS9 => ?hy11⟩) hHeld ?rest11
          case hy11 =>
            dsimp only at hS9
            obtain ⟨q0, q1, q2⟩ := hS9
            go_simp
            try with_reducible rfl
          try simp only [Act.put, List.setIfInBounds_toArray, List.set_cons_zero, List.set_cons_succ]
          refine wpAnyH_take (i := 12) (v := ?v12) (by simp only [List.getElem?_toArray, List.getElem?_cons_succ, List.getElem?_cons_zero]; rfl) (by kernel_rfl) (by kernel_rfl) (by kernel_rfl) (by exact fun _ _ _ h => h) (Or.inl ⟨by rfl, fun w9 hS9 => ?hy12⟩) hHeld ?rest12
          case hy12 =>
            dsimp only at hS9
            obtain ⟨q0, q1, q2⟩ := hS9
            go_simp
            try with_reducible rfl
          try simp only [Act.put, List.setIfInBounds_toArray, List.set_cons_zero, List.set_cons_succ]
          refine wpAnyH_take (i := 13) (v := ?v13) (by simp only [List.getElem?_toArray, List.getElem?_cons_succ, List.getElem?_cons_zero]; rfl) (by kernel_rfl) (by kernel_rfl) (by kernel_rfl) (by exact fun _ _ _ h => h) (Or.inl ⟨by rfl, fun w9 hS9 => ?hy13⟩) hHeld ?rest13
          case hy13 =>
            dsimp only at hS9
            obtain ⟨q0, q1, q2⟩ := hS9
            go_simp
            try with_reducible rfl
          try simp only [Act.put, List.setIfInBounds_toArray, List.set_cons_zero, List.set_cons_succ]
          refine wpAnyH_take (i := 14) (v := ?v14) (by simp only [List.getElem?_toArray, List.getElem?_cons_succ, List.getElem?_cons_zero]; rfl) (by kernel_rfl) (by kernel_rfl) (by kernel_rfl) (by exact fun _ _ _ h => h) (Or.inl ⟨by rfl, fun w9 hS9 => ?hy14⟩) hHeld ?rest14
          case hy14 =>
            dsimp only at hS9
            obtain ⟨q0, q1, q2⟩ := hS9
            go_simp
            try with_reducible rfl
          try simp only [Act.put, List.setIfInBounds_toArray, List.set_cons_zero, List.set_cons_succ]
          refine wpAnyH_take (i := 15) (v := ?v15) (by simp only [List.getElem?_toArray, List.getElem?_cons_succ, List.getElem?_cons_zero]; rfl) (by kernel_rfl) (by kernel_rfl) (by kernel_rfl) (by exact fun _ _ _ h => h) (Or.inl ⟨by rfl, fun w9 hS9 => ?hy15⟩) hHeld ?rest15
          case hy15 =>
            dsimp only at hS9
            obtain ⟨q0, q1, q2⟩ := hS9
            go_simp
            try with_reducible rfl
          try simp only [Act.put, List.setIfInBounds_toArray, List.set_cons_zero, List.set_cons_succ]
          refine wpAnyH_take (i := 16) (v := ?v16) (by simp only [List.getElem?_toArray, List.getElem?_cons_succ, List.getElem?_cons_zero]; rfl) (by kernel_rfl) (by kernel_rfl) (by kernel_rfl) (by exact fun _ _ _ h => h) (Or.inl ⟨by rfl, fun w9 hS9 => ?hy16⟩) hHeld ?rest16
          case hy16 =>
            dsimp only at hS9
            obtain ⟨q0, q1, q2⟩ := hS9
            go_simp
            try with_reducible rfl
          try simp only [Act.put, List.setIfInBounds_toArray, List.set_cons_zero, List.set_cons_succ]
          refine wpAnyH_ready (rs := [17]) (by kernel_rfl) (by simp) (AllReadyH.cons (by simp only [List.getElem?_toArray, List.getElem?_cons_succ, List.getElem?_cons_zero]; rfl) (fun K hK => ?_) AllReadyH.nil)
          go_simp
          refine (KR.out _).mono ?_
          rintro e w2 ⟨rfl, hb2⟩
          have HB2 : Hid (Below wr.heap.size wr w2) := Lib.hid (HB1.out.trans (hb2.mono HB1.out.size))
          clear hb2
          go_wp2_with fail
          refine hK.out _ _ ⟨cell_stay CX.out HB2.out, cell_stay CY.out HB2.out, cell_stay CK.out HB2.out⟩ (fun hHeld => ?_)
          clear hK K
          try simp only [Act.put, List.setIfInBounds_toArray, List.set_cons_zero, List.set_cons_succ]
          refine wpAnyH_take (i := 18) (v := ?v17) (by simp only [List.getElem?_toArray, List.getElem?_cons_succ, List.getElem?_cons_zero]; rfl) (by kernel_rfl) (by kernel_rfl) (by kernel_rfl) (by exact fun _ _ _ h => h) (Or.inl ⟨by rfl, fun w9 hS9 => ?hy17⟩) hHeld ?rest17
          case hy17 =>
            dsimp only at hS9
            obtain ⟨q0, q1, q2⟩ := hS9
            go_simp
            try with_reducible rfl
          try simp only [Act.put, List.setIfInBounds_toArray, List.set_cons_zero, List.set_cons_succ]
          refine wpAnyH_done (by kernel_rfl) ?_ _
          go_wp2_with fail
          go_ret
          rw [HE.out]
          exact ⟨rfl, HBr.out.trans (HB2.out.mono HBr.out.size)⟩
        | false =>
          rw [hres] at KR
          have HE : Hid ((y.exts.take (j + 1)).all (fun e => decide (e.num ∈ tagsX x.exts) && !resv e.num) = true) := Lib.hid (all_next HX.out HALL.out (by dsimp only; rw [hres, decide_eq_true hin]; rfl))
          clear hres
          go_wp2_with fail
          clear s1 t1
          have HBd : Hid (Below wr.heap.size wr wr.drew) := Lib.hid (Below.refl _ _).drew
          refine wp_region_held_drew (S := fun w9 => w9.cell? ⟨w.heap.size, 1, none⟩ = some (.slice xa xn xc) ∧ w9.cell? ⟨w.heap.size + 1, 1, none⟩ = some (.slice (some ⟨bb, o, none⟩) m d) ∧ w9.cell? ⟨bb, o + j * 2, none⟩ = some (.int .i64 k)) (by kernel_rfl) ⟨cell_stay CX.out HBd.out, cell_stay CY.out HBd.out, cell_stay CK.out HBd.out⟩ (fun hHeld => ?_)
          refine wpAnyH_take (i := 0) (v := ?v18) (by simp only [List.getElem?_toArray, List.getElem?_cons_succ, List.getElem?_cons_zero]; rfl) (by kernel_rfl) (by kernel_rfl) (by kernel_rfl) (by exact fun _ _ _ h => h) (Or.inl ⟨by rfl, fun w9 hS9 => ?hy18⟩) hHeld ?rest18
          case hy18 =>
            dsimp only at hS9
            obtain ⟨q0, q1, q2⟩ := hS9
            go_simp
            try with_reducible rfl
          try simp only [Act.put, List.setIfInBounds_toArray, List.set_cons_zero, List.set_cons_succ]
          refine wpAnyH_take (i := 1) (v := ?v19) (by simp only [List.getElem?_toArray, List.getElem?_cons_succ, List.getElem?_cons_zero]; rfl) (by kernel_rfl) (by kernel_rfl) (by kernel_rfl) (by exact fun _ _ _ h => h) (Or.inl ⟨by rfl, fun w9 hS9 => ?hy19⟩) hHeld ?rest19
          case hy19 =>
            dsimp only at hS9
            obtain ⟨q0, q1, q2⟩ := hS9
            go_simp
            try with_reducible rfl
          try simp only [Act.put, List.setIfInBounds_toArray, List.set_cons_zero, List.set_cons_succ]
          refine wpAnyH_take (i := 2) (v := ?v20) (by simp only [List.getElem?_toArray, List.getElem?_cons_succ, List.getElem?_cons_zero]; rfl) (by kernel_rfl) (by kernel_rfl) (by kernel_rfl) (by exact fun _ _ _ h => h) (Or.inl ⟨by rfl, fun w9 hS9 => ?hy20⟩) hHeld ?rest20
          case hy20 =>
            dsimp only at hS9
            obtain ⟨q0, q1, q2⟩ := hS9
            go_simp
            try with_reducible rfl
          try simp only [Act.put, List.setIfInBounds_toArray, List.set_cons_zero, List.set_cons_succ]
          refine wpAnyH_take (i := 3) (v := ?v21) (by simp only [List.getElem?_toArray, List.getElem?_cons_succ, List.getElem?_cons_zero]; rfl) (by kernel_rfl) (by kernel_rfl) (by kernel_rfl) (by exact fun _ _ _ h => h) (Or.inl ⟨by rfl, fun w9 hS9 => ?hy21⟩) hHeld ?rest21
          case hy21 =>
            dsimp only at hS9
            obtain ⟨q0, q1, q2⟩ := hS9
            go_simp
            try with_reducible rfl
          try simp only [Act.put, List.setIfInBounds_toArray, List.set_cons_zero, List.set_cons_succ]
          refine wpAnyH_take (i := 4) (v := ?v22) (by simp only [List.getElem?_toArray, List.getElem?_cons_succ, List.getElem?_cons_zero]; rfl) (by kernel_rfl) (by kernel_rfl) (by kernel_rfl) (by exact fun _ _ _ h => h) (Or.inl ⟨by rfl, fun w9 hS9 => ?hy22⟩) hHeld ?rest22
          case hy22 =>
            dsimp only at hS9
            obtain ⟨q0, q1, q2⟩ := hS9
            go_simp
            try with_reducible rfl
          try simp only [Act.put, List.setIfInBounds_toArray, List.set_cons_zero, List.set_cons_succ]
          refine wpAnyH_take (i := 5) (v := ?v23) (by simp only [List.getElem?_toArray, List.getElem?_cons_succ, List.getElem?_cons_zero]; rfl) (by kernel_rfl) (by kernel_rfl) (by kernel_rfl) (by exact fun _ _ _ h => h) (Or.inl ⟨by rfl, fun w9 hS9 => ?hy23⟩) hHeld ?rest23
          case hy23 =>
            dsimp only at hS9
            obtain ⟨q0, q1, q2⟩ := hS9
            go_simp
            try with_reducible rfl
          try simp only [Act.put, List.setIfInBounds_toArray, List.set_cons_zero, List.set_cons_succ]
          refine wpAnyH_take (i := 6) (v := ?v24) (by simp only [List.getElem?_toArray, List.getElem?_cons_succ, List.getElem?_cons_zero]; rfl) (by kernel_rfl) (by kernel_rfl) (by kernel_rfl) (by exact fun _ _ _ h => h) (Or.inl ⟨by rfl, fun w9 hS9 => ?hy24⟩) hHeld ?rest24
          case hy24 =>
            dsimp only at hS9
            obtain ⟨q0, q1, q2⟩ := hS9
            go_simp
            try with_reducible rfl
          try simp only [Act.put, List.setIfInBounds_toArray, List.set_cons_zero, List.set_cons_succ]
          refine wpAnyH_take (i := 7) (v := ?v25) (by simp only [List.getElem?_toArray, List.getElem?_cons_succ, List.getElem?_cons_zero]; rfl) (by kernel_rfl) (by kernel_rfl) (by kernel_rfl) (by exact fun _ _ _ h => h) (Or.inl ⟨by rfl, fun w9 hS9 => ?hy25⟩) hHeld ?rest25
          case hy25 =>
            dsimp only at hS9
            obtain ⟨q0, q1, q2⟩ := hS9
            go_simp
            try with_reducible rfl
          try simp only [Act.put, List.setIfInBounds_toArray, List.set_cons_zero, List.set_cons_succ]
          refine wpAnyH_ready (rs := [8]) (by kernel_rfl) (by simp) (AllReadyH.cons (by simp only [List.getElem?_toArray, List.getElem?_cons_succ, List.getElem?_cons_zero]; rfl) (fun K hK => ?_) AllReadyH.nil)
          go_simp
          refine (KE.out _ (HBr.out.trans (HBd.out.mono HBr.out.size))).mono ?_
          rintro e w1 ⟨rfl, hb1⟩
          have HB1 : Hid (Below wr.heap.size wr w1) := Lib.hid (HBd.out.trans (hb1.mono HBd.out.size))
          clear hb1
          go_wp2_with fail
          refine hK.out _ _ ⟨cell_stay CX.out HB1.out, cell_stay CY.out HB1.out, cell_stay CK.out HB1.out⟩ (fun hHeld => ?_)
          clear hK K
          try simp only [Act.put, List.setIfInBounds_toArray, List.set_cons_zero, List.set_cons_succ]
          refine wpAnyH_take (i := 9) (v := ?v26) (by simp only [List.getElem?_toArray, List.getElem?_cons_succ, List.getElem?_cons_zero]; rfl) (by kernel_rfl) (by kernel_rfl) (by kernel_rfl) (by exact fun _ _ _ h => h) (Or.inl ⟨by rfl, fun w9 hS9 => ?hy26⟩) hHeld ?rest26
          case hy26 =>
            dsimp only at hS9
            obtain ⟨q0, q1, q2⟩ := hS9
            go_simp
            try with_reducible rfl
          try simp only [Act.put, List.setIfInBounds_toArray, List.set_cons_zero, List.set_cons_succ]
          refine wpAnyH_take (i := 10) (v := ?v27) (by simp only [List.getElem?_toArray, List.getElem?_cons_succ, List.getElem?_cons_zero]; rfl) (by kernel_rfl) (by kernel_rfl) (by kernel_rfl) (by exact fun _ _ _ h => h) (Or.inl ⟨by rfl, fun w9 hS9 => ?hy27⟩) hHeld ?rest27
          case hy27 =>
            dsimp only at hS9
            obtain ⟨q0, q1, q2⟩ := hS9
            go_simp
            try with_reducible rfl
          try simp only [Act.put, List.setIfInBounds_toArray, List.set_cons_zero, List.set_cons_succ]
          refine wpAnyH_take (i := 11) (v := ?v28) (by simp only [List.getElem?_toArray, List.getElem?_cons_succ, List.getElem?_cons_zero]; rfl) (by kernel_rfl) (by kernel_rfl) (by kernel_rfl) (by exact fun _ _ _ h => h) (Or.inl ⟨by rfl, fun w9 hS9 => ?hy28⟩) hHeld ?rest28
          case hy28 =>
            dsimp only at hS9
            obtain ⟨q0, q1, q2⟩ := hS9
            go_simp
            try with_reducible rfl
          try simp only [Act.put, List.setIfInBounds_toArray, List.set_cons_zero, List.set_cons_succ]
          refine wpAnyH_take (i := 12) (v := ?v29) (by simp only [List.getElem?_toArray, List.getElem?_cons_succ, List.getElem?_cons_zero]; rfl) (by kernel_rfl) (by kernel_rfl) (by kernel_rfl) (by exact fun _ _ _ h => h) (Or.inl ⟨by rfl, fun w9 hS9 => ?hy29⟩) hHeld ?rest29
          case hy29 =>
            dsimp only at hS9
            obtain ⟨q0, q1, q2⟩ := hS9
            go_simp
            try with_reducible rfl
          try simp only [Act.put, List.setIfInBounds_toArray, List.set_cons_zero, List.set_cons_succ]
          refine wpAnyH_take (i := 13) (v := ?v30) (by simp only [List.getElem?_toArray, List.getElem?_cons_succ, List.getElem?_cons_zero]; rfl) (by kernel_rfl) (by kernel_rfl) (by kernel_rfl) (by exact fun _ _ _ h => h) (Or.inl ⟨by rfl, fun w9 hS9 => ?hy30⟩) hHeld ?rest30
          case hy30 =>
            dsimp only at hS9
            obtain ⟨q0, q1, q2⟩ := hS9
            go_simp
            try with_reducible rfl
          try simp only [Act.put, List.setIfInBounds_toArray, List.set_cons_zero, List.set_cons_succ]
          refine wpAnyH_take (i := 14) (v := ?v31) (by simp only [List.getElem?_toArray, List.getElem?_cons_succ, List.getElem?_cons_zero]; rfl) (by kernel_rfl) (by kernel_rfl) (by kernel_rfl) (by exact fun _ _ _ h => h) (Or.inl ⟨by rfl, fun w9 hS9 => ?hy31⟩) hHeld ?rest31
          case hy31 =>
            dsimp only at hS9
            obtain ⟨q0, q1, q2⟩ := hS9
            go_simp
            try with_reducible rfl
          try simp only [Act.put, List.setIfInBounds_toArray, List.set_cons_zero, List.set_cons_succ]
          refine wpAnyH_take (i := 15) (v := ?v32) (by simp only [List.getElem?_toArray, List.getElem?_cons_succ, List.getElem?_cons_zero]; rfl) (by kernel_rfl) (by kernel_rfl) (by kernel_rfl) (by exact fun _ _ _ h => h) (Or.inl ⟨by rfl, fun w9 hS9 => ?hy32⟩) hHeld ?rest32
          case hy32 =>
            dsimp only at hS9
            obtain ⟨q0, q1, q2⟩ := hS9
            go_simp
            try with_reducible rfl
          try simp only [Act.put, List.setIfInBounds_toArray, List.set_cons_zero, List.set_cons_succ]
          refine wpAnyH_take (i := 16) (v := ?v33) (by simp only [List.getElem?_toArray, List.getElem?_cons_succ, List.getElem?_cons_zero]; rfl) (by kernel_rfl) (by kernel_rfl) (by kernel_rfl) (by exact fun _ _ _ h => h) (Or.inl ⟨by rfl, fun w9 hS9 => ?hy33⟩) hHeld ?rest33
          case hy33 =>
            dsimp only at hS9
            obtain ⟨q0, q1, q2⟩ := hS9
            go_simp
            try with_reducible rfl
          try simp only [Act.put, List.setIfInBounds_toArray, List.set_cons_zero, List.set_cons_succ]
          refine wpAnyH_ready (rs := [17]) (by kernel_rfl) (by simp) (AllReadyH.cons (by simp only [List.getElem?_toArray, List.getElem?_cons_succ, List.getElem?_cons_zero]; rfl) (fun K hK => ?_) AllReadyH.nil)
          go_simp
          refine (KR.out _).mono ?_
          rintro e w2 ⟨rfl, hb2⟩
          have HB2 : Hid (Below wr.heap.size wr w2) := Lib.hid (HB1.out.trans (hb2.mono HB1.out.size))
          clear hb2
          go_wp2_with fail
          refine hK.out _ _ ⟨cell_stay CX.out HB2.out, cell_stay CY.out HB2.out, cell_stay CK.out HB2.out⟩ (fun hHeld => ?_)
          clear hK K
          try simp only [Act.put, List.setIfInBounds_toArray, List.set_cons_zero, List.set_cons_succ]
          refine wpAnyH_take (i := 18) (v := ?v34) (by simp only [List.getElem?_toArray, List.getElem?_cons_succ, List.getElem?_cons_zero]; rfl) (by kernel_rfl) (by kernel_rfl) (by kernel_rfl) (by exact fun _ _ _ h => h) (Or.inl ⟨by rfl, fun w9 hS9 => ?hy34⟩) hHeld ?rest34
          case hy34 =>
            dsimp only at hS9
            obtain ⟨q0, q1, q2⟩ := hS9
            go_simp
            try with_reducible rfl
          try simp only [Act.put, List.setIfInBounds_toArray, List.set_cons_zero, List.set_cons_succ]
          refine wpAnyH_done (by kernel_rfl) ?_ _
          go_wp2_with fail
          go_roundw
          case rel => exact ⟨j + 1, by omega, by go_num, HE.out, HBr.out.trans (HB2.out.mono HBr.out.size), ⟨((HB2.out.block _ (by omega)).trans HCr.out).trans HC.out.symm, ((HB2.out.block _ hlr).trans HDr.out).trans HD.out.symm⟩, Nat.le_trans hs2 HB2.out.size⟩
          case measure => simp [intOf]; omega
      · have hex := extOf_no hin
        have KE := Lib.hid (KX.out k)
        rw [hex] at KE
        have HE : Hid (fitsX x y = false) := Lib.hid (by unfold fitsX; exact all_no (p := fun e => decide (e.num ∈ tagsX x.exts) && !resv e.num) HX.out (by dsimp only; rw [decide_eq_false hin]; rfl))
        clear hex
        go_wp2_with fail
        clear s1 t1
        have HBd : Hid (Below wr.heap.size wr wr.drew) := Lib.hid (Below.refl _ _).drew
        refine wp_region_held_drew (S := fun w9 => w9.cell? ⟨w.heap.size, 1, none⟩ = some (.slice xa xn xc) ∧ w9.cell? ⟨w.heap.size + 1, 1, none⟩ = some (.slice (some ⟨bb, o, none⟩) m d) ∧ w9.cell? ⟨bb, o + j * 2, none⟩ = some (.int .i64 k)) (by kernel_rfl) ⟨cell_stay CX.out HBd.out, cell_stay CY.out HBd.out, cell_stay CK.out HBd.out⟩ (fun hHeld => ?_)
        refine wpAnyH_take (i := 0) (v := ?v35) (by simp only [List.getElem?_toArray, List.getElem?_cons_succ, List.getElem?_cons_zero]; rfl) (by kernel_rfl) (by kernel_rfl) (by kernel_rfl) (by exact fun _ _ _ h => h) (Or.inl ⟨by rfl, fun w9 hS9 => ?hy35⟩) hHeld ?rest35
        case hy35 =>
          dsimp only at hS9
          obtain ⟨q0, q1, q2⟩ := hS9
          go_simp
          try with_reducible rfl
        try simp only [Act.put, List.setIfInBounds_toArray, List.set_cons_zero, List.set_cons_succ]
        refine wpAnyH_take (i := 1) (v := ?v36) (by simp only [List.getElem?_toArray, List.getElem?_cons_succ, List.getElem?_cons_zero]; rfl) (by kernel_rfl) (by kernel_rfl) (by kernel_rfl) (by exact fun _ _ _ h => h) (Or.inl ⟨by rfl, fun w9 hS9 => ?hy36⟩) hHeld ?rest36
        case hy36 =>
          dsimp only at hS9
          obtain ⟨q0, q1, q2⟩ := hS9
          go_simp
          try with_reducible rfl
        try simp only [Act.put, List.setIfInBounds_toArray, List.set_cons_zero, List.set_cons_succ]
        refine wpAnyH_take (i := 2) (v := ?v37) (by simp only [List.getElem?_toArray, List.getElem?_cons_succ, List.getElem?_cons_zero]; rfl) (by kernel_rfl) (by kernel_rfl) (by kernel_rfl) (by exact fun _ _ _ h => h) (Or.inl ⟨by rfl, fun w9 hS9 => ?hy37⟩) hHeld ?rest37
        case hy37 =>
          dsimp only at hS9
          obtain ⟨q0, q1, q2⟩ := hS9
          go_simp
          try with_reducible rfl
        try simp only [Act.put, List.setIfInBounds_toArray, List.set_cons_zero, List.set_cons_succ]
        refine wpAnyH_take (i := 3) (v := ?v38) (by simp only [List.getElem?_toArray, List.getElem?_cons_succ, List.getElem?_cons_zero]; rfl) (by kernel_rfl) (by kernel_rfl) (by kernel_rfl) (by exact fun _ _ _ h => h) (Or.inl ⟨by rfl, fun w9 hS9 => ?hy38⟩) hHeld ?rest38
        case hy38 =>
          dsimp only at hS9
          obtain ⟨q0, q1, q2⟩ := hS9
          go_simp
          try with_reducible rfl
        try simp only [Act.put, List.setIfInBounds_toArray, List.set_cons_zero, List.set_cons_succ]
        refine wpAnyH_take (i := 4) (v := ?v39) (by simp only [List.getElem?_toArray, List.getElem?_cons_succ, List.getElem?_cons_zero]; rfl) (by kernel_rfl) (by kernel_rfl) (by kernel_rfl) (by exact fun _ _ _ h => h) (Or.inl ⟨by rfl, fun w9 hS9 => ?hy39⟩) hHeld ?rest39
        case hy39 =>
          dsimp only at hS9
          obtain ⟨q0, q1, q2⟩ := hS9
          go_simp
          try with_reducible rfl
        try simp only [Act.put, List.setIfInBounds_toArray, List.set_cons_zero, List.set_cons_succ]
        refine wpAnyH_take (i := 5) (v := ?v40) (by simp only [List.getElem?_toArray, List.getElem?_cons_succ, List.getElem?_cons_zero]; rfl) (by kernel_rfl) (by kernel_rfl) (by kernel_rfl) (by exact fun _ _ _ h => h) (Or.inl ⟨by rfl, fun w9 hS9 => ?hy40⟩) hHeld ?rest40
        case hy40 =>
          dsimp only at hS9
          obtain ⟨q0, q1, q2⟩ := hS9
          go_simp
          try with_reducible rfl
        try simp only [Act.put, List.setIfInBounds_toArray, List.set_cons_zero, List.set_cons_succ]
        refine wpAnyH_take (i := 6) (v := ?v41) (by simp only [List.getElem?_toArray, List.getElem?_cons_succ, List.getElem?_cons_zero]; rfl) (by kernel_rfl) (by kernel_rfl) (by kernel_rfl) (by exact fun _ _ _ h => h) (Or.inl ⟨by rfl, fun w9 hS9 => ?hy41⟩) hHeld ?rest41
        case hy41 =>
          dsimp only at hS9
          obtain ⟨q0, q1, q2⟩ := hS9
          go_simp
          try with_reducible rfl
        try simp only [Act.put, List.setIfInBounds_toArray, List.set_cons_zero, List.set_cons_succ]
        refine wpAnyH_take (i := 7) (v := ?v42) (by simp only [List.getElem?_toArray, List.getElem?_cons_succ, List.getElem?_cons_zero]; rfl) (by kernel_rfl) (by kernel_rfl) (by kernel_rfl) (by exact fun _ _ _ h => h) (Or.inl ⟨by rfl, fun w9 hS9 => ?hy42⟩) hHeld ?rest42
        case hy42 =>
          dsimp only at hS9
          obtain ⟨q0, q1, q2⟩ := hS9
          go_simp
          try with_reducible rfl
        try simp only [Act.put, List.setIfInBounds_toArray, List.set_cons_zero, List.set_cons_succ]
        refine wpAnyH_ready (rs := [8]) (by kernel_rfl) (by simp) (AllReadyH.cons (by simp only [List.getElem?_toArray, List.getElem?_cons_succ, List.getElem?_cons_zero]; rfl) (fun K hK => ?_) AllReadyH.nil)
        go_simp
        refine (KE.out _ (HBr.out.trans (HBd.out.mono HBr.out.size))).mono ?_
        rintro e w1 ⟨rfl, hb1⟩
        have HB1 : Hid (Below wr.heap.size wr w1) := Lib.hid (HBd.out.trans (hb1.mono HBd.out.size))
        clear hb1
        go_wp2_with fail
        refine hK.out _ _ ⟨cell_stay CX.out HB1.out, cell_stay CY.out HB1.out, cell_stay CK.out HB1.out⟩ (fun hHeld => ?_)
        clear hK K
        try simp only [Act.put, List.setIfInBounds_toArray, List.set_cons_zero, List.set_cons_succ]
        refine wpAnyH_take (i := 9) (v := ?v43) (by simp only [List.getElem?_toArray, List.getElem?_cons_succ, List.getElem?_cons_zero]; rfl) (by kernel_rfl) (by kernel_rfl) (by kernel_rfl) (by exact fun _ _ _ h => h) (Or.inl ⟨by rfl, fun w9 hS9 => ?hy43⟩) hHeld ?rest43
        case hy43 =>
          dsimp only at hS9
          obtain ⟨q0, q1, q2⟩ := hS9
          go_simp
          try with_reducible rfl
        try simp only [Act.put, List.setIfInBounds_toArray, List.set_cons_zero, List.set_cons_succ]
        refine wpAnyH_take (i := 10) (v := ?v44) (by simp only [List.getElem?_toArray, List.getElem?_cons_succ, List.getElem?_cons_zero]; rfl) (by kernel_rfl) (by kernel_rfl) (by kernel_rfl) (by exact fun _ _ _ h => h) (Or.inl ⟨by rfl, fun w9 hS9 => ?hy44⟩) hHeld ?rest44
        case hy44 =>
          dsimp only at hS9
          obtain ⟨q0, q1, q2⟩ := hS9
          go_simp
          try with_reducible rfl
        try simp only [Act.put, List.setIfInBounds_toArray, List.set_cons_zero, List.set_cons_succ]
        refine wpAnyH_take (i := 11) (v := undef) (by simp only [List.getElem?_toArray, List.getElem?_cons_succ, List.getElem?_cons_zero]; rfl) (by kernel_rfl) (by kernel_rfl) (by kernel_rfl) (by exact fun _ _ _ h => h) (Or.inr ⟨by rfl, rfl⟩) hHeld ?_
        try simp only [Act.put, List.setIfInBounds_toArray, List.set_cons_zero, List.set_cons_succ]
        refine wpAnyH_take (i := 12) (v := undef) (by simp only [List.getElem?_toArray, List.getElem?_cons_succ, List.getElem?_cons_zero]; rfl) (by kernel_rfl) (by kernel_rfl) (by kernel_rfl) (by exact fun _ _ _ h => h) (Or.inr ⟨by rfl, rfl⟩) hHeld ?_
        try simp only [Act.put, List.setIfInBounds_toArray, List.set_cons_zero, List.set_cons_succ]
        refine wpAnyH_take (i := 13) (v := undef) (by simp only [List.getElem?_toArray, List.getElem?_cons_succ, List.getElem?_cons_zero]; rfl) (by kernel_rfl) (by kernel_rfl) (by kernel_rfl) (by exact fun _ _ _ h => h) (Or.inr ⟨by rfl, rfl⟩) hHeld ?_
        try simp only [Act.put, List.setIfInBounds_toArray, List.set_cons_zero, List.set_cons_succ]
        refine wpAnyH_take (i := 14) (v := undef) (by simp only [List.getElem?_toArray, List.getElem?_cons_succ, List.getElem?_cons_zero]; rfl) (by kernel_rfl) (by kernel_rfl) (by kernel_rfl) (by exact fun _ _ _ h => h) (Or.inr ⟨by rfl, rfl⟩) hHeld ?_
        try simp only [Act.put, List.setIfInBounds_toArray, List.set_cons_zero, List.set_cons_succ]
        refine wpAnyH_take (i := 15) (v := undef) (by simp only [List.getElem?_toArray, List.getElem?_cons_succ, List.getElem?_cons_zero]; rfl) (by kernel_rfl) (by kernel_rfl) (by kernel_rfl) (by exact fun _ _ _ h => h) (Or.inr ⟨by rfl, rfl⟩) hHeld ?_
        try simp only [Act.put, List.setIfInBounds_toArray, List.set_cons_zero, List.set_cons_succ]
        refine wpAnyH_take (i := 16) (v := undef) (by simp only [List.getElem?_toArray, List.getElem?_cons_succ, List.getElem?_cons_zero]; rfl) (by kernel_rfl) (by kernel_rfl) (by kernel_rfl) (by exact fun _ _ _ h => h) (Or.inr ⟨by rfl, rfl⟩) hHeld ?_
        try simp only [Act.put, List.setIfInBounds_toArray, List.set_cons_zero, List.set_cons_succ]
        refine wpAnyH_take (i := 17) (v := undef) (by simp only [List.getElem?_toArray, List.getElem?_cons_succ, List.getElem?_cons_zero]; rfl) (by kernel_rfl) (by kernel_rfl) (by kernel_rfl) (by exact fun _ _ _ h => h) (Or.inr ⟨by rfl, rfl⟩) hHeld ?_
        try simp only [Act.put, List.setIfInBounds_toArray, List.set_cons_zero, List.set_cons_succ]
        refine wpAnyH_take (i := 18) (v := ?v52) (by simp only [List.getElem?_toArray, List.getElem?_cons_succ, List.getElem?_cons_zero]; rfl) (by kernel_rfl) (by kernel_rfl) (by kernel_rfl) (by exact fun _ _ _ h => h) (Or.inl ⟨by rfl, fun w9 hS9 => ?hy52⟩) hHeld ?rest52
        case hy52 =>
          dsimp only at hS9
          obtain ⟨q0, q1, q2⟩ := hS9
          go_simp
          try with_reducible rfl
        try simp only [Act.put, List.setIfInBounds_toArray, List.set_cons_zero, List.set_cons_succ]
        refine wpAnyH_done (by kernel_rfl) ?_ _
        go_wp2_with fail
        go_ret
        rw [HE.out]
        exact ⟨rfl, HBr.out.trans (HB1.out.mono HBr.out.size)⟩
    · obtain rfl : j = m := by omega
      have HF : Hid (fitsX x y = true) := Lib.hid (by
        have h1 := HALL.out
        rw [List.take_of_length_le (by rw [hln.out]; omega)] at h1
        exact h1)
      obtain ⟨s0, s1, -⟩ := two_cells HCr.out
      obtain ⟨t0, t1, -⟩ := two_cells HDr.out
      rcases (isH x).eq_false_or_eq_true with hh | hh
      rotate_left
      · rw [hh] at KH
        have HH := Lib.hid hh
        clear hh
        go_wp2_with fail
        refine (KH.out _ HBr.out).mono ?_
        rintro e w2 ⟨rfl, hb2⟩
        have HB2 := Lib.hid (HBr.out.trans (hb2.mono HBr.out.size))
        clear hb2 s0 s1 t0 t1
        go_wp2_with fail
        go_ret
        exact ⟨by rw [HF.out, HH.out]; rfl, HB2.out⟩
      · rw [hh] at KH
        have HH := Lib.hid hh
        clear hh
        rcases (isA y).eq_false_or_eq_true with ha | ha
        rotate_left
        · rw [ha] at KA
          have HA := Lib.hid ha
          clear ha
          go_wp2_with fail
          refine (KH.out _ HBr.out).mono ?_
          rintro e w2 ⟨rfl, hb2⟩
          have HB2 := Lib.hid (HBr.out.trans (hb2.mono HBr.out.size))
          clear s0 s1 t0 t1
          obtain ⟨s0, s1, -⟩ := two_cells ((hb2.block _ (by omega)).trans HCr.out)
          obtain ⟨t0, t1, -⟩ := two_cells ((hb2.block _ hlr).trans HDr.out)
          clear hb2
          go_wp2_with fail
          refine (KA.out _ HB2.out).mono ?_
          rintro e w3 ⟨rfl, hb3⟩
          have HB3 := Lib.hid (HB2.out.trans (hb3.mono HB2.out.size))
          clear hb3 s0 s1 t0 t1
          go_wp2_with fail
          go_ret
          exact ⟨by rw [HF.out, HH.out, HA.out]; rfl, HB3.out⟩
        · rw [ha] at KA
          have HA := Lib.hid ha
          clear ha
          go_wp2_with fail
          refine (KH.out _ HBr.out).mono ?_
          rintro e w2 ⟨rfl, hb2⟩
          have HB2 := Lib.hid (HBr.out.trans (hb2.mono HBr.out.size))
          clear s0 s1 t0 t1
          have HC2 := Lib.hid ((hb2.block _ (by omega)).trans HCr.out)
          have HD2 := Lib.hid ((hb2.block _ hlr).trans HDr.out)
          have hl2 := Nat.lt_of_lt_of_le hlr hb2.size
          obtain ⟨s0, s1, -⟩ := two_cells HC2.out
          obtain ⟨t0, t1, -⟩ := two_cells HD2.out
          clear hb2
          go_wp2_with fail
          refine (KA.out _ HB2.out).mono ?_
          rintro e w3 ⟨rfl, hb3⟩
          have HB3 := Lib.hid (HB2.out.trans (hb3.mono HB2.out.size))
          clear s0 s1 t0 t1
          obtain ⟨s0, s1, -⟩ := two_cells ((hb3.block _ (by omega)).trans HC2.out)
          obtain ⟨t0, t1, -⟩ := two_cells ((hb3.block _ hl2).trans HD2.out)
          clear hb3
          go_wp2_with fail
          refine (KL.out _ HB3.out).mono ?_
          rintro e w4 ⟨rfl, hb4⟩
          have HB4 := Lib.hid (HB3.out.trans (hb4.mono HB3.out.size))
          clear hb4 s0 s1 t0 t1
          go_wp2_with fail
          go_ret
          exact ⟨by rw [HF.out, HH.out, HA.out]; rfl, HB4.out⟩
end Go.Proofs.Ytcpnchjgklemgaa
