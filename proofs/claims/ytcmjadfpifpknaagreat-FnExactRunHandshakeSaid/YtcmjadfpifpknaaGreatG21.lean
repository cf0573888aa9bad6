/- The helpers of the exact laws at hellos and answers: counted, copied, compared. Edits: a kind and a number; their two cells. No function of the program is spoken of. Handshakes under attack: what an edit makes of a hello and of an answer, and the deal that comes about. No function of the program is spoken of. Deals by value: where they lie; the helpers of the exact laws: counted, copied, compared, marked, looked at. -/
import Derived.Test.YtcmjadfpifpknaaGreatG14
import Derived.Test.YtcmjadfpifpknaaGreatG9
import Derived.Test.YtcmjadfpifpknaaGreatG5
import Derived.Test.YtcmjadfpifpknaaGreatG10
import Derived.Test.YtcmjadfpifpknaaGreatG1
import Derived.Test.YtcmjadfpifpknaaGreatG20
import Derived.Test.YtcmjadfpifpknaaGreatG12
namespace Go.Proofs.YtcmjadfpifpknaaGreat
open Go.ChangeShapes Go.WideShapes Go.ChangeAt Go.RowKit
set_option linter.unusedVariables false
set_option linter.unusedSimpArgs false

theorem leftOf_yes {left : Int} {n : Nat} (h : (n : Int) ≤ left) : leftOf left n = left - n := if_pos h
theorem leftOf_no {left : Int} {n : Nat} (h : ¬ (n : Int) ≤ left) : leftOf left n = -1 := if_neg h
theorem threeH (w : World) (A B C : Array Value) (t1 t2 t3 : TypeId) :
    w.heap.size + 3 = (((w.alloc (.cells A t1)).alloc (.cells B t2)).alloc (.cells C t3)).heap.size ∧
    (((w.alloc (.cells A t1)).alloc (.cells B t2)).alloc (.cells C t3)).heap[w.heap.size]? = some (.cells A t1 (0, 0)) ∧
    (((w.alloc (.cells A t1)).alloc (.cells B t2)).alloc (.cells C t3)).heap[w.heap.size + 1]? = some (.cells B t2 (0, 0)) ∧
    (((w.alloc (.cells A t1)).alloc (.cells B t2)).alloc (.cells C t3)).heap[w.heap.size + 2]? = some (.cells C t3 (0, 0)) ∧
    Below w.heap.size w (((w.alloc (.cells A t1)).alloc (.cells B t2)).alloc (.cells C t3)) := by
  obtain ⟨h1, h2, h3, h4⟩ := two w A B t1 t2
  refine ⟨by simp, ?_, ?_, ?_, h4.alloc (by omega) _⟩
  · rw [Below.heap_alloc _ _ _ (by omega)]; exact h2
  · rw [Below.heap_alloc _ _ _ (by omega)]; exact h3
  · have := heap_alloc_new ((w.alloc (.cells A t1)).alloc (.cells B t2)) (.cells C t3)
    rw [← h1] at this
    exact this
theorem set1_inside (w : World) (g o : Nat) (u : Value) : Inside g (g + 1) w (w.setCell ⟨g, o, none⟩ u) :=
  Inside.row (lo := g) (hi := g + 1) (set_grown w g o u) (fun r e => by cases e; exact ⟨Nat.le_refl _, Nat.lt_succ_self _⟩)
theorem setPair_inside (w : World) (g : Nat) (u v : Value) : Inside g (g + 1) w ((w.setCell ⟨g, 0, none⟩ u).setCell ⟨g, 1, none⟩ v) := (set1_inside w g 0 u).trans (set1_inside _ g 1 v)
set_option maxHeartbeats 1000000 in
set_option maxRecDepth 100000 in
theorem szHello_yes {w : World} {v : Value} {x : Hel} (left : Int) (h : HelW w v x) (hle : (x.parts : Int) ≤ left) (hl : left ≤ 1048576) :
    Calls Tryz.prog 21 #[v, .int .i64 left] w (Told (.int .i64 (left - (x.parts : Int))) w) := by
  obtain ⟨va, vn, vc, xa, xn, xc, rfl, g1, g2, g3⟩ := h
  have e1 := g1.len
  have f1 := g1.fits
  have e2 := g2.len
  unfold Hel.parts at hle ⊢
  rw [e1, e2] at hle ⊢
  have HB := Lib.hid (alloc_same w (.cells #[.slice va vn vc, .slice xa xn xc] 52))
  have hC := heap_alloc_new w (.cells #[.slice va vn vc, .slice xa xn xc] 52 (0, 0))
  change (w.alloc (.cells #[.slice va vn vc, .slice xa xn xc] 52)).heap[w.heap.size]? = _ at hC
  have hlt : w.heap.size < (w.alloc (.cells #[.slice va vn vc, .slice xa xn xc] 52)).heap.size := by simp
  have KI := Lib.hid (szIntS_any va vn vc left (w.alloc (.cells #[.slice va vn vc, .slice xa xn xc] 52)) f1 (by omega) hl)
  rw [leftOf_yes (by omega)] at KI
  have KE := Lib.hid (fun w0 (hb : Below w.heap.size w w0) => szExtS_yes xa xn xc x.exts (left - vn) w0 (g2.same hb) (by omega) (by omega))
  rw [show left - ((vn + (xn + itemsOf x.exts) : Nat) : Int) = left - vn - xn - itemsOf x.exts by omega]
  have hn1 : (0 : Int) ≤ left - vn := by omega
  have hn2 : (0 : Int) ≤ left - vn - xn - itemsOf x.exts := by omega
  clear g1 g2 g3 e1 e2 f1
  go_enter Tryz.func21, Tryz.ntmps21
  go_wp2_with fail
  generalize w.alloc (.cells #[.slice va vn vc, .slice xa xn xc] 52) = W0 at *
  refine KI.out.mono ?_
  rintro e w1 ⟨rfl, rfl⟩
  obtain ⟨c0, c1, _, _⟩ := two_cells hC
  clear hC
  go_wp2_with fail
  refine (KE.out _ HB.out).mono ?_
  rintro e w2 ⟨rfl, hb⟩
  have HB2 := Lib.hid (HB.out.trans (hb.mono HB.out.size))
  clear hb c0 c1
  go_wp2_with fail
  go_ret
  exact ⟨rfl, HB2.out⟩
set_option maxHeartbeats 1000000 in
set_option maxRecDepth 100000 in
theorem szHello_no {w : World} {v : Value} {x : Hel} (left : Int) (h : HelW w v x) (hlt0 : left < (x.parts : Int)) (h0 : 0 ≤ left) (hl : left ≤ 1048576) :
    Calls Tryz.prog 21 #[v, .int .i64 left] w (Told (.int .i64 (-1)) w) := by
  obtain ⟨va, vn, vc, xa, xn, xc, rfl, g1, g2, g3⟩ := h
  have e1 := g1.len
  have f1 := g1.fits
  have e2 := g2.len
  unfold Hel.parts at hlt0
  rw [e1, e2] at hlt0
  have HB := Lib.hid (alloc_same w (.cells #[.slice va vn vc, .slice xa xn xc] 52))
  have hC := heap_alloc_new w (.cells #[.slice va vn vc, .slice xa xn xc] 52 (0, 0))
  change (w.alloc (.cells #[.slice va vn vc, .slice xa xn xc] 52)).heap[w.heap.size]? = _ at hC
  have hlt : w.heap.size < (w.alloc (.cells #[.slice va vn vc, .slice xa xn xc] 52)).heap.size := by simp
  have KI := Lib.hid (szIntS_any va vn vc left (w.alloc (.cells #[.slice va vn vc, .slice xa xn xc] 52)) f1 h0 hl)
  by_cases hv : (vn : Int) ≤ left
  · rw [leftOf_yes hv] at KI
    have KE := Lib.hid (fun w0 (hb : Below w.heap.size w w0) => szExtS_no xa xn xc x.exts (left - vn) w0 (g2.same hb) (by omega) (by omega) (by omega))
    have hn1 : (0 : Int) ≤ left - vn := by omega
    clear g1 g2 g3 e1 e2 f1
    go_enter Tryz.func21, Tryz.ntmps21
    go_wp2_with fail
    generalize w.alloc (.cells #[.slice va vn vc, .slice xa xn xc] 52) = W0 at *
    refine KI.out.mono ?_
    rintro e w1 ⟨rfl, rfl⟩
    obtain ⟨c0, c1, _, _⟩ := two_cells hC
    clear hC
    go_wp2_with fail
    refine (KE.out _ HB.out).mono ?_
    rintro e w2 ⟨rfl, hb⟩
    have HB2 := Lib.hid (HB.out.trans (hb.mono HB.out.size))
    clear hb c0 c1
    go_wp2_with fail
    go_ret
    exact ⟨rfl, HB2.out⟩
  · rw [leftOf_no hv] at KI
    clear g1 g2 g3 e1 e2 f1
    go_enter Tryz.func21, Tryz.ntmps21
    go_wp2_with fail
    generalize w.alloc (.cells #[.slice va vn vc, .slice xa xn xc] 52) = W0 at *
    refine KI.out.mono ?_
    rintro e w1 ⟨rfl, rfl⟩
    clear hC
    go_wp2_with fail
    go_ret
    exact ⟨rfl, HB.out⟩
set_option maxHeartbeats 4000000 in
set_option maxRecDepth 100000 in
theorem toHello_any {w : World} {v : Value} {x : Hel} (h : HelW w v x) (hn : x.parts ≤ 1048576000) : Calls Tryz.prog 24 #[v] w (MadeHel w.heap.size x w) := by
  obtain ⟨va, vn, vc, xa, xn, xc, rfl, g1, g2, g3⟩ := h
  have e1 := g1.len
  have e2 := g2.len
  unfold Hel.parts at hn
  rw [e1, e2] at hn
  obtain ⟨hsz, hA, hM, hL, hb0⟩ := threeH w #[.slice va vn vc, .slice xa xn xc] #[.slice none 0 0, .slice none 0 0] #[.slice none 0 0, .slice none 0 0] 52 27 27
  have HB := Lib.hid hb0
  have G := Lib.hid (And.intro g1 g2)
  have KI := Lib.hid (toIntS_any va vn vc x.vers (((w.alloc (.cells #[.slice va vn vc, .slice xa xn xc] 52)).alloc (.cells #[.slice none 0 0, .slice none 0 0] 27)).alloc (.cells #[.slice none 0 0, .slice none 0 0] 27)) (g1.same hb0) (by omega))
  clear g1 g2 g3 hb0 e1 e2
  go_enter Tryz.func24, Tryz.ntmps24
  go_wp2_with fail
  generalize (((w.alloc (.cells #[.slice va vn vc, .slice xa xn xc] 52)).alloc (.cells #[.slice none 0 0, .slice none 0 0] 27)).alloc (.cells #[.slice none 0 0, .slice none 0 0] 27)) = W0 at *
  refine KI.out.mono ?_
  rintro e w1 ⟨q, k, r, rfl, ho, hb⟩
  have HBa := Lib.hid (HB.out.trans (hb.mono HB.out.size))
  have hA1 := (hb.block w.heap.size (by omega)).trans hA
  have hM1 := (hb.block (w.heap.size + 1) (by omega)).trans hM
  have hL1 := (hb.block (w.heap.size + 2) (by omega)).trans hL
  have hs1 := hb.size
  obtain ⟨m0, m1, q0, q1⟩ := two_cells hL1
  obtain ⟨W1, hW1⟩ : ∃ W1, W1 = w1.setCell ⟨w.heap.size + 2, 0, none⟩ (.slice q k r) := ⟨_, rfl⟩
  have hin1 : Inside (w.heap.size + 2) (w.heap.size + 3) w1 W1 := by rw [hW1]; exact set1_inside _ _ _ _
  have hsW : W1.heap.size = w1.heap.size := by rw [hW1]; exact World.size_setCell _ _ _
  have hL2 : W1.heap[w.heap.size + 2]? = some (.cells #[.slice q k r, .slice none 0 0] 27 (0, 0)) := by
    rw [hW1]; exact heap_setCell_same w1 (w.heap.size + 2) 0 _ _ (.slice q k r) hL1
  have hA2 := (hin1.block w.heap.size (by omega) (Or.inl (by omega))).trans hA1
  have hM2 := (hin1.block (w.heap.size + 1) (by omega) (Or.inl (by omega))).trans hM1
  have HO1 := Lib.hid (ho.aside hin1 ho.span (Or.inl (by omega)))
  have HS1 := Lib.hid ho.span
  have HB1 := Lib.hid (hin1.to HBa.out (by omega) HBa.out.size)
  have KE := Lib.hid (toExtS_any xa xn xc x.exts W1 (G.out.2.same HB1.out) (by omega))
  have hA1' := (block_cell hA2 1).trans rfl
  have HM2 := Lib.hid hM2
  have HL2 := Lib.hid hL2
  have hle1 : w.heap.size + 3 ≤ W1.heap.size := by omega
  have hle0 : W0.heap.size ≤ W1.heap.size := by omega
  have HEQ := Lib.hid (And.intro hsz (And.intro hs1 hsW))
  clear hA hM hL hA1 hM1 hL1 hA2 hM2 hL2 ho hb KI hin1
  rw [hW1] at hA1'
  go_wp2_with fail
  rw [← hW1]
  clear hA1' m0 m1 q0 q1 hW1 hsz hs1 hsW
  refine KE.out.mono ?_
  rintro e w2 ⟨p, u, y, rfl, ho, hb⟩
  have HBb := Lib.hid (HB1.out.trans (hb.mono HB1.out.size))
  have hM3 := (hb.block (w.heap.size + 1) (by omega)).trans HM2.out
  have hL3 := (hb.block (w.heap.size + 2) (by omega)).trans HL2.out
  have hs2 := hb.size
  have hsW1 := HEQ.out.2.2
  have HH2 := Lib.hid (own_hel (B := W0.heap.size) (S := w2.heap.size) (HO1.out.same hb) ho.lim HS1.out (Nat.le_refl _) hle0 (by omega) (Nat.le_refl _) (Or.inl (Nat.le_of_eq hsW1.symm)) (Nat.le_refl _))
  obtain ⟨m0, m1, q0, q1⟩ := two_cells hL3
  obtain ⟨W2, hW2⟩ : ∃ W2, W2 = w2.setCell ⟨w.heap.size + 2, 1, none⟩ (.slice p u y) := ⟨_, rfl⟩
  have hin2 : Inside (w.heap.size + 2) (w.heap.size + 3) w2 W2 := by rw [hW2]; exact set1_inside _ _ _ _
  have hsW2 : W2.heap.size = w2.heap.size := by rw [hW2]; exact World.size_setCell _ _ _
  have hL4 : W2.heap[w.heap.size + 2]? = some (.cells #[.slice q k r, .slice p u y] 27 (0, 0)) := by
    rw [hW2]; exact heap_setCell_same w2 (w.heap.size + 2) 1 _ _ (.slice p u y) hL3
  have hM4 := (hin2.block (w.heap.size + 1) (by omega) (Or.inl (by omega))).trans hM3
  have HB2 := Lib.hid (hin2.to HBb.out (by omega) HBb.out.size)
  have HH3 := Lib.hid (HH2.out.aside hin2 (Or.inl (by have := HEQ.out.1; omega)))
  have HEQ2 := Lib.hid (And.intro hsW2 hs2)
  obtain ⟨l0, l1, _, _⟩ := two_cells hL4
  obtain ⟨n0, n1, r0, r1⟩ := two_cells hM4
  obtain ⟨z0, z1, hZ⟩ := two_put hM4 (.slice q k r) (.slice p u y)
  clear hM3 hL3 hL4 hM4 hZ ho hb KE hin2 hs2 hsW1
  rw [hW2] at l0 l1 n0 n1 r0 r1 z0 z1
  go_wp2_with fail
  (try simp only [Exit.inBlock, Exit.then])
  refine bodyPost_ret (by simp [results, Tryz.results24, go_sem, z0, z1]; try rfl) rfl ?_
  rw [← hW2]
  have hfin := (HH3.out.aside (setPair_inside W2 (w.heap.size + 1) (.slice q k r) (.slice p u y)) (Or.inl (by have := HEQ.out.1; omega))).lower (B' := w.heap.size) (by have := HEQ.out.1; omega)
  have hfs : ((W2.setCell ⟨w.heap.size + 1, 0, none⟩ (.slice q k r)).setCell ⟨w.heap.size + 1, 1, none⟩ (.slice p u y)).heap.size = w2.heap.size := by rw [World.size_setCell, World.size_setCell]; exact HEQ2.out.1
  exact ⟨_, rfl, by rw [hfs]; exact hfin, (HB2.out.setCell (Nat.le_succ _) _).setCell (Nat.le_succ _) _⟩
set_option maxHeartbeats 1000000 in
set_option maxRecDepth 100000 in
theorem eqHello_yes {w : World} {v v' : Value} {x : Hel} (h : HelW w v x) (h' : HelW w v' x) : Calls Tryz.prog 28 #[v, v'] w (Told (.bool true) w) := by
  obtain ⟨va, vn, vc, xa, xn, xc, rfl, g1, g2, g3⟩ := h
  obtain ⟨va', vn', vc', xa', xn', xc', rfl, k1, k2, k3⟩ := h'
  obtain ⟨hsz, hC, hD, hb0⟩ := two w #[.slice va vn vc, .slice xa xn xc] #[.slice va' vn' vc', .slice xa' xn' xc'] 27 27
  have HB := Lib.hid hb0
  have KE := Lib.hid (fun w0 (hb : Below w.heap.size w w0) => eqExtS_yes xa xa' xn xn' xc xc' x.exts w0 (g2.same hb) (k2.same hb))
  have KI := Lib.hid (fun w0 (hb : Below w.heap.size w w0) => eqIntS_yes va va' vn vn' vc vc' x.vers w0 (g1.same hb) (k1.same hb))
  clear g1 k1 g2 k2 g3 k3 hb0
  go_enter Tryz.func28, Tryz.ntmps28
  go_wp2_with fail
  generalize ((w.alloc (.cells #[.slice va vn vc, .slice xa xn xc] 27)).alloc (.cells #[.slice va' vn' vc', .slice xa' xn' xc'] 27)) = W0 at *
  refine (KI.out _ HB.out).mono ?_
  rintro e w1 ⟨rfl, hb⟩
  have HB1 := Lib.hid (HB.out.trans (hb.mono HB.out.size))
  obtain ⟨c0, c1, _, _⟩ := two_cells ((hb.block w.heap.size (by omega)).trans hC)
  obtain ⟨d0, d1, _, _⟩ := two_cells ((hb.block (w.heap.size + 1) (by omega)).trans hD)
  clear hb hC hD
  go_wp2_with fail
  refine (KE.out _ HB1.out).mono ?_
  rintro e w2 ⟨rfl, hb⟩
  have HB2 := Lib.hid (HB1.out.trans (hb.mono HB1.out.size))
  clear hb
  go_wp2_with fail
  go_ret
  exact ⟨rfl, HB2.out⟩
end Go.Proofs.YtcmjadfpifpknaaGreat
namespace Go.Proofs.YtcmjadfpifpknaaGreat
open Go.ChangeShapes Go.WideShapes Go.ChangeAt Go.RowKit
set_option linter.unusedVariables false

structure Et where
  kind : Int
  n : Int
instance : Inhabited Et := ⟨⟨0, 0⟩⟩
def Et.enc (x : Et) : List Value := [.int .i64 x.kind, .int .i64 x.n]
def Et.val (x : Et) : Value := .agg #[.int .i64 x.kind, .int .i64 x.n]
def Et.wf (x : Et) : Prop := (Lit.int .i64 x.kind).wf = true ∧ (Lit.int .i64 x.n).wf = true
theorem Et.enc_len (x : Et) : x.enc.length = 2 := rfl
theorem Et.cells (x : Et) : ∀ u ∈ x.enc, u.oneCell' = true := by
  intro u hu
  simp only [Et.enc, List.mem_cons, List.not_mem_nil, or_false] at hu
  rcases hu with rfl | rfl <;> rfl
abbrev Ets := Items Et.enc 2
abbrev OwnEt := OwnI Et.enc 2
theorem ets_at {w : World} {a : Option Addr} {n : Nat} {l : List Et} (h : Ets w a n l) {j : Nat} (hj : j < n) : ∃ b o x, a = some ⟨b, o, none⟩ ∧ l[j]? = some x ∧
    w.cell? ⟨b, o + j * 2, none⟩ = some (.int .i64 x.kind) ∧ w.cell? ⟨b, o + j * 2 + 1, none⟩ = some (.int .i64 x.n) := by
  obtain ⟨b, o, x, e, hl, hx⟩ := h.at_ hj
  exact ⟨b, o, x, e, hl, hx 0 _ rfl, hx 1 _ rfl⟩
end Go.Proofs.YtcmjadfpifpknaaGreat
namespace Go.Proofs.YtcmjadfpifpknaaGreat
open Go.ChangeShapes Go.WideShapes Go.ChangeAt Go.RowKit
set_option linter.unusedVariables false

structure Dl where
  ok : Bool
  ver : Int
  tags : List Int
def noD : Dl := ⟨false, 0, []⟩
def dropX (t : Int) (l : List Vl) : List Vl := whX (fun k => decide (¬ k = t)) l
def addE (t : Int) (l : List Vl) : List Vl := if areX (l ++ [⟨t, []⟩]) = true then l ++ [⟨t, []⟩] else l
def edH (x : Hel) (e : Et) : Hel :=
  if e.kind = 1 then ⟨dropV x.vers e.n, x.exts⟩ else if e.kind = 2 then ⟨addV x.vers e.n, x.exts⟩ else if e.kind = 3 then ⟨x.vers, dropX e.n x.exts⟩ else if e.kind = 6 then ⟨x.vers, addE e.n x.exts⟩ else x
def setV (t : Int) (v : Int) : Int := if inBd t 1 9 = true then t else v
def edA (x : Ans) (e : Et) : Ans :=
  if e.kind = 4 then ⟨setV e.n x.ver, x.exts⟩ else if e.kind = 5 then ⟨x.ver, dropX e.n x.exts⟩ else x
def edHs (x : Hel) (es : List Et) : Hel := es.foldl edH x
def edAs (x : Ans) (es : List Et) : Ans := es.foldl edA x
theorem edHs_zero (x : Hel) (es : List Et) : edHs x (es.take 0) = x := rfl
theorem edAs_zero (x : Ans) (es : List Et) : edAs x (es.take 0) = x := rfl
theorem edHs_step {x : Hel} {es : List Et} {j : Nat} {e : Et} (h : es[j]? = some e) : edHs x (es.take (j + 1)) = edH (edHs x (es.take j)) e := by
  unfold edHs; rw [List.take_add_one, h]; simp
theorem edAs_step {x : Ans} {es : List Et} {j : Nat} {e : Et} (h : es[j]? = some e) : edAs x (es.take (j + 1)) = edA (edAs x (es.take j)) e := by
  unfold edAs; rw [List.take_add_one, h]; simp
theorem dropX_few (t : Int) (l : List Vl) : (dropX t l).length ≤ l.length := wh_few _ l
theorem dropX_items (t : Int) (l : List Vl) : itemsOf (dropX t l) ≤ itemsOf l := wh_items _ l
theorem items_app (l m : List Vl) : itemsOf (l ++ m) = itemsOf l + itemsOf m := by simp [itemsOf]
theorem items_none (t : Int) : itemsOf [⟨t, []⟩] = 0 := rfl
theorem addE_few (t : Int) (l : List Vl) : (addE t l).length ≤ l.length + 1 ∧ itemsOf (addE t l) = itemsOf l := by
  unfold addE
  split
  · rw [items_app, items_none]; simp
  · exact ⟨Nat.le_succ _, rfl⟩
theorem addE_yes {t : Int} {l : List Vl} (h : areX (l ++ [⟨t, []⟩]) = true) : addE t l = l ++ [⟨t, []⟩] := if_pos h
theorem addE_no {t : Int} {l : List Vl} (h : areX (l ++ [⟨t, []⟩]) = false) : addE t l = l := if_neg (by rw [h]; decide)
theorem edH_few (x : Hel) (e : Et) : (edH x e).vers.length ≤ x.vers.length + 9 ∧ (edH x e).exts.length ≤ x.exts.length + 1 ∧ itemsOf (edH x e).exts ≤ itemsOf x.exts := by
  unfold edH
  have h1 : (dropV x.vers e.n).length ≤ x.vers.length + 9 := by
    unfold dropV; split
    · have := lw_len (word x.vers &&& (511 ^^^ 2 ^ (e.n.toNat - 1))); omega
    · omega
  have h2 : (addV x.vers e.n).length ≤ x.vers.length + 9 := by
    unfold addV; split
    · have := lw_len (word x.vers ||| 2 ^ (e.n.toNat - 1)); omega
    · omega
  have h3 := dropX_few e.n x.exts
  have h4 := dropX_items e.n x.exts
  have h5 := addE_few e.n x.exts
  split
  · dsimp only; omega
  · split
    · dsimp only; omega
    · split
      · dsimp only; omega
      · split
        · dsimp only; omega
        · omega
theorem edA_few (x : Ans) (e : Et) : (edA x e).exts.length ≤ x.exts.length ∧ itemsOf (edA x e).exts ≤ itemsOf x.exts := by
  unfold edA
  have h3 := dropX_few e.n x.exts
  have h4 := dropX_items e.n x.exts
  split
  · exact ⟨Nat.le_refl _, Nat.le_refl _⟩
  · split
    · exact ⟨h3, h4⟩
    · exact ⟨Nat.le_refl _, Nat.le_refl _⟩
theorem t_dropv : ∀ w : Fin 512, ∀ j : Fin 9, w.val.testBit j.val = true → (lw w.val).length ≠ 1 → word (lw (w.val &&& (511 ^^^ 2 ^ j.val))) ≠ 0 := by decide +kernel
theorem dropV_are {l : List Int} (v : Int) (h : word l ≠ 0) : word (dropV l v) ≠ 0 := by
  by_cases hm : v ∈ l
  · by_cases h1 : l.length = 1
    · rw [(dropV_no (fun q => q.2.2 h1)).2]; exact h
    · have hr := in_range h hm
      rw [(dropV_yes h hm h1).2]
      refine t_dropv ⟨word l, word_lt l⟩ ⟨v.toNat - 1, bit_lt hr⟩ ?_ ?_
      · have := lw_mem (w := word l) (x := v)
        rw [lw_word h] at this
        exact (this.1 hm).2
      · rw [lw_word h]; exact h1
  · rw [(dropV_no (fun q => hm q.2.1)).2]; exact h
theorem addV_are {l : List Int} (v : Int) (h : word l ≠ 0) : word (addV l v) ≠ 0 := by
  by_cases hc : (1 ≤ v ∧ v ≤ 9) ∧ ¬ v ∈ l
  · rw [(addV_yes h hc.1 hc.2).2, word_of (or_lt (word_lt l) hc.1)]
    exact or_pos
  · rw [(addV_no (fun q => hc q.2)).2]; exact h
theorem edH_is {x : Hel} (e : Et) (h : isH x = true) : isH (edH x e) = true := by
  obtain ⟨h1, h2⟩ := isH_parts.1 h
  unfold edH
  split
  · exact isH_parts.2 ⟨dropV_are e.n h1, h2⟩
  · split
    · exact isH_parts.2 ⟨addV_are e.n h1, h2⟩
    · split
      · exact isH_parts.2 ⟨h1, areX_filter _ h2⟩
      · split
        · refine isH_parts.2 ⟨h1, ?_⟩
          dsimp only
          cases hA : areX (x.exts ++ [⟨e.n, []⟩]) with
          | true => rw [addE_yes hA]; exact hA
          | false => rw [addE_no hA]; exact h2
        · exact h
theorem edA_is {x : Ans} (e : Et) (h : isA x = true) : isA (edA x e) = true := by
  obtain ⟨h1, h2⟩ := isA_parts.1 h
  unfold edA
  split
  · refine isA_parts.2 ⟨?_, h2⟩
    dsimp only
    unfold setV
    split
    · next q => exact inBd_iff.1 q
    · exact h1
  · split
    · exact isA_parts.2 ⟨h1, areX_filter _ h2⟩
    · exact h
theorem edHs_is {x : Hel} (h : isH x = true) : ∀ es : List Et, isH (edHs x es) = true := by
  intro es
  induction es generalizing x with
  | nil => exact h
  | cons e t ih => exact ih (edH_is e h)
theorem edAs_is {x : Ans} (h : isA x = true) : ∀ es : List Et, isA (edAs x es) = true := by
  intro es
  induction es generalizing x with
  | nil => exact h
  | cons e t ih => exact ih (edA_is e h)
theorem isH_few {x : Hel} (h : isH x = true) : x.vers.length ≤ 9 ∧ x.exts.length ≤ 6 ∧ itemsOf x.exts ≤ 24 := by
  obtain ⟨h1, h2⟩ := isH_parts.1 h
  exact ⟨(areV_len h1).1, areX_few h2⟩
theorem isA_few {x : Ans} (h : isA x = true) : x.exts.length ≤ 6 ∧ itemsOf x.exts ≤ 24 := areX_few (isA_parts.1 h).2
/-- The deal of a handshake. -/
def dealP (key : Int) (x y : Hel) (a b : Ans) : Dl := if fitsA x b = true ∧ chkP key [helB x, ansB b] 1 (finP key [helB y, ansB a] 1) = true then ⟨true, b.ver, tagsX b.exts⟩ else noD
def runH (x : Hel) (vs ts : List Int) (key : Int) (es : List Et) : Dl :=
  if isH x = true ∧ es.length ≤ 6 then
    match chA vs ts (edHs x es) with
    | none => noD
    | some a => dealP key x (edHs x es) a (edAs a es)
  else noD
theorem runH_no {x : Hel} {vs ts : List Int} {key : Int} {es : List Et} (h : isH x = false ∨ 6 < es.length) : runH x vs ts key es = noD := if_neg (fun q => by
  rcases h with h | h
  · rw [h] at q; cases q.1
  · have := q.2; omega)
theorem runH_none {x : Hel} {vs ts : List Int} {key : Int} {es : List Et} (h : chA vs ts (edHs x es) = none) : runH x vs ts key es = noD := by
  unfold runH; rw [h]; split <;> rfl
theorem runH_some {x : Hel} {vs ts : List Int} {key : Int} {es : List Et} {a : Ans} (h0 : isH x = true) (h1 : es.length ≤ 6) (h : chA vs ts (edHs x es) = some a) : runH x vs ts key es = dealP key x (edHs x es) a (edAs a es) := by
  unfold runH; rw [if_pos ⟨h0, h1⟩, h]
theorem dealP_few (key : Int) (x y : Hel) (a b : Ans) (h : isA b = true) : (dealP key x y a b).tags.length ≤ 6 := by
  unfold dealP
  split
  · dsimp only; rw [tagsX_len]; exact (isA_few h).1
  · simp [noD]
theorem chA_is {vs ts : List Int} {x : Hel} {a : Ans} (h : chA vs ts x = some a) : isA a = true := by
  have h1 := (ch_fits h).1
  unfold fitsA at h1
  cases e : isA a with
  | true => rfl
  | false => rw [e] at h1; simp at h1
theorem runH_few (x : Hel) (vs ts : List Int) (key : Int) (es : List Et) : (runH x vs ts key es).tags.length ≤ 6 := by
  unfold runH
  split
  · split
    · simp [noD]
    · next a h => exact dealP_few _ _ _ _ _ (edAs_is (chA_is h) es)
  · simp [noD]
end Go.Proofs.YtcmjadfpifpknaaGreat
namespace Go.Proofs.YtcmjadfpifpknaaGreat
open Go.ChangeShapes Go.WideShapes Go.ChangeAt Go.RowKit
set_option linter.unusedVariables false
set_option linter.unusedSimpArgs false

def Dl.parts (x : Dl) : Nat := x.tags.length
/-- A value is this deal. -/
def DlW (w : World) (v : Value) (x : Dl) : Prop :=
  ∃ (a : Option Addr) (n c : Nat), v = .agg #[.bool x.ok, .int .i64 x.ver, .slice a n c] ∧ Nums .i64 w a n x.tags ∧ n ≤ c ∧ (c : Int) ≤ 9223372036854775807
/-- A value is this deal, its tags in blocks of the call's own, all below S. -/
def OwnDl (S : Nat) (w : World) (B : Nat) (v : Value) (x : Dl) : Prop :=
  ∃ (a : Option Addr) (n c lo hi : Nat), v = .agg #[.bool x.ok, .int .i64 x.ver, .slice a n c] ∧ Own .i64 3 w lo a n c x.tags ∧ Span a lo hi ∧ B ≤ lo ∧ hi ≤ S ∧ S ≤ w.heap.size
def MadeDl (B : Nat) (x : Dl) (w : World) (e : Ending) (w' : World) : Prop := ∃ v, e = .returned v ∧ OwnDl w'.heap.size w' B v x ∧ Below B w w'
section
variable {S S' B B' lo hi : Nat} {w w' : World} {v : Value} {x : Dl}
theorem DlW.same (h : DlW w v x) (hb : Below w.heap.size w w') : DlW w' v x := by
  obtain ⟨a, n, c, e, h1, h2⟩ := h
  exact ⟨a, n, c, e, h1.same hb, h2⟩
theorem DlW.shape (h : DlW w v x) : ∃ (a : Option Addr) (n c : Nat), v = .agg #[.bool x.ok, .int .i64 x.ver, .slice a n c] := by
  obtain ⟨a, n, c, e, _⟩ := h
  exact ⟨a, n, c, e⟩
theorem OwnDl.dl (h : OwnDl S w B v x) : DlW w v x := by
  obtain ⟨a, n, c, l, k, e, h1, _⟩ := h
  exact ⟨a, n, c, e, h1.nums, h1.room⟩
theorem OwnDl.shape (h : OwnDl S w B v x) : ∃ (a : Option Addr) (n c : Nat), v = .agg #[.bool x.ok, .int .i64 x.ver, .slice a n c] := h.dl.shape
theorem OwnDl.same (h : OwnDl S w B v x) (hb : Below w.heap.size w w') : OwnDl S w' B v x := by
  obtain ⟨a, n, c, l, k, e, h1, h2, h3, h4, h5⟩ := h
  exact ⟨a, n, c, l, k, e, h1.same hb, h2, h3, h4, Nat.le_trans h5 hb.size⟩
theorem OwnDl.lower (h : OwnDl S w B v x) (hB : B' ≤ B) : OwnDl S w B' v x := by
  obtain ⟨a, n, c, l, k, e, h1, h2, h3, h4, h5⟩ := h
  exact ⟨a, n, c, l, k, e, h1, h2, by omega, h4, h5⟩
theorem OwnDl.aside (h : OwnDl S w B v x) (hg : Inside lo hi w w') (hd : hi ≤ B ∨ S ≤ lo) : OwnDl S w' B v x := by
  obtain ⟨a, n, c, l, k, e, h1, h2, h3, h4, h5⟩ := h
  exact ⟨a, n, c, l, k, e, h1.aside hg h2 (by omega), h2, h3, h4, Nat.le_trans h5 hg.size⟩
theorem OwnDl.top (h : OwnDl S w B v x) (hS : S ≤ S') (hw : S' ≤ w.heap.size) : OwnDl S' w B v x := by
  obtain ⟨a, n, c, l, k, e, h1, h2, h3, h4, h5⟩ := h
  exact ⟨a, n, c, l, k, e, h1, h2, h3, by omega, hw⟩
theorem OwnDl.len (h : OwnDl S w B v x) : x.tags.length ≤ 9223372036854775807 := by
  obtain ⟨a, n, c, l, k, e, h1, _⟩ := h
  have := h1.len
  have := h1.room
  omega
end
theorem own_dl {w : World} {B S lo hi n c : Nat} {a : Option Addr} {k : Int} {o : Bool} {l : List Int} (h1 : Own .i64 3 w lo a n c l) (h3 : Span a lo hi) (h4 : B ≤ lo) (h6 : hi ≤ S) (h9 : S ≤ w.heap.size) : OwnDl S w B (.agg #[.bool o, .int .i64 k, .slice a n c]) ⟨o, k, l⟩ :=
  ⟨a, n, c, lo, hi, rfl, h1, h3, h4, h6, h9⟩
theorem no_dl {w : World} {B : Nat} (hB : B ≤ w.heap.size) : OwnDl w.heap.size w B (.agg #[.bool false, .int .i64 0, .slice none 0 0]) noD :=
  own_dl (lo := B) (hi := B) Own.nil Span.none (Nat.le_refl _) hB (Nat.le_refl _)
theorem deal_cells {w : World} {g : Nat} {t : TypeId} {a b c : Value} (h : w.heap[g]? = some (.cells #[a, b, c] t (0, 0))) : w.cell? ⟨g, 0, none⟩ = some a ∧ w.cell? ⟨g, 1, none⟩ = some b ∧ w.cell? ⟨g, 2, none⟩ = some c ∧ w.frozen? ⟨g, 0, none⟩ = false ∧ w.frozen? ⟨g, 1, none⟩ = false ∧ w.frozen? ⟨g, 2, none⟩ = false :=
  ⟨(block_cell h 0).trans rfl, (block_cell h 1).trans rfl, (block_cell h 2).trans rfl, block_frozen h 0, block_frozen h 1, block_frozen h 2⟩
theorem deal_put {w : World} {g : Nat} {t : TypeId} {a b c : Value} (h : w.heap[g]? = some (.cells #[a, b, c] t (0, 0))) (x y z : Value) :
    (w.setCell ⟨g, 0, none⟩ x).cell? ⟨g, 0, none⟩ = some x ∧ ((w.setCell ⟨g, 0, none⟩ x).setCell ⟨g, 1, none⟩ y).cell? ⟨g, 1, none⟩ = some y ∧ (((w.setCell ⟨g, 0, none⟩ x).setCell ⟨g, 1, none⟩ y).setCell ⟨g, 2, none⟩ z).cell? ⟨g, 2, none⟩ = some z ∧ (((w.setCell ⟨g, 0, none⟩ x).setCell ⟨g, 1, none⟩ y).setCell ⟨g, 2, none⟩ z).heap[g]? = some (.cells #[x, y, z] t (0, 0)) := by
  have h1 := heap_setCell_same w g 0 _ _ x h
  have h2 := heap_setCell_same _ g 1 _ _ y h1
  have h3 := heap_setCell_same _ g 2 _ _ z h2
  exact ⟨(block_cell h1 0).trans rfl, (block_cell h2 1).trans rfl, (block_cell h3 2).trans rfl, h3⟩
theorem deal_inside (w : World) (g : Nat) (x y z : Value) : Inside g (g + 1) w (((w.setCell ⟨g, 0, none⟩ x).setCell ⟨g, 1, none⟩ y).setCell ⟨g, 2, none⟩ z) := ((set1_inside w g 0 x).trans (set1_inside _ g 1 y)).trans (set1_inside _ g 2 z)
set_option maxHeartbeats 4000000 in
set_option maxRecDepth 100000 in
theorem eqDeal_yes {w : World} {v v' : Value} {x : Dl} (h : DlW w v x) (h' : DlW w v' x) : Calls Tryz.prog 27 #[v, v'] w (Told (.bool true) w) := by
  obtain ⟨a, n, c, rfl, h1, h2⟩ := h
  obtain ⟨b, m, d, rfl, h3, h4⟩ := h'
  have HB := Lib.hid (((Below.refl _ w).alloc (Nat.le_refl _) (.cells #[.bool x.ok, .int .i64 x.ver, .slice a n c] 32)).alloc (by simp) (.cells #[.bool x.ok, .int .i64 x.ver, .slice b m d] 32))
  have HK := Lib.hid (eqIntS_yes a b n m c d x.tags ((w.alloc (.cells #[.bool x.ok, .int .i64 x.ver, .slice a n c] 32)).alloc (.cells #[.bool x.ok, .int .i64 x.ver, .slice b m d] 32)) (h1.same HB.out) (h3.same HB.out))
  have hbo : (x.ok != x.ok) = false := by simp
  clear h1 h2 h3 h4
  go_enter Tryz.func27, Tryz.ntmps27
  go_wp2_with fail
  refine HK.out.mono ?_
  rintro e w1 ⟨rfl, hb⟩
  have HB2 := Lib.hid (HB.out.trans (hb.mono HB.out.size))
  clear hb
  go_wp2_with fail
  go_ret
  exact ⟨rfl, HB2.out⟩
/-- The marks that are laid on a deal. -/
def marksDl (k : Nat) (x : Dl) : Dl := ⟨x.ok, x.ver, marksIntS k x.tags.length⟩
set_option maxHeartbeats 4000000 in
set_option maxRecDepth 100000 in
theorem markDeal_any {S B k : Nat} {w : World} {v : Value} {x : Dl} (h : OwnDl S w B v x) (hk : k ≤ 1000000000) (hn : x.parts ≤ 1000000000) :
    Calls Tryz.prog 34 #[v, .int .i64 k] w fun e w' => e = .returned (.int .i64 ((k + x.parts : Nat) : Int)) ∧ OwnDl S w' B v (marksDl k x) ∧ Inside B S w w' := by
  obtain ⟨a, n, c, lo, hi, rfl, h1, h2, h3, h4, h5⟩ := h
  have e1 := h1.len
  unfold Dl.parts at hn ⊢
  unfold marksDl
  rw [e1] at hn ⊢
  have HB := Lib.hid (alloc_same w (.cells #[.bool x.ok, .int .i64 x.ver, .slice a n c] 32))
  have HK := Lib.hid (markIntS_any lo a n c k x.tags _ (h1.same HB.out) (by omega) (by omega))
  clear h1 e1
  go_enter Tryz.func34, Tryz.ntmps34
  go_wp2_with fail
  refine HK.out.mono ?_
  rintro e w1 ⟨rfl, ho, hg⟩
  have HO := Lib.hid ho
  have HG : Hid (Inside lo hi (w.alloc (.cells #[.bool x.ok, .int .i64 x.ver, .slice a n c] 32)) w1) := Lib.hid (Inside.row hg fun r e => by obtain ⟨ad, e1, rfl⟩ := block_of e; exact h2 ad e1)
  clear ho hg HK
  go_wp2_with fail
  go_ret
  have hs := HB.out.size
  exact ⟨rfl, ⟨a, n, c, lo, hi, rfl, HO.out, h2, h3, h4, Nat.le_trans h5 (Nat.le_trans hs HG.out.size)⟩, ⟨HG.out.os.trans HB.out.os, HG.out.tape.trans HB.out.tape, HG.out.output.trans HB.out.output, Nat.le_trans hs HG.out.size, fun q hq hd => (HG.out.block q (by omega) (by omega)).trans (HB.out.block q hq)⟩⟩
set_option maxHeartbeats 4000000 in
set_option maxRecDepth 100000 in
theorem heldDeal_any {k : Nat} {w : World} {v : Value} {x : Dl} (h : DlW w v (marksDl k x)) (hk : k ≤ 1000000000) (hn : x.parts ≤ 1000000000) :
    Calls Tryz.prog 35 #[v, .int .i64 k] w (Told (.int .i64 ((k + x.parts : Nat) : Int)) w) := by
  obtain ⟨a, n, c, rfl, h1, h2⟩ := h
  unfold marksDl at *
  dsimp only at *
  have e1 := h1.len
  rw [marksIntS_len] at e1
  unfold Dl.parts at hn ⊢
  rw [e1] at hn ⊢
  rw [e1] at h1
  have HB := Lib.hid (alloc_same w (.cells #[.bool x.ok, .int .i64 x.ver, .slice a n c] 32))
  have HK := Lib.hid (heldIntS_any a n c k _ (h1.same HB.out) (by omega) (by omega))
  clear h1
  go_enter Tryz.func35, Tryz.ntmps35
  go_wp2_with fail
  refine HK.out.mono ?_
  rintro e w1 ⟨rfl, hb⟩
  have HB2 := Lib.hid (HB.out.trans (hb.mono HB.out.size))
  have hk0 : (0 : Int) ≤ ((k + n : Nat) : Int) := by omega
  clear hb
  go_wp2_with fail
  go_ret
  exact ⟨rfl, HB2.out⟩
end Go.Proofs.YtcmjadfpifpknaaGreat
