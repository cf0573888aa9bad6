/- Two machines that are being drawn: one that stays, one in a box that is changed. No function of the program is spoken of. The helpers of the exact laws at lists of moves: copied, compared. -/
import Derived.Test.YtckmgbobkffabaaGreatG7
import Derived.Test.YtckmgbobkffabaaGreatG5
import Derived.Deep.QuietTactic
import Derived.BigQuiet
import Derived.RegionTactic
import Derived.StillTailTactics
import Derived.Handy
import Derived.Test.YtckmgbobkffabaaGreatG1
namespace Go.Proofs.YtckmgbobkffabaaGreat
open Go.ChangeShapes Go.WideShapes Go.ChangeAt Go.RowKit
set_option linter.unusedVariables false

theorem Inside.of_only {b : Nat} {w w' : World} (h : Only b w w') : Inside b (b + 1) w w' := ⟨h.os, h.tape, h.output, h.size, fun k hk hd => h.block k hk (by omega)⟩
theorem Inside.of_below {S : Nat} {w w' : World} (h : Below S w w') : Inside S w.heap.size w w' := ⟨h.os, h.tape, h.output, h.size, fun k hk hd => by
 rcases hd with hd | hd
 ·exact h.block k hd
 ·omega⟩
theorem OwnMac.onlyC {S b : Nat} {w w' : World} {B : Nat} {v : Value} {x : Mac} (h : OwnMac S w B v x) (ho : Only b w w') (hb : b < B) : OwnMac S w' B v x := h.aside (Inside.of_only ho) (Or.inl hb)
theorem OwnMac.belowS {S S' : Nat} {w w' : World} {B : Nat} {v : Value} {x : Mac} (h : OwnMac S w B v x) (ho : Below S' w w') (hS : S ≤ S') : OwnMac S w' B v x := h.aside (Inside.of_below ho) (Or.inr hS)
/-- What a drawn machine of a pair keeps to. -/
def OkP (x : Mac) : Prop := x.ends.length ≤ 6 ∧ x.moves.length ≤ 12 ∧ ∀ z ∈ x.moves, I64 z.msg ∧ I64 z.to
theorem OkMac.p {x : Mac} (h : OkMac x) : OkP x := ⟨by have := h.1; omega, by have := h.2.1; omega, h.2.2⟩
theorem OkP.wmv {x : Mac} (h : OkP x) : ∀ z ∈ x.moves, (Lit.int .i64 z.msg).wf = true ∧ (Lit.int .i64 z.to).wf = true := fun z hz => ⟨WalkArith.wf_i64 (h.2.2 z hz).1, WalkArith.wf_i64 (h.2.2 z hz).2⟩
/-- While the second machine of a pair is changed: j changes may be to come. -/
def OnP (x : Mac) (j : Nat) : Prop := (1 ≤ x.st ∧ x.st ≤ 4) ∧ x.ends.length ≤ 4 ∧ x.moves.length + j ≤ 10 ∧ ∀ z ∈ x.moves, I64 z.msg ∧ I64 z.to
theorem OnP.p {x : Mac} {j : Nat} (h : OnP x j) : OkP x := ⟨by have := h.2.1; omega, by have := h.2.2.1; omega, h.2.2.2⟩
/-- The first machine, its box, the second machine in its box, the cursor. -/
structure St (b : Nat) (a : Option Addr) (n c : Nat) (WA : World) (A0 SA GA SB GB : Nat) (ca : Array Value) (xa : Mac) (wr : World) (x : Mac) (p : Option Addr) (k r : Nat) (q : Option Addr) (m d : Nat) : Prop where
 box : BoxM SB wr GB x p k r q m d
 own : OwnMac SA wr A0 (.agg ca) xa
 ga : wr.heap[GA]? = some (.cells ca 27 (0, 0))
 dr : Drawn b a n c WA wr
 cu : Curs WA b a n c
 c1 : b < WA.heap.size
 c2 : WA.heap.size ≤ A0
 c3 : A0 ≤ SA
 c4 : SA ≤ GA
 c5 : GA < SB
section
variable {b : Nat} {a : Option Addr} {n c : Nat} {WA : World} {A0 SA GA SB GB : Nat} {ca : Array Value} {xa : Mac} {wr w' : World} {x : Mac} {p : Option Addr} {k r : Nat} {q : Option Addr} {m d : Nat}
theorem St.only (h : St b a n c WA A0 SA GA SB GB ca xa wr x p k r q m d) (hd : Drawn b a n c wr w') : St b a n c WA A0 SA GA SB GB ca xa w' x p k r q m d := by
 have h1 := h.c1
 have h2 := h.c2
 have h3 := h.c3
 have h4 := h.c4
 have h5 := h.c5
 exact ⟨h.box.only hd.2 (by omega), h.own.onlyC hd.2 (by omega), (hd.2.block GA (Array.getElem?_eq_some_iff.1 h.ga).1 (by omega)).trans h.ga, h.dr.trans hd, h.cu, h1, h2, h3, h4, h5⟩
theorem St.same (h : St b a n c WA A0 SA GA SB GB ca xa wr x p k r q m d) (hb : Below wr.heap.size wr w') : St b a n c WA A0 SA GA SB GB ca xa w' x p k r q m d :=
 ⟨h.box.same hb, h.own.same hb, (hb.block GA (Array.getElem?_eq_some_iff.1 h.ga).1).trans h.ga, h.dr.same hb, h.cu, h.c1, h.c2, h.c3, h.c4, h.c5⟩
theorem St.mod (h : St b a n c WA A0 SA GA SB GB ca xa wr x p k r q m d) {x' : Mac} {p' : Option Addr} {k' r' : Nat} {q' : Option Addr} {m' d' : Nat} (hX : BoxM SB w' GB x' p' k' r' q' m' d') (hb : Below SB wr w') : St b a n c WA A0 SA GA SB GB ca xa w' x' p' k' r' q' m' d' := by
 have h1 := h.c1
 have h2 := h.c2
 have h3 := h.c3
 have h4 := h.c4
 have h5 := h.c5
 exact ⟨hX, h.own.belowS hb (by omega), (hb.block GA h5).trans h.ga, h.dr.under h.cu hb (by omega), h.cu, h1, h2, h3, h4, h5⟩
/-- A list of moves that was made anew takes the place of the old one. -/
theorem BoxM.newM {B G : Nat} {w w5 : World} (h : BoxM B w G x p k r q m d) (hb : Below w.heap.size w w5) {g y m' : Nat} {l : List Mv} (ho : OwnM 43 w5 B (some ⟨g, 0, none⟩) m' y l) (hg : w.heap.size ≤ g) :
  BoxM B (w5.setCell ⟨G, 2, none⟩ (.slice (some ⟨g, 0, none⟩) m' y)) G ⟨x.st, x.ends, l⟩ p k r (some ⟨g, 0, none⟩) m' y ∧ Below B w (w5.setCell ⟨G, 2, none⟩ (.slice (some ⟨g, 0, none⟩) m' y)) := by
 have h5 := (hb.block G h.lt).trans h.heap
 have hlt := h.lt
 have h0 := h.base
 have hgG : ∀ ad : Addr, some (⟨g, 0, none⟩ : Addr) = some ad → ad.block ≠ G := fun ad e => by cases e; dsimp only; omega
 refine ⟨⟨h0, heap_setCell_same w5 G 2 _ _ _ h5, (h.ends.same hb).set (fun ad e => h.pG ad e) _, ho.set hgG _, fun f g' ef eg => ?_, h.pG, hgG⟩, (hb.mono (by omega)).setCell (by dsimp only; omega) _⟩
 cases eg
 have := (h.ends.span f ef).2
 dsimp only
 omega
theorem Items.take9 {α : Type} {enc : α → List Value} {s : Nat} {w : World} {a : Option Addr} {n : Nat} {l : List α} (h : Items enc s w a n l) {i : Nat} (hi : i ≤ n) : Items enc s w a i (l.take i) := h.take i hi
theorem Items.drop9 {α : Type} {enc : α → List Value} {s : Nat} {w : World} {g n : Nat} {l : List α} (h : Items enc s w (some ⟨g, 0, none⟩) n l) {i : Nat} (hi : i ≤ n) : Items enc s w (some ⟨g, i * s, none⟩) (n - i) (l.drop i) := by
 refine ⟨by rw [List.length_drop, h.len], by have := h.fits; omega, fun j x hj => ?_⟩
 rw [List.getElem?_drop] at hj
 obtain ⟨b, o, e, hx⟩ := h.cell _ _ hj
 cases e
 refine ⟨g, i * s, rfl, fun f v hv => ?_⟩
 have := hx f v hv
 rw [show 0 + (i + j) * s + f = i * s + j * s + f by rw [Nat.add_mul]; omega] at this
 exact this
end
/-- What a function leaves that draws two machines. -/
def DrewPair (b : Nat) (a : Option Addr) (n c : Nat) (w : World) (e : Ending) (w' : World) : Prop :=
 ∃ v x v' x', e = .returned (.tuple #[v, v']) ∧ OwnMac w'.heap.size w' w.heap.size v x ∧ OkP x ∧ OwnMac w'.heap.size w' w.heap.size v' x' ∧ OkP x' ∧ Drawn b a n c w w'
theorem OwnMac.upper {S S' : Nat} {w : World} {B : Nat} {v : Value} {x : Mac} (h : OwnMac S w B v x) (h1 : S ≤ S') (h2 : S' ≤ w.heap.size) : OwnMac S' w B v x := by
 obtain ⟨a, n, c, b, m, d, e, g1, g2, g3, g4, g5, g6, g7⟩ := h
 exact ⟨a, n, c, b, m, d, e, g1, g2, g3, g4.mono (Nat.le_refl _) h1, g5.mono (Nat.le_refl _) h1, h2, g7⟩
/-- The two results' boxes are written to. -/
theorem St.leave {b : Nat} {a : Option Addr} {n c : Nat} {w WA : World} {A0 SA GA SB GB : Nat} {ca : Array Value} {xa : Mac} {wr w' : World} {x : Mac} {p : Option Addr} {k r : Nat} {q : Option Addr} {m d : Nat}
  (h : St b a n c WA A0 SA GA SB GB ca xa wr x p k r q m d) (hc : Curs w b a n c) (hal : Below w.heap.size w WA) (hA : w.heap.size + 2 ≤ WA.heap.size) (hi : Inside w.heap.size (w.heap.size + 2) wr w') (hx : OkP x) (hxa : OkP xa) :
  DrewPair b a n c w (.returned (.tuple #[.agg ca, .agg #[.int .i64 x.st, .slice p k r, .slice q m d]])) w' := by
 have h1 := h.c1
 have h2 := h.c2
 have h3 := h.c3
 have h4 := h.c4
 have h5 := h.c5
 have hsz := hi.size
 have hw := h.dr.2.size
 have hS := (h.own.same (Below.refl _ wr))
 have hSA : SA ≤ wr.heap.size := by
  obtain ⟨_, _, _, _, _, _, _, _, _, _, _, _, h6, _⟩ := h.own
  exact h6
 have hb9 : Below w.heap.size wr w' := ⟨hi.os, hi.tape, hi.output, hi.size, fun k hk => hi.block k (by omega) (Or.inl hk)⟩
 refine ⟨_, xa, _, x, rfl, ((h.own.aside hi (Or.inl (by omega))).lower (by omega)).upper (by omega) (Nat.le_refl _), hxa, (((h.box.out rfl (Nat.le_refl SB)).aside hi (Or.inl (by omega))).lower (by omega)).upper hsz (Nat.le_refl _), hx, ?_⟩
 exact (((Drawn.refl hc).same hal).trans h.dr).under hc hb9 (Nat.le_refl _)
end Go.Proofs.YtckmgbobkffabaaGreat
namespace Go.Proofs.YtckmgbobkffabaaGreat
open Go.ChangeShapes Go.WideShapes Go.ChangeAt Go.RowKit
set_option linter.unusedVariables false

theorem infoMoveS : (Tryz.prog.info? 43).map (fun i => (i.zero, i.size, i.bytes)) = some (some (.agg #[.int .i64 0, .bool false, .int .i64 0, .int .i64 0]), 4, 32) := by kernel_rfl

def zeroMv : Mv := ⟨0, false, 0, 0⟩
def fillM (l : List Mv) (j n : Nat) : List Value := flatOf Mv.enc (l.take j) ++ flatOf Mv.enc (List.replicate (n - j) zeroMv)
theorem fillM_zero (l : List Mv) (n : Nat) : fillM l 0 n = flatOf Mv.enc (List.replicate n zeroMv) := by simp [fillM, flatOf]
theorem fillM_all (l : List Mv) (n : Nat) (h : l.length = n) : fillM l n n = flatOf Mv.enc l := by
 unfold fillM
 rw [List.take_of_length_le (by omega), Nat.sub_self]
 simp [flatOf]
theorem fillM_step {l : List Mv} {j n : Nat} {x : Mv} (hj : l[j]? = some x) (hn : l.length = n) :
  ((((fillM l j n).set (j * 4) (.int .i64 x.frm)).set (j * 4 + 1) (.bool x.send)).set (j * 4 + 2) (.int .i64 x.msg)).set (j * 4 + 3) (.int .i64 x.to) = fillM l (j + 1) n := by
 have hlt : j < l.length := by
  rcases Nat.lt_or_ge j l.length with h | h
  ·exact h
  ·rw [List.getElem?_eq_none h] at hj; cases hj
 unfold fillM
 rw [show n - j = (n - (j + 1)) + 1 by omega, List.replicate_succ, show flatOf Mv.enc (zeroMv :: List.replicate (n - (j + 1)) zeroMv) = .int .i64 0 :: .bool false :: .int .i64 0 :: .int .i64 0 :: flatOf Mv.enc (List.replicate (n - (j + 1)) zeroMv) from rfl,
  set4 _ (j * 4) (by rw [flatOf_len Mv.enc_len, List.length_take]; omega), List.take_add_one, hj]
 simp [flatOf, Mv.enc]
theorem fillM_len {l : List Mv} {j n : Nat} (hn : l.length = n) (hj : j ≤ n) : (fillM l j n).length = n * 4 := by
 unfold fillM
 rw [List.length_append, flatOf_len Mv.enc_len, flatOf_len Mv.enc_len, List.length_take, List.length_replicate]
 omega
theorem madeM (n : Nat) : (madeCells (Value.agg #[.int .i64 0, .bool false, .int .i64 0, .int .i64 0]).cells (n * 4)).toList = flatOf Mv.enc (List.replicate n zeroMv) := by
 apply List.ext_getElem
 ·rw [flatOf_len Mv.enc_len]; simp [madeCells]
 ·intro i h1 h2
  have h3 : i < n * 4 := by simpa [madeCells] using h1
  have hd : i / 4 < n := by omega
  have hm : i % 4 < 4 := Nat.mod_lt _ (by omega)
  have e : i = i / 4 * 4 + i % 4 := by omega
  have hf := flatOf_at Mv.enc_len (List.replicate n zeroMv) (i / 4) zeroMv (i % 4) (by rw [List.getElem?_replicate]; simp [hd]) hm
  rw [← e, List.getElem?_eq_getElem h2] at hf
  have hg : (flatOf Mv.enc (List.replicate n zeroMv))[i]'h2 = zeroMv.enc[i % 4]'(by rw [Mv.enc_len]; exact hm) := by
   rw [List.getElem?_eq_getElem (by rw [Mv.enc_len]; exact hm)] at hf
   exact Option.some.inj hf
  rw [hg]
  simp only [madeCells, Value.cells, Array.getElem_toList, Array.getElem_map, Array.getElem_range]
  show (#[Value.int .i64 0, .bool false, .int .i64 0, .int .i64 0] : Array Value)[i % 4]! = _
  match h : i % 4, hm with
  | 0, _ => rfl
  | 1, _ => rfl
  | 2, _ => rfl
  | 3, _ => rfl

end Go.Proofs.YtckmgbobkffabaaGreat
