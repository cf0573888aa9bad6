/- Two machines that are being drawn: one that stays, one in a box that is changed. No function of the program is spoken of. A machine is drawn. -/
import Derived.Test.YtckmgbobkffabaaG37
import Derived.Test.YtckmgbobkffabaaG4
import Derived.Test.YtckmgbobkffabaaG25
import Derived.Deep.RegionHeld3
import Derived.Test.YtckmgbobkffabaaG1
namespace Go.Proofs.Ytckmgbobkffabaa
open Go.ChangeShapes Go.WideShapes Go.ChangeAt Go.RowKit
set_option linter.unusedVariables false

theorem Inside.of_only {b : Nat} {w w' : World} (h : Only b w w') : Inside b (b + 1) w w' := ⟨h.os, h.tape, h.output, h.size, fun k hk hd => h.block k hk (by omega)⟩
theorem Inside.of_below {S : Nat} {w w' : World} (h : Below S w w') : Inside S w.heap.size w w' := ⟨h.os, h.tape, h.output, h.size, fun k hk hd => by
 rcases hd with hd | hd
 ·exact h.block k hd
 ·omega⟩
theorem OwnMac.onlyC {S b : Nat} {w w' : World} {B : Nat} {v : Value} {x : Mac} (h : OwnMac S w B v x) (ho : Only b w w') (hb : b < B) : OwnMac S w' B v x := h.aside (Inside.of_only ho) (Or.inl hb)
theorem OwnMac.belowS {S S' : Nat} {w w' : World} {B : Nat} {v : Value} {x : Mac} (h : OwnMac S w B v x) (ho : Below S' w w') (hS : S ≤ S') : OwnMac S w' B v x := h.aside (Inside.of_below ho) (Or.inr hS)
/-- What a drawn machine of a pair keeps to. -/
def OkP (x : Mac) : Prop := x.ends.length ≤ 6 ∧ x.moves.length ≤ 12 ∧ ∀ z ∈ x.moves, I64 z.msg ∧ I64 z.to
theorem OkMac.p {x : Mac} (h : OkMac x) : OkP x := ⟨by have := h.1; omega, by have := h.2.1; omega, h.2.2⟩
theorem OkP.wmv {x : Mac} (h : OkP x) : ∀ z ∈ x.moves, (Lit.int .i64 z.msg).wf = true ∧ (Lit.int .i64 z.to).wf = true := fun z hz => ⟨WalkArith.wf_i64 (h.2.2 z hz).1, WalkArith.wf_i64 (h.2.2 z hz).2⟩
/-- While the second machine of a pair is changed: j changes may be to come. -/
def OnP (x : Mac) (j : Nat) : Prop := (1 ≤ x.st ∧ x.st ≤ 4) ∧ x.ends.length ≤ 4 ∧ x.moves.length + j ≤ 10 ∧ ∀ z ∈ x.moves, I64 z.msg ∧ I64 z.to
theorem OnP.p {x : Mac} {j : Nat} (h : OnP x j) : OkP x := ⟨by have := h.2.1; omega, by have := h.2.2.1; omega, h.2.2.2⟩
/-- The first machine, its box, the second machine in its box, the cursor. -/
structure St (b : Nat) (a : Option Addr) (n c : Nat) (WA : World) (A0 SA GA SB GB : Nat) (ca : Array Value) (xa : Mac) (wr : World) (x : Mac) (p : Option Addr) (k r : Nat) (q : Option Addr) (m d : Nat) : Prop where
 box : BoxM SB wr GB x p k r q m d
 own : OwnMac SA wr A0 (.agg ca) xa
 ga : wr.heap[GA]? = some (.cells ca 27 (0, 0))
 dr : Drawn b a n c WA wr
 cu : Curs WA b a n c
 c1 : b < WA.heap.size
 c2 : WA.heap.size ≤ A0
 c3 : A0 ≤ SA
 c4 : SA ≤ GA
 c5 : GA < SB
section
variable {b : Nat} {a : Option Addr} {n c : Nat} {WA : World} {A0 SA GA SB GB : Nat} {ca : Array Value} {xa : Mac} {wr w' : World} {x : Mac} {p : Option Addr} {k r : Nat} {q : Option Addr} {m d : Nat}
theorem St.only (h : St b a n c WA A0 SA GA SB GB ca xa wr x p k r q m d) (hd : Drawn b a n c wr w') : St b a n c WA A0 SA GA SB GB ca xa w' x p k r q m d := by
 have h1 := h.c1
 have h2 := h.c2
 have h3 := h.c3
 have h4 := h.c4
 have h5 := h.c5
 exact ⟨h.box.only hd.2 (by omega), h.own.onlyC hd.2 (by omega), (hd.2.block GA (Array.getElem?_eq_some_iff.1 h.ga).1 (by omega)).trans h.ga, h.dr.trans hd, h.cu, h1, h2, h3, h4, h5⟩
theorem St.same (h : St b a n c WA A0 SA GA SB GB ca xa wr x p k r q m d) (hb : Below wr.heap.size wr w') : St b a n c WA A0 SA GA SB GB ca xa w' x p k r q m d :=
 ⟨h.box.same hb, h.own.same hb, (hb.block GA (Array.getElem?_eq_some_iff.1 h.ga).1).trans h.ga, h.dr.same hb, h.cu, h.c1, h.c2, h.c3, h.c4, h.c5⟩
theorem St.mod (h : St b a n c WA A0 SA GA SB GB ca xa wr x p k r q m d) {x' : Mac} {p' : Option Addr} {k' r' : Nat} {q' : Option Addr} {m' d' : Nat} (hX : BoxM SB w' GB x' p' k' r' q' m' d') (hb : Below SB wr w') : St b a n c WA A0 SA GA SB GB ca xa w' x' p' k' r' q' m' d' := by
 have h1 := h.c1
 have h2 := h.c2
 have h3 := h.c3
 have h4 := h.c4
 have h5 := h.c5
 exact ⟨hX, h.own.belowS hb (by omega), (hb.block GA h5).trans h.ga, h.dr.under h.cu hb (by omega), h.cu, h1, h2, h3, h4, h5⟩
/-- A list of moves that was made anew takes the place of the old one. -/
theorem BoxM.newM {B G : Nat} {w w5 : World} (h : BoxM B w G x p k r q m d) (hb : Below w.heap.size w w5) {g y m' : Nat} {l : List Mv} (ho : OwnM 63 w5 B (some ⟨g, 0, none⟩) m' y l) (hg : w.heap.size ≤ g) :
  BoxM B (w5.setCell ⟨G, 2, none⟩ (.slice (some ⟨g, 0, none⟩) m' y)) G ⟨x.st, x.ends, l⟩ p k r (some ⟨g, 0, none⟩) m' y ∧ Below B w (w5.setCell ⟨G, 2, none⟩ (.slice (some ⟨g, 0, none⟩) m' y)) := by
 have h5 := (hb.block G h.lt).trans h.heap
 have hlt := h.lt
 have h0 := h.base
 have hgG : ∀ ad : Addr, some (⟨g, 0, none⟩ : Addr) = some ad → ad.block ≠ G := fun ad e => by cases e; dsimp only; omega
 refine ⟨⟨h0, heap_setCell_same w5 G 2 _ _ _ h5, (h.ends.same hb).set (fun ad e => h.pG ad e) _, ho.set hgG _, fun f g' ef eg => ?_, h.pG, hgG⟩, (hb.mono (by omega)).setCell (by dsimp only; omega) _⟩
 cases eg
 have := (h.ends.span f ef).2
 dsimp only
 omega
theorem Items.take9 {α : Type} {enc : α → List Value} {s : Nat} {w : World} {a : Option Addr} {n : Nat} {l : List α} (h : Items enc s w a n l) {i : Nat} (hi : i ≤ n) : Items enc s w a i (l.take i) := h.take i hi
theorem Items.drop9 {α : Type} {enc : α → List Value} {s : Nat} {w : World} {g n : Nat} {l : List α} (h : Items enc s w (some ⟨g, 0, none⟩) n l) {i : Nat} (hi : i ≤ n) : Items enc s w (some ⟨g, i * s, none⟩) (n - i) (l.drop i) := by
 refine ⟨by rw [List.length_drop, h.len], by have := h.fits; omega, fun j x hj => ?_⟩
 rw [List.getElem?_drop] at hj
 obtain ⟨b, o, e, hx⟩ := h.cell _ _ hj
 cases e
 refine ⟨g, i * s, rfl, fun f v hv => ?_⟩
 have := hx f v hv
 rw [show 0 + (i + j) * s + f = i * s + j * s + f by rw [Nat.add_mul]; omega] at this
 exact this
end
/-- What a function leaves that draws two machines. -/
def DrewPair (b : Nat) (a : Option Addr) (n c : Nat) (w : World) (e : Ending) (w' : World) : Prop :=
 ∃ v x v' x', e = .returned (.tuple #[v, v']) ∧ OwnMac w'.heap.size w' w.heap.size v x ∧ OkP x ∧ OwnMac w'.heap.size w' w.heap.size v' x' ∧ OkP x' ∧ Drawn b a n c w w'
theorem OwnMac.upper {S S' : Nat} {w : World} {B : Nat} {v : Value} {x : Mac} (h : OwnMac S w B v x) (h1 : S ≤ S') (h2 : S' ≤ w.heap.size) : OwnMac S' w B v x := by
 obtain ⟨a, n, c, b, m, d, e, g1, g2, g3, g4, g5, g6, g7⟩ := h
 exact ⟨a, n, c, b, m, d, e, g1, g2, g3, g4.mono (Nat.le_refl _) h1, g5.mono (Nat.le_refl _) h1, h2, g7⟩
/-- The two results' boxes are written to. -/
theorem St.leave {b : Nat} {a : Option Addr} {n c : Nat} {w WA : World} {A0 SA GA SB GB : Nat} {ca : Array Value} {xa : Mac} {wr w' : World} {x : Mac} {p : Option Addr} {k r : Nat} {q : Option Addr} {m d : Nat}
  (h : St b a n c WA A0 SA GA SB GB ca xa wr x p k r q m d) (hc : Curs w b a n c) (hal : Below w.heap.size w WA) (hA : w.heap.size + 2 ≤ WA.heap.size) (hi : Inside w.heap.size (w.heap.size + 2) wr w') (hx : OkP x) (hxa : OkP xa) :
  DrewPair b a n c w (.returned (.tuple #[.agg ca, .agg #[.int .i64 x.st, .slice p k r, .slice q m d]])) w' := by
 have h1 := h.c1
 have h2 := h.c2
 have h3 := h.c3
 have h4 := h.c4
 have h5 := h.c5
 have hsz := hi.size
 have hw := h.dr.2.size
 have hS := (h.own.same (Below.refl _ wr))
 have hSA : SA ≤ wr.heap.size := by
  obtain ⟨_, _, _, _, _, _, _, _, _, _, _, _, h6, _⟩ := h.own
  exact h6
 have hb9 : Below w.heap.size wr w' := ⟨hi.os, hi.tape, hi.output, hi.size, fun k hk => hi.block k (by omega) (Or.inl hk)⟩
 refine ⟨_, xa, _, x, rfl, ((h.own.aside hi (Or.inl (by omega))).lower (by omega)).upper (by omega) (Nat.le_refl _), hxa, (((h.box.out rfl (Nat.le_refl SB)).aside hi (Or.inl (by omega))).lower (by omega)).upper hsz (Nat.le_refl _), hx, ?_⟩
 exact (((Drawn.refl hc).same hal).trans h.dr).under hc hb9 (Nat.le_refl _)
end Go.Proofs.Ytckmgbobkffabaa
namespace Go.Proofs.Ytckmgbobkffabaa
open Go.ChangeShapes Go.WideShapes Go.ChangeAt Go.RowKit
set_option linter.unusedVariables false
set_option linter.unusedSimpArgs false

/-- While a machine of st states is drawn: j states are done, i moves of the next one. -/
def OnWay (st : Int) (j i : Nat) (x : Mac) : Prop := x.st = st ∧ x.ends.length = j ∧ x.moves.length ≤ 2 * j + i ∧ ∀ z ∈ x.moves, I64 z.msg ∧ I64 z.to
/-- What l13Draw leaves. -/
def DrewMac8 (b : Nat) (a : Option Addr) (n c : Nat) (w : World) (e : Ending) (w' : World) : Prop :=
 ∃ v x, e = .returned v ∧ OwnMac w'.heap.size w' w.heap.size v x ∧ x.ends.length ≤ 4 ∧ x.moves.length ≤ 8 ∧ ((1 ≤ x.st ∧ x.st ≤ 4) ∧ ∀ z ∈ x.moves, I64 z.msg ∧ I64 z.to) ∧ Drawn b a n c w w'
set_option maxHeartbeats 8000000 in
set_option maxRecDepth 100000 in
theorem l13Draw_any (b : Nat) (a : Option Addr) (n c : Nat) (w : World) (hc : Curs w b a n c) :
  Calls Try.prog 67 #[.pointer (some ⟨b, 0, none⟩)] w (DrewMac8 b a n c w) := by
 have hblt := hc.lt
 have HAL := Lib.hid (alloc_same w (.cells #[.int .i64 0, .slice none 0 0, .slice none 0 0] 27))
 have HGR := Lib.hid (heap_alloc_new w (.cells #[.int .i64 0, .slice none 0 0, .slice none 0 0] 27 (0, 0)))
 change Hid ((w.alloc (.cells #[.int .i64 0, .slice none 0 0, .slice none 0 0] 27)).heap[w.heap.size]? = _) at HGR
 have HC := Lib.hid (hc.same HAL.out)
 have HCW := Lib.hid hc
 have hsA : w.heap.size < (w.alloc (.cells #[.int .i64 0, .slice none 0 0, .slice none 0 0] 27)).heap.size := by simp
 obtain ⟨i0, hi, hz0, hz1, hz2⟩ := info_parts infoBoolS
 have HI := Lib.hid (And.intro hi (And.intro hz0 (And.intro hz1 hz2)))
 clear hi hz0 hz1 hz2
 obtain ⟨i1, hi, hz0, hz1, hz2⟩ := info_parts infoMoveS
 have HI1 := Lib.hid (And.intro hi (And.intro hz0 (And.intro hz1 hz2)))
 clear hi hz0 hz1 hz2 hc
 go_enter Try.func67, Try.ntmps67
 go_wp2_with fail
 generalize w.alloc (.cells #[.int .i64 0, .slice none 0 0, .slice none 0 0] 27) = WA at *
 refine (below_any b a n c 4 (by omega) (by omega) _ HC.out).mono ?_
 rintro e w1 ⟨x0, hx0, hx1, rfl, hd1⟩
 have hs1 := hd1.2.size
 obtain ⟨st, hst, hst1, hst4⟩ : ∃ st : Int, st = 1 + x0 ∧ 1 ≤ st ∧ st ≤ 4 := ⟨1 + x0, rfl, by omega, by omega⟩
 have HG1 := Lib.hid (heap_alloc_new w1 (.cells #[.int .i64 st, .slice none 0 0, .slice none 0 0] 27 (0, 0)))
 change Hid ((w1.alloc (.cells #[.int .i64 st, .slice none 0 0, .slice none 0 0] 27)).heap[w1.heap.size]? = _) at HG1
 have HD1 := Lib.hid (hd1.same (alloc_same w1 (.cells #[.int .i64 st, .slice none 0 0, .slice none 0 0] 27)))
 obtain ⟨G, hG⟩ : ∃ G, G = w1.heap.size := ⟨_, rfl⟩
 have hGW : WA.heap.size ≤ G := by omega
 have c1 := (three_cells HG1.out).1
 clear hd1
 go_wp2_with fail
 rw [← hst, ← hG]
 rw [← hG] at HG1
 clear hst hG hx0 hx1 hs1 c1
 generalize (w1.alloc (.cells #[.int .i64 st, .slice none 0 0, .slice none 0 0] 27)) = W1 at *
 have HX1 : Hid (BoxM WA.heap.size W1 G ⟨st, [], []⟩ none 0 0 none 0 0) := Lib.hid ⟨hGW, HG1.out, OwnI.nil, OwnI.nil, (fun _ _ e => by cases e), (fun _ e => by cases e), (fun _ e => by cases e)⟩
 clear HG1
 go_loopw [4] (fun t wr => ∃ (j : Nat) (x : Mac) (p : Option Addr) (k r : Nat) (q : Option Addr) (m d : Nat), t = .int .i64 j ∧ (j : Int) ≤ st ∧ BoxM WA.heap.size wr G x p k r q m d ∧ Hid (OnWay st j 0 x) ∧ Drawn b a n c WA wr) (fun t _ => (st - intOf t).toNat)
 case atStart => exact ⟨0, _, none, 0, 0, none, 0, 0, rfl, by omega, HX1.out, Lib.hid ⟨rfl, rfl, by simp, by simp⟩, HD1.out⟩
 case round =>
  obtain ⟨j, x, p, k, r, q, m, d, rfl, hj, hx, HO, hd⟩ := hrel
  have HX := Lib.hid hx
  have HD := Lib.hid hd
  obtain ⟨e0, e1, e2, -, -, -⟩ := three_cells hx.heap
  rw [show x.st = st from HO.out.1] at e0
  clear hx hd HX1 HD1
  by_cases hlt : (j : Int) < st
  ·go_wp2_with fail
   clear e0 e1 e2
   refine (once_any b a n c 2 (by omega) (by omega) _ HD.out.1).mono ?_
   rintro e w2 ⟨send, rfl, hd2⟩
   have HD2 := Lib.hid (HD.out.trans hd2)
   have HX2 := Lib.hid (HX.out.only hd2.2 (by omega))
   clear hd2
   go_wp2_with fail
   refine (below_any b a n c 3 (by omega) (by omega) _ HD2.out.1).mono ?_
   rintro e w3 ⟨y0, hy0, hy1, rfl, hd3⟩
   obtain ⟨n3, rfl⟩ : ∃ r : Nat, y0 = r := ⟨y0.toNat, by omega⟩
   have HD3 := Lib.hid (HD2.out.trans hd3)
   have HX3 := Lib.hid (HX2.out.only hd3.2 (by omega))
   clear hd3
   have hn3 : n3 ≤ 2 := by omega
   clear hy0 hy1
   by_cases hj0 : j = 0
   ·subst hj0
    go_wp2_with fail
    refine (below_any b a n c 2 (by omega) (by omega) _ HD3.out.1).mono ?_
    rintro e w4 ⟨y4, hy0, hy1, rfl, hd4⟩
    obtain ⟨n9, hn9, hn2⟩ : ∃ r : Nat, (1 : Int) + y4 = r ∧ r ≤ 2 := ⟨(1 + y4).toNat, by omega, by omega⟩
    have HD9 := Lib.hid (HD3.out.trans hd4)
    have HX9 := Lib.hid (HX3.out.only hd4.2 (by omega))
    have hw9 := hd4.2.size
    obtain ⟨W9, rfl⟩ : ∃ u, u = w4 := ⟨w4, rfl⟩
    clear hd4
    go_wp2_with fail
    try rw [hn9]
    clear hn9 hy0 hy1
    go_loopw [7] (fun t wr => ∃ (i : Nat) (x : Mac) (p : Option Addr) (k r : Nat) (q : Option Addr) (m d : Nat), t = .int .i64 i ∧ i ≤ n9 ∧ BoxM WA.heap.size wr G x p k r q m d ∧ Hid (OnWay st 0 i x) ∧ Drawn b a n c WA wr) (fun t _ => n9 - (intOf t).toNat)
    case atStart => exact ⟨0, x, p, k, r, q, m, d, rfl, Nat.zero_le _, HX9.out, HO, HD9.out⟩
    case round =>
     clear HX9 HD9 HX HD HX2 HD2 HX3 HD3 HO
     obtain ⟨i, x, p, k, r, q, m, d, rfl, hi9, hx, HO, hd⟩ := hrel
     have HX := Lib.hid hx
     have HD := Lib.hid hd
     have hmm := hx.moves.len
     have hkk := hx.ends.len
     have hm9 : m ≤ 2 * 0 + i := by have := HO.out.2.2.1; omega
     have hk9 : k ≤ 4 := by have := HO.out.2.1; omega
     obtain ⟨e0, e1, e2, g0, g1, g2⟩ := three_cells hx.heap
     rw [show x.st = st from HO.out.1] at e0
     clear hx hd
     by_cases hil : i < n9
     ·have hiI : (i : Int) < (n9 : Int) := by omega
      have C0 := Lib.hid e0
      clear e0 e1 e2 g0 g1 g2
      go_wp2_with fail
      have DS0 : Hid (Drawn b a n c WA wr.drew) := Lib.hid (HD.out.same (Below.refl _ wr).drew)
      have XS0 : Hid (BoxM WA.heap.size wr.drew G x p k r q m d) := Lib.hid (HX.out.same (Below.refl _ wr).drew)
      have hbig : b < wr.heap.size := by have := HD.out.2.size; omega
      have hdr : wr.drew.heap.size = wr.heap.size := rfl
      refine wp_region_held_drew (S := fun w9 => w9.cell? ⟨G, 0, none⟩ = some (.int .i64 st)) (by kernel_rfl) (cell_stay C0.out (Below.refl _ wr).drew) (fun hHeld => ?_)
      refine wpAnyH_take (i := 0) (v := ?v1) (by simp only [get9]; rfl) (by kernel_rfl) (by kernel_rfl) (by kernel_rfl) (by exact fun _ _ _ h => h) (Or.inl ⟨by rfl, fun w9 hS9 => ?hy1⟩) hHeld ?rest1
      case hy1 =>
       dsimp only at hS9
       skip
       go_simp
       try with_reducible rfl
      try simp only [Act.put, set9]
      refine wpAnyH_take (i := 1) (v := ?v2) (by simp only [get9]; rfl) (by kernel_rfl) (by kernel_rfl) (by kernel_rfl) (by exact fun _ _ _ h => h) (Or.inl ⟨by rfl, fun w9 hS9 => ?hy2⟩) hHeld ?rest2
      case hy2 =>
       dsimp only at hS9
       skip
       go_simp
       try with_reducible rfl
      try simp only [Act.put, set9]
      refine wpAnyH_take (i := 2) (v := ?v3) (by simp only [get9]; rfl) (by kernel_rfl) (by kernel_rfl) (by kernel_rfl) (by exact fun _ _ _ h => h) (Or.inl ⟨by rfl, fun w9 hS9 => ?hy3⟩) hHeld ?rest3
      case hy3 =>
       dsimp only at hS9
       skip
       go_simp
       try with_reducible rfl
      try simp only [Act.put, set9]
      refine wpAnyH_take (i := 4) (v := ?v4) (by simp only [get9]; rfl) (by kernel_rfl) (by kernel_rfl) (by kernel_rfl) (by exact fun _ _ _ h => h) (Or.inl ⟨by rfl, fun w9 hS9 => ?hy4⟩) hHeld ?rest4
      case hy4 =>
       dsimp only at hS9
       skip
       go_simp
       try with_reducible rfl
      try simp only [Act.put, set9]
      refine wpAnyH_take (i := 5) (v := ?v5) (by simp only [get9]; rfl) (by kernel_rfl) (by kernel_rfl) (by kernel_rfl) (by exact fun _ _ _ h => h) (Or.inl ⟨by rfl, fun w9 hS9 => ?hy5⟩) hHeld ?rest5
      case hy5 =>
       dsimp only at hS9
       skip
       go_simp
       try with_reducible rfl
      try simp only [Act.put, set9]
      refine wpAnyH_take (i := 6) (v := ?v6) (by simp only [get9]; rfl) (by kernel_rfl) (by kernel_rfl) (by kernel_rfl) (by exact fun _ _ _ h => h) (Or.inl ⟨by rfl, fun w9 hS9 => ?hy6⟩) hHeld ?rest6
      case hy6 =>
       dsimp only at hS9
       skip
       go_simp
       try with_reducible rfl
      try simp only [Act.put, set9]
      refine wpAnyH_ready (rs := [3, 9]) (by kernel_rfl) (by simp) (AllReadyH.cons (by simp only [get9]; rfl) (fun K hK => ?_) (AllReadyH.cons (by simp only [get9]; rfl) (fun K hK => ?_) AllReadyH.nil))
      ·skip
       go_simp
       refine (below_any b a n c 3 (by omega) (by omega) _ DS0.out.1).mono ?_
       rintro e v1 ⟨z1, hz10, hz11, rfl, hd1⟩
       have D1 := Lib.hid (DS0.out.trans hd1)
       have X1 := Lib.hid (XS0.out.only hd1.2 (by omega))
       have sv1 := hd1.2.size
       clear hd1
       go_wp2_with fail
       refine hK.out _ _ (by have h9 := (three_cells X1.out.heap).1; rwa [show x.st = st from HO.out.1] at h9) (fun hHeld => ?_)
       clear hK K
       try simp only [Act.put, set9]
       refine wpAnyH_ready (rs := [7, 9]) (by kernel_rfl) (by simp) (AllReadyH.cons (by simp only [get9]; rfl) (fun K hK => ?_) (AllReadyH.cons (by simp only [get9]; rfl) (fun K hK => ?_) AllReadyH.nil))
       ·skip
        go_simp
        refine (below_any b a n c st (by omega) (by omega) _ D1.out.1).mono ?_
        rintro e v2 ⟨z2, hz20, hz21, rfl, hd2⟩
        have D2 := Lib.hid (D1.out.trans hd2)
        have X2 := Lib.hid (X1.out.only hd2.2 (by omega))
        have sv2 := hd2.2.size
        clear hd2
        go_wp2_with fail
        refine hK.out _ _ (by have h9 := (three_cells X2.out.heap).1; rwa [show x.st = st from HO.out.1] at h9) (fun hHeld => ?_)
        clear hK K
        try simp only [Act.put, set9]
        refine wpAnyH_take (i := 8) (v := ?v7) (by simp only [get9]; rfl) (by kernel_rfl) (by kernel_rfl) (by kernel_rfl) (by exact fun _ _ _ h => h) (Or.inl ⟨by rfl, fun w9 hS9 => ?hy7⟩) hHeld ?rest7
        case hy7 =>
         dsimp only at hS9
         skip
         go_simp
         try with_reducible rfl
        try simp only [Act.put, set9]
        refine wpAnyH_ready (rs := [9]) (by kernel_rfl) (by simp) (AllReadyH.cons (by simp only [get9]; rfl) (fun K hK => ?_) AllReadyH.nil)
        go_simp
        have D3 : Hid (Drawn b a n c WA (World.alloc v2 (.cells #[.int .i64 0, .bool false, .int .i64 0, .int .i64 0] 63))) := Lib.hid (D2.out.same (alloc_same _ _))
        have X3 : Hid (BoxM WA.heap.size (World.alloc v2 (.cells #[.int .i64 0, .bool false, .int .i64 0, .int .i64 0] 63)) G x p k r q m d) := Lib.hid (X2.out.same (alloc_same _ _))
        have Z3 : Hid ((World.alloc v2 (.cells #[.int .i64 0, .bool false, .int .i64 0, .int .i64 0] 63)).heap[v2.heap.size]? = some (.cells #[.int .i64 0, .bool false, .int .i64 0, .int .i64 0] 63 (0, 0))) := Lib.hid (heap_alloc_new v2 (.cells #[.int .i64 0, .bool false, .int .i64 0, .int .i64 0] 63 (0, 0)))
        refine hK.out _ _ (by have h9 := (three_cells X3.out.heap).1; rwa [show x.st = st from HO.out.1] at h9) (fun hHeld => ?_)
        clear hK K
        try simp only [Act.put, set9]
        refine wpAnyH_ready (rs := [10]) (by kernel_rfl) (by simp) (AllReadyH.cons (by simp only [get9]; rfl) (fun K hK => ?_) AllReadyH.nil)
        go_simp
        have DF : Hid (Drawn b a n c WA (World.alloc v2 (.cells #[.int .i64 0, .bool send, .int .i64 z1, .int .i64 z2] 63))) := Lib.hid (D2.out.same (alloc_same _ _))
        have XF : Hid (BoxM WA.heap.size (World.alloc v2 (.cells #[.int .i64 0, .bool send, .int .i64 z1, .int .i64 z2] 63)) G x p k r q m d) := Lib.hid (X2.out.same (alloc_same _ _))
        have ZF : Hid ((World.alloc v2 (.cells #[.int .i64 0, .bool send, .int .i64 z1, .int .i64 z2] 63)).heap[v2.heap.size]? = some (.cells #[.int .i64 0, .bool send, .int .i64 z1, .int .i64 z2] 63 (0, 0))) := Lib.hid (heap_alloc_new v2 (.cells #[.int .i64 0, .bool send, .int .i64 z1, .int .i64 z2] 63 (0, 0)))
        refine hK.out _ _ (by have h9 := (three_cells XF.out.heap).1; rwa [show x.st = st from HO.out.1] at h9) (fun hHeld => ?_)
        clear hK K
        try simp only [Act.put, set9]
        refine wpAnyH_done (by kernel_rfl) ?_ _
        generalize hgW : (World.alloc v2 (.cells #[.int .i64 0, .bool send, .int .i64 z1, .int .i64 z2] 63)) = W8 at *
        clear hgW
        obtain ⟨Gm, hGm⟩ : ∃ u, u = v2.heap.size := ⟨_, rfl⟩
        have ZG : Hid (W8.heap[Gm]? = some (.cells #[.int .i64 0, .bool send, .int .i64 z1, .int .i64 z2] 63 (0, 0))) := Lib.hid (by rw [hGm]; exact ZF.out)
        rw [← hGm]
        clear hGm ZF
        obtain ⟨y0, y1, y2, y3⟩ := four_at9 ZG.out
        obtain ⟨e0, e1, e2, -, -, -⟩ := three_cells XF.out.heap
        rw [show x.st = st from HO.out.1] at e0
        go_wp2_with fail
        clear e0 e1 e2 y0 y1 y2 y3
        have HMC : Hid (MacW W8 (.agg #[.int .i64 st, .slice p k r, .slice q m d]) x) := Lib.hid (by have h9 := XF.out.mac; rwa [show x.st = st from HO.out.1] at h9)
        refine (specMoveOf_any 0 send z1 HMC.out).mono ?_
        rintro e w5 ⟨rfl, hb5⟩
        have D5 := Lib.hid (DF.out.same hb5)
        have X5 := Lib.hid (XF.out.same hb5)
        have Z5 := Lib.hid ((hb5.block _ (Array.getElem?_eq_some_iff.1 ZG.out).1).trans ZG.out)
        clear hb5
        by_cases hneg : moveOf x 0 send z1 < 0
        ·obtain ⟨y0, y1, y2, y3⟩ := four_at9 Z5.out
         obtain ⟨e0, e1, e2, g0, g1, g2⟩ := three_cells X5.out.heap
         have HNM : Hid (Mvs (w5.alloc (.cells #[.int .i64 0, .bool send, .int .i64 z1, .int .i64 z2] 63)) (some ⟨w5.heap.size, 0, none⟩) 1 [⟨0, send, z1, z2⟩]) := Lib.hid (items_new (enc := Mv.enc) (s := 4) Mv.enc_len w5 ⟨0, send, z1, z2⟩ 63)
         have X6 : Hid (BoxM WA.heap.size (w5.alloc (.cells #[.int .i64 0, .bool send, .int .i64 z1, .int .i64 z2] 63)) G x p k r q m d) := Lib.hid (X5.out.same (alloc_same _ _))
         have hs5 : WA.heap.size ≤ (w5.alloc (.cells #[.int .i64 0, .bool send, .int .i64 z1, .int .i64 z2] 63)).heap.size := by have := D5.out.2.size; simp; omega
         go_wp2_with (at_builtin; refine wpl_appW _ Mv.enc_len (by omega) Mv.cells rfl (.tmp 50) (.tmp 52) 25 rfl 63 i1 (.agg #[.int .i64 0, .bool false, .int .i64 0, .int .i64 0]) 32 Try.underlying25 HI1.out.1 HI1.out.2.1 HI1.out.2.2.1 HI1.out.2.2.2 rfl rfl X6.out.moves rfl HNM.out (by omega) ?ca ?cb ?_)
         case ca => omega
         case cb => exact hs5
         intro q7 y7 w7 ho7 hg7 hw7
         have HP7 := Lib.hid (X6.out.pushM ho7 hg7 hw7)
         have D7 : Hid (Drawn b a n c WA (w7.setCell ⟨G, 2, none⟩ (.slice q7 (m + 1 : Nat) y7))) := Lib.hid (D5.out.under HC.out ((Below.refl _ w5 |>.alloc (by have := D5.out.2.size; omega) _).trans HP7.out.2) (Nat.le_refl _))
         have h7 : w7.heap[G]? = some (.cells #[.int .i64 x.st, .slice p k r, .slice q m d] 27 (0, 0)) := (hg7.block G X6.out.lt (fun e => by obtain ⟨ad, f1, f2⟩ := block_of e.symm; exact X6.out.qG ad f1 f2)).trans X6.out.heap
         obtain ⟨h70, h71, h72, k70, k71, k72⟩ := three_cells h7
         clear ho7 hg7 hw7 h7 e0 e1 e2 g0 g1 g2 y0 y1 y2 y3 hs5
         go_wp2_with fail
         go_roundw
         case rel => exact ⟨i + 1, _, p, k, r, q7, m + 1, y7, by go_num, by omega, HP7.out.1, Lib.hid ⟨HO.out.1, HO.out.2.1, by have := HO.out.2.2.1; simp; omega, fun z hz => by
          rcases List.mem_append.1 hz with h | h
          ·exact HO.out.2.2.2 z h
          ·rw [List.mem_singleton.1 h]
           unfold I64
           dsimp only
           omega⟩, D7.out⟩
         case measure => simp [intOf]; omega
        ·go_wp2_with fail
         go_roundw
         case rel => exact ⟨i + 1, x, p, k, r, q, m, d, by go_num, by omega, X5.out, Lib.hid ⟨HO.out.1, HO.out.2.1, by have := HO.out.2.2.1; omega, HO.out.2.2.2⟩, D5.out⟩
         case measure => simp [intOf]; omega
       ·skip
        go_simp
        have D2 : Hid (Drawn b a n c WA (World.alloc v1 (.cells #[.int .i64 0, .bool false, .int .i64 0, .int .i64 0] 63))) := Lib.hid (D1.out.same (alloc_same _ _))
        have X2 : Hid (BoxM WA.heap.size (World.alloc v1 (.cells #[.int .i64 0, .bool false, .int .i64 0, .int .i64 0] 63)) G x p k r q m d) := Lib.hid (X1.out.same (alloc_same _ _))
        have Z2 : Hid ((World.alloc v1 (.cells #[.int .i64 0, .bool false, .int .i64 0, .int .i64 0] 63)).heap[v1.heap.size]? = some (.cells #[.int .i64 0, .bool false, .int .i64 0, .int .i64 0] 63 (0, 0))) := Lib.hid (heap_alloc_new v1 (.cells #[.int .i64 0, .bool false, .int .i64 0, .int .i64 0] 63 (0, 0)))
        refine hK.out _ _ (by have h9 := (three_cells X2.out.heap).1; rwa [show x.st = st from HO.out.1] at h9) (fun hHeld => ?_)
        clear hK K
        try simp only [Act.put, set9]
        refine wpAnyH_ready (rs := [7]) (by kernel_rfl) (by simp) (AllReadyH.cons (by simp only [get9]; rfl) (fun K hK => ?_) AllReadyH.nil)
        go_simp
        refine (below_any b a n c st (by omega) (by omega) _ D2.out.1).mono ?_
        rintro e v3 ⟨z2, hz20, hz21, rfl, hd3⟩
        have D3 := Lib.hid (D2.out.trans hd3)
        have X3 := Lib.hid (X2.out.only hd3.2 (by omega))
        have Z3 : Hid (v3.heap[v1.heap.size]? = some (.cells #[.int .i64 0, .bool false, .int .i64 0, .int .i64 0] 63 (0, 0))) := Lib.hid ((hd3.2.block _ (by have := Z2.out; exact (Array.getElem?_eq_some_iff.1 this).1) (by have := hbig; omega)).trans Z2.out)
        have sv3 := hd3.2.size
        clear hd3
        go_wp2_with fail
        refine hK.out _ _ (by have h9 := (three_cells X3.out.heap).1; rwa [show x.st = st from HO.out.1] at h9) (fun hHeld => ?_)
        clear hK K
        try simp only [Act.put, set9]
        refine wpAnyH_take (i := 8) (v := ?v8) (by simp only [get9]; rfl) (by kernel_rfl) (by kernel_rfl) (by kernel_rfl) (by exact fun _ _ _ h => h) (Or.inl ⟨by rfl, fun w9 hS9 => ?hy8⟩) hHeld ?rest8
        case hy8 =>
         dsimp only at hS9
         skip
         go_simp
         try with_reducible rfl
        try simp only [Act.put, set9]
        refine wpAnyH_ready (rs := [10]) (by kernel_rfl) (by simp) (AllReadyH.cons (by simp only [get9]; rfl) (fun K hK => ?_) AllReadyH.nil)
        obtain ⟨y0, y1, y2, y3⟩ := four_at9 Z3.out
        have yf0 := block_frozen Z3.out 0
        have yf1 := block_frozen Z3.out 1
        have yf2 := block_frozen Z3.out 2
        have yf3 := block_frozen Z3.out 3
        have hgg : G < v1.heap.size := by have := X1.out.lt; exact this
        have GF : Hid (Inside v1.heap.size (v1.heap.size + 1) v3 ((((v3.setCell ⟨v1.heap.size, 0, none⟩ (.int .i64 0)).setCell ⟨v1.heap.size, 1, none⟩ (.bool send)).setCell ⟨v1.heap.size, 2, none⟩ (.int .i64 z1)).setCell ⟨v1.heap.size, 3, none⟩ (.int .i64 z2))) := Lib.hid ((((Inside.row (put_grown _ _ _ _) (fun r e => by cases e; omega)).trans (Inside.row (put_grown _ _ _ _) (fun r e => by cases e; omega))).trans (Inside.row (put_grown _ _ _ _) (fun r e => by cases e; omega))).trans (Inside.row (put_grown _ _ _ _) (fun r e => by cases e; omega)))
        have HQ9 := Lib.hid (X1.out)
        have XF : Hid (BoxM WA.heap.size ((((v3.setCell ⟨v1.heap.size, 0, none⟩ (.int .i64 0)).setCell ⟨v1.heap.size, 1, none⟩ (.bool send)).setCell ⟨v1.heap.size, 2, none⟩ (.int .i64 z1)).setCell ⟨v1.heap.size, 3, none⟩ (.int .i64 z2)) G x p k r q m d) := Lib.hid ⟨X3.out.base, (GF.out.block G X3.out.lt (Or.inl hgg)).trans X3.out.heap, X3.out.ends.aside GF.out (lo' := 0) (hi' := v1.heap.size) (fun ad e => ⟨Nat.zero_le _, (HQ9.out.ends.span ad e).2⟩) (Or.inr (Nat.le_refl _)), X3.out.moves.aside GF.out (lo' := 0) (hi' := v1.heap.size) (fun ad e => ⟨Nat.zero_le _, (HQ9.out.moves.span ad e).2⟩) (Or.inr (Nat.le_refl _)), X3.out.sep, X3.out.pG, X3.out.qG⟩
        have DF : Hid (Drawn b a n c WA ((((v3.setCell ⟨v1.heap.size, 0, none⟩ (.int .i64 0)).setCell ⟨v1.heap.size, 1, none⟩ (.bool send)).setCell ⟨v1.heap.size, 2, none⟩ (.int .i64 z1)).setCell ⟨v1.heap.size, 3, none⟩ (.int .i64 z2))) := Lib.hid (D3.out.under HC.out (GF.out.to (Below.refl _ _) (by omega) (by have := D3.out.2.size; omega)) (Nat.le_refl _))
        have ZF : Hid (((((v3.setCell ⟨v1.heap.size, 0, none⟩ (.int .i64 0)).setCell ⟨v1.heap.size, 1, none⟩ (.bool send)).setCell ⟨v1.heap.size, 2, none⟩ (.int .i64 z1)).setCell ⟨v1.heap.size, 3, none⟩ (.int .i64 z2)).heap[v1.heap.size]? = some (.cells #[.int .i64 0, .bool send, .int .i64 z1, .int .i64 z2] 63 (0, 0))) := Lib.hid (four_put9 Z3.out _ _ _ _)
        clear GF
        go_simp
        refine hK.out _ _ (by have h9 := (three_cells XF.out.heap).1; rwa [show x.st = st from HO.out.1] at h9) (fun hHeld => ?_)
        clear hK K
        try simp only [Act.put, set9]
        refine wpAnyH_done (by kernel_rfl) ?_ _
        generalize hgW : ((((v3.setCell ⟨v1.heap.size, 0, none⟩ (.int .i64 0)).setCell ⟨v1.heap.size, 1, none⟩ (.bool send)).setCell ⟨v1.heap.size, 2, none⟩ (.int .i64 z1)).setCell ⟨v1.heap.size, 3, none⟩ (.int .i64 z2)) = W8 at *
        clear hgW
        obtain ⟨Gm, hGm⟩ : ∃ u, u = v1.heap.size := ⟨_, rfl⟩
        have ZG : Hid (W8.heap[Gm]? = some (.cells #[.int .i64 0, .bool send, .int .i64 z1, .int .i64 z2] 63 (0, 0))) := Lib.hid (by rw [hGm]; exact ZF.out)
        rw [← hGm]
        clear hGm ZF
        obtain ⟨y0, y1, y2, y3⟩ := four_at9 ZG.out
        obtain ⟨e0, e1, e2, -, -, -⟩ := three_cells XF.out.heap
        rw [show x.st = st from HO.out.1] at e0
        go_wp2_with fail
        clear e0 e1 e2 y0 y1 y2 y3
        have HMC : Hid (MacW W8 (.agg #[.int .i64 st, .slice p k r, .slice q m d]) x) := Lib.hid (by have h9 := XF.out.mac; rwa [show x.st = st from HO.out.1] at h9)
        refine (specMoveOf_any 0 send z1 HMC.out).mono ?_
        rintro e w5 ⟨rfl, hb5⟩
        have D5 := Lib.hid (DF.out.same hb5)
        have X5 := Lib.hid (XF.out.same hb5)
        have Z5 := Lib.hid ((hb5.block _ (Array.getElem?_eq_some_iff.1 ZG.out).1).trans ZG.out)
        clear hb5
        by_cases hneg : moveOf x 0 send z1 < 0
        ·obtain ⟨y0, y1, y2, y3⟩ := four_at9 Z5.out
         obtain ⟨e0, e1, e2, g0, g1, g2⟩ := three_cells X5.out.heap
         have HNM : Hid (Mvs (w5.alloc (.cells #[.int .i64 0, .bool send, .int .i64 z1, .int .i64 z2] 63)) (some ⟨w5.heap.size, 0, none⟩) 1 [⟨0, send, z1, z2⟩]) := Lib.hid (items_new (enc := Mv.enc) (s := 4) Mv.enc_len w5 ⟨0, send, z1, z2⟩ 63)
         have X6 : Hid (BoxM WA.heap.size (w5.alloc (.cells #[.int .i64 0, .bool send, .int .i64 z1, .int .i64 z2] 63)) G x p k r q m d) := Lib.hid (X5.out.same (alloc_same _ _))
         have hs5 : WA.heap.size ≤ (w5.alloc (.cells #[.int .i64 0, .bool send, .int .i64 z1, .int .i64 z2] 63)).heap.size := by have := D5.out.2.size; simp; omega
         go_wp2_with (at_builtin; refine wpl_appW _ Mv.enc_len (by omega) Mv.cells rfl (.tmp 50) (.tmp 52) 25 rfl 63 i1 (.agg #[.int .i64 0, .bool false, .int .i64 0, .int .i64 0]) 32 Try.underlying25 HI1.out.1 HI1.out.2.1 HI1.out.2.2.1 HI1.out.2.2.2 rfl rfl X6.out.moves rfl HNM.out (by omega) ?ca ?cb ?_)
         case ca => omega
         case cb => exact hs5
         intro q7 y7 w7 ho7 hg7 hw7
         have HP7 := Lib.hid (X6.out.pushM ho7 hg7 hw7)
         have D7 : Hid (Drawn b a n c WA (w7.setCell ⟨G, 2, none⟩ (.slice q7 (m + 1 : Nat) y7))) := Lib.hid (D5.out.under HC.out ((Below.refl _ w5 |>.alloc (by have := D5.out.2.size; omega) _).trans HP7.out.2) (Nat.le_refl _))
         have h7 : w7.heap[G]? = some (.cells #[.int .i64 x.st, .slice p k r, .slice q m d] 27 (0, 0)) := (hg7.block G X6.out.lt (fun e => by obtain ⟨ad, f1, f2⟩ := block_of e.symm; exact X6.out.qG ad f1 f2)).trans X6.out.heap
         obtain ⟨h70, h71, h72, k70, k71, k72⟩ := three_cells h7
         clear ho7 hg7 hw7 h7 e0 e1 e2 g0 g1 g2 y0 y1 y2 y3 hs5
         go_wp2_with fail
         go_roundw
         case rel => exact ⟨i + 1, _, p, k, r, q7, m + 1, y7, by go_num, by omega, HP7.out.1, Lib.hid ⟨HO.out.1, HO.out.2.1, by have := HO.out.2.2.1; simp; omega, fun z hz => by
          rcases List.mem_append.1 hz with h | h
          ·exact HO.out.2.2.2 z h
          ·rw [List.mem_singleton.1 h]
           unfold I64
           dsimp only
           omega⟩, D7.out⟩
         case measure => simp [intOf]; omega
        ·go_wp2_with fail
         go_roundw
         case rel => exact ⟨i + 1, x, p, k, r, q, m, d, by go_num, by omega, X5.out, Lib.hid ⟨HO.out.1, HO.out.2.1, by have := HO.out.2.2.1; omega, HO.out.2.2.2⟩, D5.out⟩
         case measure => simp [intOf]; omega
      ·skip
       go_simp
       have D1 : Hid (Drawn b a n c WA (World.drew (World.alloc wr (.cells #[.int .i64 0, .bool false, .int .i64 0, .int .i64 0] 63)))) := Lib.hid (DS0.out.same (alloc_same _ _))
       have X1 : Hid (BoxM WA.heap.size (World.drew (World.alloc wr (.cells #[.int .i64 0, .bool false, .int .i64 0, .int .i64 0] 63))) G x p k r q m d) := Lib.hid (XS0.out.same (alloc_same _ _))
       have Z1 : Hid ((World.drew (World.alloc wr (.cells #[.int .i64 0, .bool false, .int .i64 0, .int .i64 0] 63))).heap[wr.heap.size]? = some (.cells #[.int .i64 0, .bool false, .int .i64 0, .int .i64 0] 63 (0, 0))) := Lib.hid (heap_alloc_new wr.drew (.cells #[.int .i64 0, .bool false, .int .i64 0, .int .i64 0] 63 (0, 0)))
       refine hK.out _ _ (by have h9 := (three_cells X1.out.heap).1; rwa [show x.st = st from HO.out.1] at h9) (fun hHeld => ?_)
       clear hK K
       try simp only [Act.put, set9]
       refine wpAnyH_ready (rs := [3]) (by kernel_rfl) (by simp) (AllReadyH.cons (by simp only [get9]; rfl) (fun K hK => ?_) AllReadyH.nil)
       go_simp
       refine (below_any b a n c 3 (by omega) (by omega) _ D1.out.1).mono ?_
       rintro e v2 ⟨z1, hz10, hz11, rfl, hd2⟩
       have D2 := Lib.hid (D1.out.trans hd2)
       have X2 := Lib.hid (X1.out.only hd2.2 (by omega))
       have Z2 : Hid (v2.heap[wr.heap.size]? = some (.cells #[.int .i64 0, .bool false, .int .i64 0, .int .i64 0] 63 (0, 0))) := Lib.hid ((hd2.2.block _ (by have := Z1.out; exact (Array.getElem?_eq_some_iff.1 this).1) (by have := hbig; omega)).trans Z1.out)
       have sv2 := hd2.2.size
       clear hd2
       go_wp2_with fail
       refine hK.out _ _ (by have h9 := (three_cells X2.out.heap).1; rwa [show x.st = st from HO.out.1] at h9) (fun hHeld => ?_)
       clear hK K
       try simp only [Act.put, set9]
       refine wpAnyH_ready (rs := [7]) (by kernel_rfl) (by simp) (AllReadyH.cons (by simp only [get9]; rfl) (fun K hK => ?_) AllReadyH.nil)
       go_simp
       refine (below_any b a n c st (by omega) (by omega) _ D2.out.1).mono ?_
       rintro e v3 ⟨z2, hz20, hz21, rfl, hd3⟩
       have D3 := Lib.hid (D2.out.trans hd3)
       have X3 := Lib.hid (X2.out.only hd3.2 (by omega))
       have Z3 : Hid (v3.heap[wr.heap.size]? = some (.cells #[.int .i64 0, .bool false, .int .i64 0, .int .i64 0] 63 (0, 0))) := Lib.hid ((hd3.2.block _ (by have := Z2.out; exact (Array.getElem?_eq_some_iff.1 this).1) (by have := hbig; omega)).trans Z2.out)
       have sv3 := hd3.2.size
       clear hd3
       go_wp2_with fail
       refine hK.out _ _ (by have h9 := (three_cells X3.out.heap).1; rwa [show x.st = st from HO.out.1] at h9) (fun hHeld => ?_)
       clear hK K
       try simp only [Act.put, set9]
       refine wpAnyH_take (i := 8) (v := ?v9) (by simp only [get9]; rfl) (by kernel_rfl) (by kernel_rfl) (by kernel_rfl) (by exact fun _ _ _ h => h) (Or.inl ⟨by rfl, fun w9 hS9 => ?hy9⟩) hHeld ?rest9
       case hy9 =>
        dsimp only at hS9
        skip
        go_simp
        try with_reducible rfl
       try simp only [Act.put, set9]
       refine wpAnyH_ready (rs := [10]) (by kernel_rfl) (by simp) (AllReadyH.cons (by simp only [get9]; rfl) (fun K hK => ?_) AllReadyH.nil)
       obtain ⟨y0, y1, y2, y3⟩ := four_at9 Z3.out
       have yf0 := block_frozen Z3.out 0
       have yf1 := block_frozen Z3.out 1
       have yf2 := block_frozen Z3.out 2
       have yf3 := block_frozen Z3.out 3
       have hgg : G < wr.heap.size := by have := XS0.out.lt; exact this
       have GF : Hid (Inside wr.heap.size (wr.heap.size + 1) v3 ((((v3.setCell ⟨wr.heap.size, 0, none⟩ (.int .i64 0)).setCell ⟨wr.heap.size, 1, none⟩ (.bool send)).setCell ⟨wr.heap.size, 2, none⟩ (.int .i64 z1)).setCell ⟨wr.heap.size, 3, none⟩ (.int .i64 z2))) := Lib.hid ((((Inside.row (put_grown _ _ _ _) (fun r e => by cases e; omega)).trans (Inside.row (put_grown _ _ _ _) (fun r e => by cases e; omega))).trans (Inside.row (put_grown _ _ _ _) (fun r e => by cases e; omega))).trans (Inside.row (put_grown _ _ _ _) (fun r e => by cases e; omega)))
       have HQ9 := Lib.hid (XS0.out)
       have XF : Hid (BoxM WA.heap.size ((((v3.setCell ⟨wr.heap.size, 0, none⟩ (.int .i64 0)).setCell ⟨wr.heap.size, 1, none⟩ (.bool send)).setCell ⟨wr.heap.size, 2, none⟩ (.int .i64 z1)).setCell ⟨wr.heap.size, 3, none⟩ (.int .i64 z2)) G x p k r q m d) := Lib.hid ⟨X3.out.base, (GF.out.block G X3.out.lt (Or.inl hgg)).trans X3.out.heap, X3.out.ends.aside GF.out (lo' := 0) (hi' := wr.heap.size) (fun ad e => ⟨Nat.zero_le _, (HQ9.out.ends.span ad e).2⟩) (Or.inr (Nat.le_refl _)), X3.out.moves.aside GF.out (lo' := 0) (hi' := wr.heap.size) (fun ad e => ⟨Nat.zero_le _, (HQ9.out.moves.span ad e).2⟩) (Or.inr (Nat.le_refl _)), X3.out.sep, X3.out.pG, X3.out.qG⟩
       have DF : Hid (Drawn b a n c WA ((((v3.setCell ⟨wr.heap.size, 0, none⟩ (.int .i64 0)).setCell ⟨wr.heap.size, 1, none⟩ (.bool send)).setCell ⟨wr.heap.size, 2, none⟩ (.int .i64 z1)).setCell ⟨wr.heap.size, 3, none⟩ (.int .i64 z2))) := Lib.hid (D3.out.under HC.out (GF.out.to (Below.refl _ _) (by omega) (by have := D3.out.2.size; omega)) (Nat.le_refl _))
       have ZF : Hid (((((v3.setCell ⟨wr.heap.size, 0, none⟩ (.int .i64 0)).setCell ⟨wr.heap.size, 1, none⟩ (.bool send)).setCell ⟨wr.heap.size, 2, none⟩ (.int .i64 z1)).setCell ⟨wr.heap.size, 3, none⟩ (.int .i64 z2)).heap[wr.heap.size]? = some (.cells #[.int .i64 0, .bool send, .int .i64 z1, .int .i64 z2] 63 (0, 0))) := Lib.hid (four_put9 Z3.out _ _ _ _)
       clear GF
       go_simp
       refine hK.out _ _ (by have h9 := (three_cells XF.out.heap).1; rwa [show x.st = st from HO.out.1] at h9) (fun hHeld => ?_)
       clear hK K
       try simp only [Act.put, set9]
       refine wpAnyH_done (by kernel_rfl) ?_ _
       generalize hgW : ((((v3.setCell ⟨wr.heap.size, 0, none⟩ (.int .i64 0)).setCell ⟨wr.heap.size, 1, none⟩ (.bool send)).setCell ⟨wr.heap.size, 2, none⟩ (.int .i64 z1)).setCell ⟨wr.heap.size, 3, none⟩ (.int .i64 z2)) = W8 at *
       clear hgW
       obtain ⟨Gm, hGm⟩ : ∃ u, u = wr.heap.size := ⟨_, rfl⟩
       have ZG : Hid (W8.heap[Gm]? = some (.cells #[.int .i64 0, .bool send, .int .i64 z1, .int .i64 z2] 63 (0, 0))) := Lib.hid (by rw [hGm]; exact ZF.out)
       rw [← hGm]
       clear hGm ZF
       obtain ⟨y0, y1, y2, y3⟩ := four_at9 ZG.out
       obtain ⟨e0, e1, e2, -, -, -⟩ := three_cells XF.out.heap
       rw [show x.st = st from HO.out.1] at e0
       go_wp2_with fail
       clear e0 e1 e2 y0 y1 y2 y3
       have HMC : Hid (MacW W8 (.agg #[.int .i64 st, .slice p k r, .slice q m d]) x) := Lib.hid (by have h9 := XF.out.mac; rwa [show x.st = st from HO.out.1] at h9)
       refine (specMoveOf_any 0 send z1 HMC.out).mono ?_
       rintro e w5 ⟨rfl, hb5⟩
       have D5 := Lib.hid (DF.out.same hb5)
       have X5 := Lib.hid (XF.out.same hb5)
       have Z5 := Lib.hid ((hb5.block _ (Array.getElem?_eq_some_iff.1 ZG.out).1).trans ZG.out)
       clear hb5
       by_cases hneg : moveOf x 0 send z1 < 0
       ·obtain ⟨y0, y1, y2, y3⟩ := four_at9 Z5.out
        obtain ⟨e0, e1, e2, g0, g1, g2⟩ := three_cells X5.out.heap
        have HNM : Hid (Mvs (w5.alloc (.cells #[.int .i64 0, .bool send, .int .i64 z1, .int .i64 z2] 63)) (some ⟨w5.heap.size, 0, none⟩) 1 [⟨0, send, z1, z2⟩]) := Lib.hid (items_new (enc := Mv.enc) (s := 4) Mv.enc_len w5 ⟨0, send, z1, z2⟩ 63)
        have X6 : Hid (BoxM WA.heap.size (w5.alloc (.cells #[.int .i64 0, .bool send, .int .i64 z1, .int .i64 z2] 63)) G x p k r q m d) := Lib.hid (X5.out.same (alloc_same _ _))
        have hs5 : WA.heap.size ≤ (w5.alloc (.cells #[.int .i64 0, .bool send, .int .i64 z1, .int .i64 z2] 63)).heap.size := by have := D5.out.2.size; simp; omega
        go_wp2_with (at_builtin; refine wpl_appW _ Mv.enc_len (by omega) Mv.cells rfl (.tmp 50) (.tmp 52) 25 rfl 63 i1 (.agg #[.int .i64 0, .bool false, .int .i64 0, .int .i64 0]) 32 Try.underlying25 HI1.out.1 HI1.out.2.1 HI1.out.2.2.1 HI1.out.2.2.2 rfl rfl X6.out.moves rfl HNM.out (by omega) ?ca ?cb ?_)
        case ca => omega
        case cb => exact hs5
        intro q7 y7 w7 ho7 hg7 hw7
        have HP7 := Lib.hid (X6.out.pushM ho7 hg7 hw7)
        have D7 : Hid (Drawn b a n c WA (w7.setCell ⟨G, 2, none⟩ (.slice q7 (m + 1 : Nat) y7))) := Lib.hid (D5.out.under HC.out ((Below.refl _ w5 |>.alloc (by have := D5.out.2.size; omega) _).trans HP7.out.2) (Nat.le_refl _))
        have h7 : w7.heap[G]? = some (.cells #[.int .i64 x.st, .slice p k r, .slice q m d] 27 (0, 0)) := (hg7.block G X6.out.lt (fun e => by obtain ⟨ad, f1, f2⟩ := block_of e.symm; exact X6.out.qG ad f1 f2)).trans X6.out.heap
        obtain ⟨h70, h71, h72, k70, k71, k72⟩ := three_cells h7
        clear ho7 hg7 hw7 h7 e0 e1 e2 g0 g1 g2 y0 y1 y2 y3 hs5
        go_wp2_with fail
        go_roundw
        case rel => exact ⟨i + 1, _, p, k, r, q7, m + 1, y7, by go_num, by omega, HP7.out.1, Lib.hid ⟨HO.out.1, HO.out.2.1, by have := HO.out.2.2.1; simp; omega, fun z hz => by
         rcases List.mem_append.1 hz with h | h
         ·exact HO.out.2.2.2 z h
         ·rw [List.mem_singleton.1 h]
          unfold I64
          dsimp only
          omega⟩, D7.out⟩
        case measure => simp [intOf]; omega
       ·go_wp2_with fail
        go_roundw
        case rel => exact ⟨i + 1, x, p, k, r, q, m, d, by go_num, by omega, X5.out, Lib.hid ⟨HO.out.1, HO.out.2.1, by have := HO.out.2.2.1; omega, HO.out.2.2.2⟩, D5.out⟩
        case measure => simp [intOf]; omega
     ·obtain rfl : n9 = i := by omega
      clear g0 g1 g2
      by_cases hn0 : n9 = 0
      ·subst hn0
       go_wp2_with fail
       have C1 := Lib.hid e1
       have XS0 : Hid (BoxM WA.heap.size wr.drew G x p k r q m d) := Lib.hid (HX.out.same (Below.refl _ wr).drew)
       have DS0 : Hid (Drawn b a n c WA wr.drew) := Lib.hid (HD.out.same (Below.refl _ wr).drew)
       clear e0 e1 e2
       refine wp_region_held_drew (S := fun w9 => True) (by kernel_rfl) trivial (fun hHeld => ?_)
       refine wpAnyH_take (i := 0) (v := ?v10) (by simp only [get9]; rfl) (by kernel_rfl) (by kernel_rfl) (by kernel_rfl) (by exact fun _ _ _ h => h) (Or.inl ⟨by rfl, fun w9 hS9 => ?hy10⟩) hHeld ?rest10
       case hy10 =>
        dsimp only at hS9
        skip
        go_simp
        try with_reducible rfl
       try simp only [Act.put, set9]
       refine wpAnyH_take (i := 2) (v := ?v11) (by simp only [get9]; rfl) (by kernel_rfl) (by kernel_rfl) (by kernel_rfl) (by exact fun _ _ _ h => h) (Or.inl ⟨by rfl, fun w9 hS9 => ?hy11⟩) hHeld ?rest11
       case hy11 =>
        dsimp only at hS9
        skip
        go_simp
        try with_reducible rfl
       try simp only [Act.put, set9]
       refine wpAnyH_take (i := 3) (v := ?v12) (by simp only [get9]; rfl) (by kernel_rfl) (by kernel_rfl) (by kernel_rfl) (by exact fun _ _ _ h => h) (Or.inl ⟨by rfl, fun w9 hS9 => ?hy12⟩) hHeld ?rest12
       case hy12 =>
        dsimp only at hS9
        skip
        go_simp
        try with_reducible rfl
       try simp only [Act.put, set9]
       refine wpAnyH_take (i := 4) (v := ?v13) (by simp only [get9]; rfl) (by kernel_rfl) (by kernel_rfl) (by kernel_rfl) (by exact fun _ _ _ h => h) (Or.inl ⟨by rfl, fun w9 hS9 => ?hy13⟩) hHeld ?rest13
       case hy13 =>
        dsimp only at hS9
        skip
        go_simp
        try with_reducible rfl
       try simp only [Act.put, set9]
       refine wpAnyH_take (i := 5) (v := undef) (by simp only [get9]; rfl) (by kernel_rfl) (by kernel_rfl) (by kernel_rfl) (by exact fun _ _ _ h => h) (Or.inr ⟨by rfl, by rfl⟩) hHeld ?_
       try simp only [Act.put, set9]
       refine wpAnyH_take (i := 6) (v := undef) (by simp only [get9]; rfl) (by kernel_rfl) (by kernel_rfl) (by kernel_rfl) (by exact fun _ _ _ h => h) (Or.inr ⟨by rfl, by rfl⟩) hHeld ?_
       try simp only [Act.put, set9]
       refine wpAnyH_take (i := 7) (v := ?v14) (by simp only [get9]; rfl) (by kernel_rfl) (by kernel_rfl) (by kernel_rfl) (by exact fun _ _ _ h => h) (Or.inl ⟨by rfl, fun w9 hS9 => ?hy14⟩) hHeld ?rest14
       case hy14 =>
        dsimp only at hS9
        skip
        go_simp
        try with_reducible rfl
       try simp only [Act.put, set9]
       refine wpAnyH_ready (rs := [1, 8]) (by kernel_rfl) (by simp) (AllReadyH.cons (by simp only [get9]; rfl) (fun K hK => ?_) (AllReadyH.cons (by simp only [get9]; rfl) (fun K hK => ?_) AllReadyH.nil))
       ·skip
        have ec1 := (three_cells XS0.out.heap).2.1
        go_simp
        clear ec1
        refine hK.out _ _ trivial (fun hHeld => ?_)
        clear hK K
        try simp only [Act.put, set9]
        refine wpAnyH_ready (rs := [8]) (by kernel_rfl) (by simp) (AllReadyH.cons (by simp only [get9]; rfl) (fun K hK => ?_) AllReadyH.nil)
        go_simp
        have XS2 : Hid (BoxM WA.heap.size (World.drew (World.alloc wr (.cells #[.bool true] 4))) G x p k r q m d) := Lib.hid (XS0.out.same (alloc_same _ _))
        have DS2 : Hid (Drawn b a n c WA (World.drew (World.alloc wr (.cells #[.bool true] 4)))) := Lib.hid (DS0.out.same (alloc_same _ _))
        have HNB : Hid (Bls (World.drew (World.alloc wr (.cells #[.bool true] 4))) (some ⟨wr.heap.size, 0, none⟩) 1 [true]) := Lib.hid (items_new (enc := blEnc) (s := 1) blEnc_len wr.drew true 4)
        refine hK.out _ _ trivial (fun hHeld => ?_)
        clear hK K
        try simp only [Act.put, set9]
        refine wpAnyH_ready (rs := [9]) (by kernel_rfl) (by simp) (AllReadyH.cons (by simp only [get9]; rfl) (fun K hK => ?_) AllReadyH.nil)
        refine step_appW _ blEnc_len (by omega) blEnc_one (by rfl) (.tmp 56) (.tmp 63) 24 (by rfl) 4 i0 (.bool false) 1 Try.underlying24 HI.out.1 HI.out.2.1 HI.out.2.2.1 HI.out.2.2.2 rfl (by rfl) XS2.out.ends (by rfl) HNB.out (by omega) (by omega) (by have := DS2.out.2.size; omega) ?_
        intro p7 y7 w7 ho7 hg7 hw7
        have HP7 := Lib.hid (XS2.out.pushE ho7 hg7 hw7)
        have D7 : Hid (Drawn b a n c WA (w7.setCell ⟨G, 1, none⟩ (.slice p7 (k + 1 : Nat) y7))) := Lib.hid (DS2.out.under HC.out HP7.out.2 (Nat.le_refl _))
        have h7 : w7.heap[G]? = some (.cells #[.int .i64 x.st, .slice p k r, .slice q m d] 27 (0, 0)) := (hg7.block G XS2.out.lt (fun e => by obtain ⟨ad, f1, f2⟩ := block_of e.symm; exact XS2.out.pG ad f1 f2)).trans XS2.out.heap
        obtain ⟨h70, h71, h72, k70, k71, k72⟩ := three_cells h7
        clear ho7 hg7 hw7 h7
        refine hK.out _ _ trivial (fun hHeld => ?_)
        clear hK K
        try simp only [Act.put, set9]
        refine wpAnyH_take (i := 10) (v := ?v15) (by simp only [get9]; rfl) (by kernel_rfl) (by kernel_rfl) (by kernel_rfl) (by exact fun _ _ _ h => h) (Or.inl ⟨by rfl, fun w9 hS9 => ?hy15⟩) hHeld ?rest15
        case hy15 =>
         dsimp only at hS9
         skip
         go_simp
         try with_reducible rfl
        try simp only [Act.put, set9]
        refine wpAnyH_ready (rs := [11]) (by kernel_rfl) (by simp) (AllReadyH.cons (by simp only [get9]; rfl) (fun K hK => ?_) AllReadyH.nil)
        go_simp
        refine hK.out _ _ trivial (fun hHeld => ?_)
        clear hK K
        try simp only [Act.put, set9]
        refine wpAnyH_done (by kernel_rfl) ?_ _
        go_wp2_with fail
        go_roundw
        case rel => exact ⟨0 + 1, _, p7, k + 1, y7, q, m, d, by go_num, by omega, HP7.out.1, Lib.hid ⟨HO.out.1, by have h9 := HO.out.2.1; dsimp only; rw [List.length_append, h9]; rfl, by have := HO.out.2.2.1; dsimp only; omega, HO.out.2.2.2⟩, D7.out⟩
        case measure => simp [intOf]; omega
       ·skip
        go_simp
        have XS2 : Hid (BoxM WA.heap.size (World.drew (World.alloc wr (.cells #[.bool true] 4))) G x p k r q m d) := Lib.hid (XS0.out.same (alloc_same _ _))
        have DS2 : Hid (Drawn b a n c WA (World.drew (World.alloc wr (.cells #[.bool true] 4)))) := Lib.hid (DS0.out.same (alloc_same _ _))
        have HNB : Hid (Bls (World.drew (World.alloc wr (.cells #[.bool true] 4))) (some ⟨wr.heap.size, 0, none⟩) 1 [true]) := Lib.hid (items_new (enc := blEnc) (s := 1) blEnc_len wr.drew true 4)
        refine hK.out _ _ trivial (fun hHeld => ?_)
        clear hK K
        try simp only [Act.put, set9]
        refine wpAnyH_ready (rs := [1]) (by kernel_rfl) (by simp) (AllReadyH.cons (by simp only [get9]; rfl) (fun K hK => ?_) AllReadyH.nil)
        have ec1 := (three_cells XS2.out.heap).2.1
        go_simp
        clear ec1
        refine hK.out _ _ trivial (fun hHeld => ?_)
        clear hK K
        try simp only [Act.put, set9]
        refine wpAnyH_ready (rs := [9]) (by kernel_rfl) (by simp) (AllReadyH.cons (by simp only [get9]; rfl) (fun K hK => ?_) AllReadyH.nil)
        refine step_appW _ blEnc_len (by omega) blEnc_one (by rfl) (.tmp 56) (.tmp 63) 24 (by rfl) 4 i0 (.bool false) 1 Try.underlying24 HI.out.1 HI.out.2.1 HI.out.2.2.1 HI.out.2.2.2 rfl (by rfl) XS2.out.ends (by rfl) HNB.out (by omega) (by omega) (by have := DS2.out.2.size; omega) ?_
        intro p7 y7 w7 ho7 hg7 hw7
        have HP7 := Lib.hid (XS2.out.pushE ho7 hg7 hw7)
        have D7 : Hid (Drawn b a n c WA (w7.setCell ⟨G, 1, none⟩ (.slice p7 (k + 1 : Nat) y7))) := Lib.hid (DS2.out.under HC.out HP7.out.2 (Nat.le_refl _))
        have h7 : w7.heap[G]? = some (.cells #[.int .i64 x.st, .slice p k r, .slice q m d] 27 (0, 0)) := (hg7.block G XS2.out.lt (fun e => by obtain ⟨ad, f1, f2⟩ := block_of e.symm; exact XS2.out.pG ad f1 f2)).trans XS2.out.heap
        obtain ⟨h70, h71, h72, k70, k71, k72⟩ := three_cells h7
        clear ho7 hg7 hw7 h7
        refine hK.out _ _ trivial (fun hHeld => ?_)
        clear hK K
        try simp only [Act.put, set9]
        refine wpAnyH_take (i := 10) (v := ?v16) (by simp only [get9]; rfl) (by kernel_rfl) (by kernel_rfl) (by kernel_rfl) (by exact fun _ _ _ h => h) (Or.inl ⟨by rfl, fun w9 hS9 => ?hy16⟩) hHeld ?rest16
        case hy16 =>
         dsimp only at hS9
         skip
         go_simp
         try with_reducible rfl
        try simp only [Act.put, set9]
        refine wpAnyH_ready (rs := [11]) (by kernel_rfl) (by simp) (AllReadyH.cons (by simp only [get9]; rfl) (fun K hK => ?_) AllReadyH.nil)
        go_simp
        refine hK.out _ _ trivial (fun hHeld => ?_)
        clear hK K
        try simp only [Act.put, set9]
        refine wpAnyH_done (by kernel_rfl) ?_ _
        go_wp2_with fail
        go_roundw
        case rel => exact ⟨0 + 1, _, p7, k + 1, y7, q, m, d, by go_num, by omega, HP7.out.1, Lib.hid ⟨HO.out.1, by have h9 := HO.out.2.1; dsimp only; rw [List.length_append, h9]; rfl, by have := HO.out.2.2.1; dsimp only; omega, HO.out.2.2.2⟩, D7.out⟩
        case measure => simp [intOf]; omega
      ·have hnI : ((n9 : Int) == 0) = false := by simp; omega
       go_wp2_with fail
       have C1 := Lib.hid e1
       have XS0 : Hid (BoxM WA.heap.size wr.drew G x p k r q m d) := Lib.hid (HX.out.same (Below.refl _ wr).drew)
       have DS0 : Hid (Drawn b a n c WA wr.drew) := Lib.hid (HD.out.same (Below.refl _ wr).drew)
       clear e0 e1 e2
       refine wp_region_held_drew (S := fun w9 => True) (by kernel_rfl) trivial (fun hHeld => ?_)
       refine wpAnyH_take (i := 0) (v := ?v17) (by simp only [get9]; rfl) (by kernel_rfl) (by kernel_rfl) (by kernel_rfl) (by exact fun _ _ _ h => h) (Or.inl ⟨by rfl, fun w9 hS9 => ?hy17⟩) hHeld ?rest17
       case hy17 =>
        dsimp only at hS9
        skip
        go_simp
        try with_reducible rfl
       try simp only [Act.put, set9]
       refine wpAnyH_take (i := 2) (v := ?v18) (by simp only [get9]; rfl) (by kernel_rfl) (by kernel_rfl) (by kernel_rfl) (by exact fun _ _ _ h => h) (Or.inl ⟨by rfl, fun w9 hS9 => ?hy18⟩) hHeld ?rest18
       case hy18 =>
        dsimp only at hS9
        skip
        go_simp
        try with_reducible rfl
       try simp only [Act.put, set9]
       refine wpAnyH_take (i := 3) (v := ?v19) (by simp only [get9]; rfl) (by kernel_rfl) (by kernel_rfl) (by kernel_rfl) (by exact fun _ _ _ h => h) (Or.inl ⟨by rfl, fun w9 hS9 => ?hy19⟩) hHeld ?rest19
       case hy19 =>
        dsimp only at hS9
        skip
        go_simp
        try with_reducible rfl
       try simp only [Act.put, set9]
       refine wpAnyH_take (i := 4) (v := ?v20) (by simp only [get9]; rfl) (by kernel_rfl) (by kernel_rfl) (by kernel_rfl) (by exact fun _ _ _ h => h) (Or.inl ⟨by rfl, fun w9 hS9 => ?hy20⟩) hHeld ?rest20
       case hy20 =>
        dsimp only at hS9
        skip
        go_simp
        try with_reducible rfl
       try simp only [Act.put, set9]
       refine wpAnyH_take (i := 5) (v := ?v21) (by simp only [get9]; rfl) (by kernel_rfl) (by kernel_rfl) (by kernel_rfl) (by exact fun _ _ _ h => h) (Or.inl ⟨by rfl, fun w9 hS9 => ?hy21⟩) hHeld ?rest21
       case hy21 =>
        dsimp only at hS9
        skip
        go_simp
        try with_reducible rfl
       try simp only [Act.put, set9]
       refine wpAnyH_ready (rs := [1, 6]) (by kernel_rfl) (by simp) (AllReadyH.cons (by simp only [get9]; rfl) (fun K hK => ?_) (AllReadyH.cons (by simp only [get9]; rfl) (fun K hK => ?_) AllReadyH.nil))
       ·skip
        have ec1 := (three_cells XS0.out.heap).2.1
        go_simp
        clear ec1
        refine hK.out _ _ trivial (fun hHeld => ?_)
        clear hK K
        try simp only [Act.put, set9]
        refine wpAnyH_ready (rs := [6]) (by kernel_rfl) (by simp) (AllReadyH.cons (by simp only [get9]; rfl) (fun K hK => ?_) AllReadyH.nil)
        go_simp
        refine (once_any b a n c 4 (by omega) (by omega) _ DS0.out.1).mono ?_
        rintro e v1 ⟨bz, rfl, hd1⟩
        have DS1 := Lib.hid (DS0.out.trans hd1)
        have XS1 := Lib.hid (XS0.out.only hd1.2 (by omega))
        clear hd1
        go_wp2_with fail
        refine hK.out _ _ trivial (fun hHeld => ?_)
        clear hK K
        try simp only [Act.put, set9]
        refine wpAnyH_take (i := 7) (v := ?v22) (by simp only [get9]; rfl) (by kernel_rfl) (by kernel_rfl) (by kernel_rfl) (by exact fun _ _ _ h => h) (Or.inl ⟨by rfl, fun w9 hS9 => ?hy22⟩) hHeld ?rest22
        case hy22 =>
         dsimp only at hS9
         skip
         go_simp
         try with_reducible rfl
        try simp only [Act.put, set9]
        refine wpAnyH_ready (rs := [8]) (by kernel_rfl) (by simp) (AllReadyH.cons (by simp only [get9]; rfl) (fun K hK => ?_) AllReadyH.nil)
        go_simp
        have XS2 : Hid (BoxM WA.heap.size (World.alloc v1 (.cells #[.bool bz] 4)) G x p k r q m d) := Lib.hid (XS1.out.same (alloc_same _ _))
        have DS2 : Hid (Drawn b a n c WA (World.alloc v1 (.cells #[.bool bz] 4))) := Lib.hid (DS1.out.same (alloc_same _ _))
        have HNB : Hid (Bls (World.alloc v1 (.cells #[.bool bz] 4)) (some ⟨v1.heap.size, 0, none⟩) 1 [bz]) := Lib.hid (items_new (enc := blEnc) (s := 1) blEnc_len v1 bz 4)
        refine hK.out _ _ trivial (fun hHeld => ?_)
        clear hK K
        try simp only [Act.put, set9]
        refine wpAnyH_ready (rs := [9]) (by kernel_rfl) (by simp) (AllReadyH.cons (by simp only [get9]; rfl) (fun K hK => ?_) AllReadyH.nil)
        refine step_appW _ blEnc_len (by omega) blEnc_one (by rfl) (.tmp 56) (.tmp 63) 24 (by rfl) 4 i0 (.bool false) 1 Try.underlying24 HI.out.1 HI.out.2.1 HI.out.2.2.1 HI.out.2.2.2 rfl (by rfl) XS2.out.ends (by rfl) HNB.out (by omega) (by omega) (by have := DS2.out.2.size; omega) ?_
        intro p7 y7 w7 ho7 hg7 hw7
        have HP7 := Lib.hid (XS2.out.pushE ho7 hg7 hw7)
        have D7 : Hid (Drawn b a n c WA (w7.setCell ⟨G, 1, none⟩ (.slice p7 (k + 1 : Nat) y7))) := Lib.hid (DS2.out.under HC.out HP7.out.2 (Nat.le_refl _))
        have h7 : w7.heap[G]? = some (.cells #[.int .i64 x.st, .slice p k r, .slice q m d] 27 (0, 0)) := (hg7.block G XS2.out.lt (fun e => by obtain ⟨ad, f1, f2⟩ := block_of e.symm; exact XS2.out.pG ad f1 f2)).trans XS2.out.heap
        obtain ⟨h70, h71, h72, k70, k71, k72⟩ := three_cells h7
        clear ho7 hg7 hw7 h7
        refine hK.out _ _ trivial (fun hHeld => ?_)
        clear hK K
        try simp only [Act.put, set9]
        refine wpAnyH_take (i := 10) (v := ?v23) (by simp only [get9]; rfl) (by kernel_rfl) (by kernel_rfl) (by kernel_rfl) (by exact fun _ _ _ h => h) (Or.inl ⟨by rfl, fun w9 hS9 => ?hy23⟩) hHeld ?rest23
        case hy23 =>
         dsimp only at hS9
         skip
         go_simp
         try with_reducible rfl
        try simp only [Act.put, set9]
        refine wpAnyH_ready (rs := [11]) (by kernel_rfl) (by simp) (AllReadyH.cons (by simp only [get9]; rfl) (fun K hK => ?_) AllReadyH.nil)
        go_simp
        refine hK.out _ _ trivial (fun hHeld => ?_)
        clear hK K
        try simp only [Act.put, set9]
        refine wpAnyH_done (by kernel_rfl) ?_ _
        go_wp2_with fail
        go_roundw
        case rel => exact ⟨0 + 1, _, p7, k + 1, y7, q, m, d, by go_num, by omega, HP7.out.1, Lib.hid ⟨HO.out.1, by have h9 := HO.out.2.1; dsimp only; rw [List.length_append, h9]; rfl, by have := HO.out.2.2.1; dsimp only; omega, HO.out.2.2.2⟩, D7.out⟩
        case measure => simp [intOf]; omega
       ·skip
        go_simp
        refine (once_any b a n c 4 (by omega) (by omega) _ DS0.out.1).mono ?_
        rintro e v1 ⟨bz, rfl, hd1⟩
        have DS1 := Lib.hid (DS0.out.trans hd1)
        have XS1 := Lib.hid (XS0.out.only hd1.2 (by omega))
        clear hd1
        go_wp2_with fail
        refine hK.out _ _ trivial (fun hHeld => ?_)
        clear hK K
        try simp only [Act.put, set9]
        refine wpAnyH_take (i := 7) (v := ?v24) (by simp only [get9]; rfl) (by kernel_rfl) (by kernel_rfl) (by kernel_rfl) (by exact fun _ _ _ h => h) (Or.inl ⟨by rfl, fun w9 hS9 => ?hy24⟩) hHeld ?rest24
        case hy24 =>
         dsimp only at hS9
         skip
         go_simp
         try with_reducible rfl
        try simp only [Act.put, set9]
        refine wpAnyH_ready (rs := [1, 8]) (by kernel_rfl) (by simp) (AllReadyH.cons (by simp only [get9]; rfl) (fun K hK => ?_) (AllReadyH.cons (by simp only [get9]; rfl) (fun K hK => ?_) AllReadyH.nil))
        ·skip
         have ec1 := (three_cells XS1.out.heap).2.1
         go_simp
         clear ec1
         refine hK.out _ _ trivial (fun hHeld => ?_)
         clear hK K
         try simp only [Act.put, set9]
         refine wpAnyH_ready (rs := [8]) (by kernel_rfl) (by simp) (AllReadyH.cons (by simp only [get9]; rfl) (fun K hK => ?_) AllReadyH.nil)
         go_simp
         have XS2 : Hid (BoxM WA.heap.size (World.alloc v1 (.cells #[.bool bz] 4)) G x p k r q m d) := Lib.hid (XS1.out.same (alloc_same _ _))
         have DS2 : Hid (Drawn b a n c WA (World.alloc v1 (.cells #[.bool bz] 4))) := Lib.hid (DS1.out.same (alloc_same _ _))
         have HNB : Hid (Bls (World.alloc v1 (.cells #[.bool bz] 4)) (some ⟨v1.heap.size, 0, none⟩) 1 [bz]) := Lib.hid (items_new (enc := blEnc) (s := 1) blEnc_len v1 bz 4)
         refine hK.out _ _ trivial (fun hHeld => ?_)
         clear hK K
         try simp only [Act.put, set9]
         refine wpAnyH_ready (rs := [9]) (by kernel_rfl) (by simp) (AllReadyH.cons (by simp only [get9]; rfl) (fun K hK => ?_) AllReadyH.nil)
         refine step_appW _ blEnc_len (by omega) blEnc_one (by rfl) (.tmp 56) (.tmp 63) 24 (by rfl) 4 i0 (.bool false) 1 Try.underlying24 HI.out.1 HI.out.2.1 HI.out.2.2.1 HI.out.2.2.2 rfl (by rfl) XS2.out.ends (by rfl) HNB.out (by omega) (by omega) (by have := DS2.out.2.size; omega) ?_
         intro p7 y7 w7 ho7 hg7 hw7
         have HP7 := Lib.hid (XS2.out.pushE ho7 hg7 hw7)
         have D7 : Hid (Drawn b a n c WA (w7.setCell ⟨G, 1, none⟩ (.slice p7 (k + 1 : Nat) y7))) := Lib.hid (DS2.out.under HC.out HP7.out.2 (Nat.le_refl _))
         have h7 : w7.heap[G]? = some (.cells #[.int .i64 x.st, .slice p k r, .slice q m d] 27 (0, 0)) := (hg7.block G XS2.out.lt (fun e => by obtain ⟨ad, f1, f2⟩ := block_of e.symm; exact XS2.out.pG ad f1 f2)).trans XS2.out.heap
         obtain ⟨h70, h71, h72, k70, k71, k72⟩ := three_cells h7
         clear ho7 hg7 hw7 h7
         refine hK.out _ _ trivial (fun hHeld => ?_)
         clear hK K
         try simp only [Act.put, set9]
         refine wpAnyH_take (i := 10) (v := ?v25) (by simp only [get9]; rfl) (by kernel_rfl) (by kernel_rfl) (by kernel_rfl) (by exact fun _ _ _ h => h) (Or.inl ⟨by rfl, fun w9 hS9 => ?hy25⟩) hHeld ?rest25
         case hy25 =>
          dsimp only at hS9
          skip
          go_simp
          try with_reducible rfl
         try simp only [Act.put, set9]
         refine wpAnyH_ready (rs := [11]) (by kernel_rfl) (by simp) (AllReadyH.cons (by simp only [get9]; rfl) (fun K hK => ?_) AllReadyH.nil)
         go_simp
         refine hK.out _ _ trivial (fun hHeld => ?_)
         clear hK K
         try simp only [Act.put, set9]
         refine wpAnyH_done (by kernel_rfl) ?_ _
         go_wp2_with fail
         go_roundw
         case rel => exact ⟨0 + 1, _, p7, k + 1, y7, q, m, d, by go_num, by omega, HP7.out.1, Lib.hid ⟨HO.out.1, by have h9 := HO.out.2.1; dsimp only; rw [List.length_append, h9]; rfl, by have := HO.out.2.2.1; dsimp only; omega, HO.out.2.2.2⟩, D7.out⟩
         case measure => simp [intOf]; omega
        ·skip
         go_simp
         have XS2 : Hid (BoxM WA.heap.size (World.alloc v1 (.cells #[.bool bz] 4)) G x p k r q m d) := Lib.hid (XS1.out.same (alloc_same _ _))
         have DS2 : Hid (Drawn b a n c WA (World.alloc v1 (.cells #[.bool bz] 4))) := Lib.hid (DS1.out.same (alloc_same _ _))
         have HNB : Hid (Bls (World.alloc v1 (.cells #[.bool bz] 4)) (some ⟨v1.heap.size, 0, none⟩) 1 [bz]) := Lib.hid (items_new (enc := blEnc) (s := 1) blEnc_len v1 bz 4)
         refine hK.out _ _ trivial (fun hHeld => ?_)
         clear hK K
         try simp only [Act.put, set9]
         refine wpAnyH_ready (rs := [1]) (by kernel_rfl) (by simp) (AllReadyH.cons (by simp only [get9]; rfl) (fun K hK => ?_) AllReadyH.nil)
         have ec1 := (three_cells XS2.out.heap).2.1
         go_simp
         clear ec1
         refine hK.out _ _ trivial (fun hHeld => ?_)
         clear hK K
         try simp only [Act.put, set9]
         refine wpAnyH_ready (rs := [9]) (by kernel_rfl) (by simp) (AllReadyH.cons (by simp only [get9]; rfl) (fun K hK => ?_) AllReadyH.nil)
         refine step_appW _ blEnc_len (by omega) blEnc_one (by rfl) (.tmp 56) (.tmp 63) 24 (by rfl) 4 i0 (.bool false) 1 Try.underlying24 HI.out.1 HI.out.2.1 HI.out.2.2.1 HI.out.2.2.2 rfl (by rfl) XS2.out.ends (by rfl) HNB.out (by omega) (by omega) (by have := DS2.out.2.size; omega) ?_
         intro p7 y7 w7 ho7 hg7 hw7
         have HP7 := Lib.hid (XS2.out.pushE ho7 hg7 hw7)
         have D7 : Hid (Drawn b a n c WA (w7.setCell ⟨G, 1, none⟩ (.slice p7 (k + 1 : Nat) y7))) := Lib.hid (DS2.out.under HC.out HP7.out.2 (Nat.le_refl _))
         have h7 : w7.heap[G]? = some (.cells #[.int .i64 x.st, .slice p k r, .slice q m d] 27 (0, 0)) := (hg7.block G XS2.out.lt (fun e => by obtain ⟨ad, f1, f2⟩ := block_of e.symm; exact XS2.out.pG ad f1 f2)).trans XS2.out.heap
         obtain ⟨h70, h71, h72, k70, k71, k72⟩ := three_cells h7
         clear ho7 hg7 hw7 h7
         refine hK.out _ _ trivial (fun hHeld => ?_)
         clear hK K
         try simp only [Act.put, set9]
         refine wpAnyH_take (i := 10) (v := ?v26) (by simp only [get9]; rfl) (by kernel_rfl) (by kernel_rfl) (by kernel_rfl) (by exact fun _ _ _ h => h) (Or.inl ⟨by rfl, fun w9 hS9 => ?hy26⟩) hHeld ?rest26
         case hy26 =>
          dsimp only at hS9
          skip
          go_simp
          try with_reducible rfl
         try simp only [Act.put, set9]
         refine wpAnyH_ready (rs := [11]) (by kernel_rfl) (by simp) (AllReadyH.cons (by simp only [get9]; rfl) (fun K hK => ?_) AllReadyH.nil)
         go_simp
         refine hK.out _ _ trivial (fun hHeld => ?_)
         clear hK K
         try simp only [Act.put, set9]
         refine wpAnyH_done (by kernel_rfl) ?_ _
         go_wp2_with fail
         go_roundw
         case rel => exact ⟨0 + 1, _, p7, k + 1, y7, q, m, d, by go_num, by omega, HP7.out.1, Lib.hid ⟨HO.out.1, by have h9 := HO.out.2.1; dsimp only; rw [List.length_append, h9]; rfl, by have := HO.out.2.2.1; dsimp only; omega, HO.out.2.2.2⟩, D7.out⟩
         case measure => simp [intOf]; omega
   ·have hj0I : ((j : Int) == 0) = false := by simp; omega
    obtain ⟨n9, hn9, hn2⟩ : ∃ r : Nat, r = n3 ∧ r ≤ 2 := ⟨n3, rfl, hn3⟩
    have HD9 := Lib.hid HD3.out
    have HX9 := Lib.hid HX3.out
    obtain ⟨W9, hW9⟩ : ∃ u, u = w3 := ⟨w3, rfl⟩
    subst hW9
    rw [← hn9] at *
    clear hn9
    go_wp2_with fail
    go_loopw [7] (fun t wr => ∃ (i : Nat) (x : Mac) (p : Option Addr) (k r : Nat) (q : Option Addr) (m d : Nat), t = .int .i64 i ∧ i ≤ n9 ∧ BoxM WA.heap.size wr G x p k r q m d ∧ Hid (OnWay st j i x) ∧ Drawn b a n c WA wr) (fun t _ => n9 - (intOf t).toNat)
    case atStart => exact ⟨0, x, p, k, r, q, m, d, rfl, Nat.zero_le _, HX9.out, HO, HD9.out⟩
    case round =>
     clear HX9 HD9 HX HD HX2 HD2 HX3 HD3 HO
     obtain ⟨i, x, p, k, r, q, m, d, rfl, hi9, hx, HO, hd⟩ := hrel
     have HX := Lib.hid hx
     have HD := Lib.hid hd
     have hmm := hx.moves.len
     have hkk := hx.ends.len
     have hm9 : m ≤ 2 * j + i := by have := HO.out.2.2.1; omega
     have hk9 : k ≤ 4 := by have := HO.out.2.1; omega
     obtain ⟨e0, e1, e2, g0, g1, g2⟩ := three_cells hx.heap
     rw [show x.st = st from HO.out.1] at e0
     clear hx hd
     by_cases hil : i < n9
     ·have hiI : (i : Int) < (n9 : Int) := by omega
      have C0 := Lib.hid e0
      clear e0 e1 e2 g0 g1 g2
      go_wp2_with fail
      have DS0 : Hid (Drawn b a n c WA wr.drew) := Lib.hid (HD.out.same (Below.refl _ wr).drew)
      have XS0 : Hid (BoxM WA.heap.size wr.drew G x p k r q m d) := Lib.hid (HX.out.same (Below.refl _ wr).drew)
      have hbig : b < wr.heap.size := by have := HD.out.2.size; omega
      have hdr : wr.drew.heap.size = wr.heap.size := rfl
      refine wp_region_held_drew (S := fun w9 => w9.cell? ⟨G, 0, none⟩ = some (.int .i64 st)) (by kernel_rfl) (cell_stay C0.out (Below.refl _ wr).drew) (fun hHeld => ?_)
      refine wpAnyH_take (i := 0) (v := ?v27) (by simp only [get9]; rfl) (by kernel_rfl) (by kernel_rfl) (by kernel_rfl) (by exact fun _ _ _ h => h) (Or.inl ⟨by rfl, fun w9 hS9 => ?hy27⟩) hHeld ?rest27
      case hy27 =>
       dsimp only at hS9
       skip
       go_simp
       try with_reducible rfl
      try simp only [Act.put, set9]
      refine wpAnyH_take (i := 1) (v := ?v28) (by simp only [get9]; rfl) (by kernel_rfl) (by kernel_rfl) (by kernel_rfl) (by exact fun _ _ _ h => h) (Or.inl ⟨by rfl, fun w9 hS9 => ?hy28⟩) hHeld ?rest28
      case hy28 =>
       dsimp only at hS9
       skip
       go_simp
       try with_reducible rfl
      try simp only [Act.put, set9]
      refine wpAnyH_take (i := 2) (v := ?v29) (by simp only [get9]; rfl) (by kernel_rfl) (by kernel_rfl) (by kernel_rfl) (by exact fun _ _ _ h => h) (Or.inl ⟨by rfl, fun w9 hS9 => ?hy29⟩) hHeld ?rest29
      case hy29 =>
       dsimp only at hS9
       skip
       go_simp
       try with_reducible rfl
      try simp only [Act.put, set9]
      refine wpAnyH_take (i := 4) (v := ?v30) (by simp only [get9]; rfl) (by kernel_rfl) (by kernel_rfl) (by kernel_rfl) (by exact fun _ _ _ h => h) (Or.inl ⟨by rfl, fun w9 hS9 => ?hy30⟩) hHeld ?rest30
      case hy30 =>
       dsimp only at hS9
       skip
       go_simp
       try with_reducible rfl
      try simp only [Act.put, set9]
      refine wpAnyH_take (i := 5) (v := ?v31) (by simp only [get9]; rfl) (by kernel_rfl) (by kernel_rfl) (by kernel_rfl) (by exact fun _ _ _ h => h) (Or.inl ⟨by rfl, fun w9 hS9 => ?hy31⟩) hHeld ?rest31
      case hy31 =>
       dsimp only at hS9
       skip
       go_simp
       try with_reducible rfl
      try simp only [Act.put, set9]
      refine wpAnyH_take (i := 6) (v := ?v32) (by simp only [get9]; rfl) (by kernel_rfl) (by kernel_rfl) (by kernel_rfl) (by exact fun _ _ _ h => h) (Or.inl ⟨by rfl, fun w9 hS9 => ?hy32⟩) hHeld ?rest32
      case hy32 =>
       dsimp only at hS9
       skip
       go_simp
       try with_reducible rfl
      try simp only [Act.put, set9]
      refine wpAnyH_ready (rs := [3, 9]) (by kernel_rfl) (by simp) (AllReadyH.cons (by simp only [get9]; rfl) (fun K hK => ?_) (AllReadyH.cons (by simp only [get9]; rfl) (fun K hK => ?_) AllReadyH.nil))
      ·skip
       go_simp
       refine (below_any b a n c 3 (by omega) (by omega) _ DS0.out.1).mono ?_
       rintro e v1 ⟨z1, hz10, hz11, rfl, hd1⟩
       have D1 := Lib.hid (DS0.out.trans hd1)
       have X1 := Lib.hid (XS0.out.only hd1.2 (by omega))
       have sv1 := hd1.2.size
       clear hd1
       go_wp2_with fail
       refine hK.out _ _ (by have h9 := (three_cells X1.out.heap).1; rwa [show x.st = st from HO.out.1] at h9) (fun hHeld => ?_)
       clear hK K
       try simp only [Act.put, set9]
       refine wpAnyH_ready (rs := [7, 9]) (by kernel_rfl) (by simp) (AllReadyH.cons (by simp only [get9]; rfl) (fun K hK => ?_) (AllReadyH.cons (by simp only [get9]; rfl) (fun K hK => ?_) AllReadyH.nil))
       ·skip
        go_simp
        refine (below_any b a n c st (by omega) (by omega) _ D1.out.1).mono ?_
        rintro e v2 ⟨z2, hz20, hz21, rfl, hd2⟩
        have D2 := Lib.hid (D1.out.trans hd2)
        have X2 := Lib.hid (X1.out.only hd2.2 (by omega))
        have sv2 := hd2.2.size
        clear hd2
        go_wp2_with fail
        refine hK.out _ _ (by have h9 := (three_cells X2.out.heap).1; rwa [show x.st = st from HO.out.1] at h9) (fun hHeld => ?_)
        clear hK K
        try simp only [Act.put, set9]
        refine wpAnyH_take (i := 8) (v := ?v33) (by simp only [get9]; rfl) (by kernel_rfl) (by kernel_rfl) (by kernel_rfl) (by exact fun _ _ _ h => h) (Or.inl ⟨by rfl, fun w9 hS9 => ?hy33⟩) hHeld ?rest33
        case hy33 =>
         dsimp only at hS9
         skip
         go_simp
         try with_reducible rfl
        try simp only [Act.put, set9]
        refine wpAnyH_ready (rs := [9]) (by kernel_rfl) (by simp) (AllReadyH.cons (by simp only [get9]; rfl) (fun K hK => ?_) AllReadyH.nil)
        go_simp
        have D3 : Hid (Drawn b a n c WA (World.alloc v2 (.cells #[.int .i64 0, .bool false, .int .i64 0, .int .i64 0] 63))) := Lib.hid (D2.out.same (alloc_same _ _))
        have X3 : Hid (BoxM WA.heap.size (World.alloc v2 (.cells #[.int .i64 0, .bool false, .int .i64 0, .int .i64 0] 63)) G x p k r q m d) := Lib.hid (X2.out.same (alloc_same _ _))
        have Z3 : Hid ((World.alloc v2 (.cells #[.int .i64 0, .bool false, .int .i64 0, .int .i64 0] 63)).heap[v2.heap.size]? = some (.cells #[.int .i64 0, .bool false, .int .i64 0, .int .i64 0] 63 (0, 0))) := Lib.hid (heap_alloc_new v2 (.cells #[.int .i64 0, .bool false, .int .i64 0, .int .i64 0] 63 (0, 0)))
        refine hK.out _ _ (by have h9 := (three_cells X3.out.heap).1; rwa [show x.st = st from HO.out.1] at h9) (fun hHeld => ?_)
        clear hK K
        try simp only [Act.put, set9]
        refine wpAnyH_ready (rs := [10]) (by kernel_rfl) (by simp) (AllReadyH.cons (by simp only [get9]; rfl) (fun K hK => ?_) AllReadyH.nil)
        go_simp
        have DF : Hid (Drawn b a n c WA (World.alloc v2 (.cells #[.int .i64 (j : Nat), .bool send, .int .i64 z1, .int .i64 z2] 63))) := Lib.hid (D2.out.same (alloc_same _ _))
        have XF : Hid (BoxM WA.heap.size (World.alloc v2 (.cells #[.int .i64 (j : Nat), .bool send, .int .i64 z1, .int .i64 z2] 63)) G x p k r q m d) := Lib.hid (X2.out.same (alloc_same _ _))
        have ZF : Hid ((World.alloc v2 (.cells #[.int .i64 (j : Nat), .bool send, .int .i64 z1, .int .i64 z2] 63)).heap[v2.heap.size]? = some (.cells #[.int .i64 (j : Nat), .bool send, .int .i64 z1, .int .i64 z2] 63 (0, 0))) := Lib.hid (heap_alloc_new v2 (.cells #[.int .i64 (j : Nat), .bool send, .int .i64 z1, .int .i64 z2] 63 (0, 0)))
        refine hK.out _ _ (by have h9 := (three_cells XF.out.heap).1; rwa [show x.st = st from HO.out.1] at h9) (fun hHeld => ?_)
        clear hK K
        try simp only [Act.put, set9]
        refine wpAnyH_done (by kernel_rfl) ?_ _
        generalize hgW : (World.alloc v2 (.cells #[.int .i64 (j : Nat), .bool send, .int .i64 z1, .int .i64 z2] 63)) = W8 at *
        clear hgW
        obtain ⟨Gm, hGm⟩ : ∃ u, u = v2.heap.size := ⟨_, rfl⟩
        have ZG : Hid (W8.heap[Gm]? = some (.cells #[.int .i64 (j : Nat), .bool send, .int .i64 z1, .int .i64 z2] 63 (0, 0))) := Lib.hid (by rw [hGm]; exact ZF.out)
        rw [← hGm]
        clear hGm ZF
        obtain ⟨y0, y1, y2, y3⟩ := four_at9 ZG.out
        obtain ⟨e0, e1, e2, -, -, -⟩ := three_cells XF.out.heap
        rw [show x.st = st from HO.out.1] at e0
        go_wp2_with fail
        clear e0 e1 e2 y0 y1 y2 y3
        have HMC : Hid (MacW W8 (.agg #[.int .i64 st, .slice p k r, .slice q m d]) x) := Lib.hid (by have h9 := XF.out.mac; rwa [show x.st = st from HO.out.1] at h9)
        refine (specMoveOf_any (j : Nat) send z1 HMC.out).mono ?_
        rintro e w5 ⟨rfl, hb5⟩
        have D5 := Lib.hid (DF.out.same hb5)
        have X5 := Lib.hid (XF.out.same hb5)
        have Z5 := Lib.hid ((hb5.block _ (Array.getElem?_eq_some_iff.1 ZG.out).1).trans ZG.out)
        clear hb5
        by_cases hneg : moveOf x (j : Nat) send z1 < 0
        ·obtain ⟨y0, y1, y2, y3⟩ := four_at9 Z5.out
         obtain ⟨e0, e1, e2, g0, g1, g2⟩ := three_cells X5.out.heap
         have HNM : Hid (Mvs (w5.alloc (.cells #[.int .i64 (j : Nat), .bool send, .int .i64 z1, .int .i64 z2] 63)) (some ⟨w5.heap.size, 0, none⟩) 1 [⟨(j : Nat), send, z1, z2⟩]) := Lib.hid (items_new (enc := Mv.enc) (s := 4) Mv.enc_len w5 ⟨(j : Nat), send, z1, z2⟩ 63)
         have X6 : Hid (BoxM WA.heap.size (w5.alloc (.cells #[.int .i64 (j : Nat), .bool send, .int .i64 z1, .int .i64 z2] 63)) G x p k r q m d) := Lib.hid (X5.out.same (alloc_same _ _))
         have hs5 : WA.heap.size ≤ (w5.alloc (.cells #[.int .i64 (j : Nat), .bool send, .int .i64 z1, .int .i64 z2] 63)).heap.size := by have := D5.out.2.size; simp; omega
         go_wp2_with (at_builtin; refine wpl_appW _ Mv.enc_len (by omega) Mv.cells rfl (.tmp 50) (.tmp 52) 25 rfl 63 i1 (.agg #[.int .i64 0, .bool false, .int .i64 0, .int .i64 0]) 32 Try.underlying25 HI1.out.1 HI1.out.2.1 HI1.out.2.2.1 HI1.out.2.2.2 rfl rfl X6.out.moves rfl HNM.out (by omega) ?ca ?cb ?_)
         case ca => omega
         case cb => exact hs5
         intro q7 y7 w7 ho7 hg7 hw7
         have HP7 := Lib.hid (X6.out.pushM ho7 hg7 hw7)
         have D7 : Hid (Drawn b a n c WA (w7.setCell ⟨G, 2, none⟩ (.slice q7 (m + 1 : Nat) y7))) := Lib.hid (D5.out.under HC.out ((Below.refl _ w5 |>.alloc (by have := D5.out.2.size; omega) _).trans HP7.out.2) (Nat.le_refl _))
         have h7 : w7.heap[G]? = some (.cells #[.int .i64 x.st, .slice p k r, .slice q m d] 27 (0, 0)) := (hg7.block G X6.out.lt (fun e => by obtain ⟨ad, f1, f2⟩ := block_of e.symm; exact X6.out.qG ad f1 f2)).trans X6.out.heap
         obtain ⟨h70, h71, h72, k70, k71, k72⟩ := three_cells h7
         clear ho7 hg7 hw7 h7 e0 e1 e2 g0 g1 g2 y0 y1 y2 y3 hs5
         go_wp2_with fail
         go_roundw
         case rel => exact ⟨i + 1, _, p, k, r, q7, m + 1, y7, by go_num, by omega, HP7.out.1, Lib.hid ⟨HO.out.1, HO.out.2.1, by have := HO.out.2.2.1; simp; omega, fun z hz => by
          rcases List.mem_append.1 hz with h | h
          ·exact HO.out.2.2.2 z h
          ·rw [List.mem_singleton.1 h]
           unfold I64
           dsimp only
           omega⟩, D7.out⟩
         case measure => simp [intOf]; omega
        ·go_wp2_with fail
         go_roundw
         case rel => exact ⟨i + 1, x, p, k, r, q, m, d, by go_num, by omega, X5.out, Lib.hid ⟨HO.out.1, HO.out.2.1, by have := HO.out.2.2.1; omega, HO.out.2.2.2⟩, D5.out⟩
         case measure => simp [intOf]; omega
       ·skip
        go_simp
        have D2 : Hid (Drawn b a n c WA (World.alloc v1 (.cells #[.int .i64 0, .bool false, .int .i64 0, .int .i64 0] 63))) := Lib.hid (D1.out.same (alloc_same _ _))
        have X2 : Hid (BoxM WA.heap.size (World.alloc v1 (.cells #[.int .i64 0, .bool false, .int .i64 0, .int .i64 0] 63)) G x p k r q m d) := Lib.hid (X1.out.same (alloc_same _ _))
        have Z2 : Hid ((World.alloc v1 (.cells #[.int .i64 0, .bool false, .int .i64 0, .int .i64 0] 63)).heap[v1.heap.size]? = some (.cells #[.int .i64 0, .bool false, .int .i64 0, .int .i64 0] 63 (0, 0))) := Lib.hid (heap_alloc_new v1 (.cells #[.int .i64 0, .bool false, .int .i64 0, .int .i64 0] 63 (0, 0)))
        refine hK.out _ _ (by have h9 := (three_cells X2.out.heap).1; rwa [show x.st = st from HO.out.1] at h9) (fun hHeld => ?_)
        clear hK K
        try simp only [Act.put, set9]
        refine wpAnyH_ready (rs := [7]) (by kernel_rfl) (by simp) (AllReadyH.cons (by simp only [get9]; rfl) (fun K hK => ?_) AllReadyH.nil)
        go_simp
        refine (below_any b a n c st (by omega) (by omega) _ D2.out.1).mono ?_
        rintro e v3 ⟨z2, hz20, hz21, rfl, hd3⟩
        have D3 := Lib.hid (D2.out.trans hd3)
        have X3 := Lib.hid (X2.out.only hd3.2 (by omega))
        have Z3 : Hid (v3.heap[v1.heap.size]? = some (.cells #[.int .i64 0, .bool false, .int .i64 0, .int .i64 0] 63 (0, 0))) := Lib.hid ((hd3.2.block _ (by have := Z2.out; exact (Array.getElem?_eq_some_iff.1 this).1) (by have := hbig; omega)).trans Z2.out)
        have sv3 := hd3.2.size
        clear hd3
        go_wp2_with fail
        refine hK.out _ _ (by have h9 := (three_cells X3.out.heap).1; rwa [show x.st = st from HO.out.1] at h9) (fun hHeld => ?_)
        clear hK K
        try simp only [Act.put, set9]
        refine wpAnyH_take (i := 8) (v := ?v34) (by simp only [get9]; rfl) (by kernel_rfl) (by kernel_rfl) (by kernel_rfl) (by exact fun _ _ _ h => h) (Or.inl ⟨by rfl, fun w9 hS9 => ?hy34⟩) hHeld ?rest34
        case hy34 =>
         dsimp only at hS9
         skip
         go_simp
         try with_reducible rfl
        try simp only [Act.put, set9]
        refine wpAnyH_ready (rs := [10]) (by kernel_rfl) (by simp) (AllReadyH.cons (by simp only [get9]; rfl) (fun K hK => ?_) AllReadyH.nil)
        obtain ⟨y0, y1, y2, y3⟩ := four_at9 Z3.out
        have yf0 := block_frozen Z3.out 0
        have yf1 := block_frozen Z3.out 1
        have yf2 := block_frozen Z3.out 2
        have yf3 := block_frozen Z3.out 3
        have hgg : G < v1.heap.size := by have := X1.out.lt; exact this
        have GF : Hid (Inside v1.heap.size (v1.heap.size + 1) v3 ((((v3.setCell ⟨v1.heap.size, 0, none⟩ (.int .i64 (j : Nat))).setCell ⟨v1.heap.size, 1, none⟩ (.bool send)).setCell ⟨v1.heap.size, 2, none⟩ (.int .i64 z1)).setCell ⟨v1.heap.size, 3, none⟩ (.int .i64 z2))) := Lib.hid ((((Inside.row (put_grown _ _ _ _) (fun r e => by cases e; omega)).trans (Inside.row (put_grown _ _ _ _) (fun r e => by cases e; omega))).trans (Inside.row (put_grown _ _ _ _) (fun r e => by cases e; omega))).trans (Inside.row (put_grown _ _ _ _) (fun r e => by cases e; omega)))
        have HQ9 := Lib.hid (X1.out)
        have XF : Hid (BoxM WA.heap.size ((((v3.setCell ⟨v1.heap.size, 0, none⟩ (.int .i64 (j : Nat))).setCell ⟨v1.heap.size, 1, none⟩ (.bool send)).setCell ⟨v1.heap.size, 2, none⟩ (.int .i64 z1)).setCell ⟨v1.heap.size, 3, none⟩ (.int .i64 z2)) G x p k r q m d) := Lib.hid ⟨X3.out.base, (GF.out.block G X3.out.lt (Or.inl hgg)).trans X3.out.heap, X3.out.ends.aside GF.out (lo' := 0) (hi' := v1.heap.size) (fun ad e => ⟨Nat.zero_le _, (HQ9.out.ends.span ad e).2⟩) (Or.inr (Nat.le_refl _)), X3.out.moves.aside GF.out (lo' := 0) (hi' := v1.heap.size) (fun ad e => ⟨Nat.zero_le _, (HQ9.out.moves.span ad e).2⟩) (Or.inr (Nat.le_refl _)), X3.out.sep, X3.out.pG, X3.out.qG⟩
        have DF : Hid (Drawn b a n c WA ((((v3.setCell ⟨v1.heap.size, 0, none⟩ (.int .i64 (j : Nat))).setCell ⟨v1.heap.size, 1, none⟩ (.bool send)).setCell ⟨v1.heap.size, 2, none⟩ (.int .i64 z1)).setCell ⟨v1.heap.size, 3, none⟩ (.int .i64 z2))) := Lib.hid (D3.out.under HC.out (GF.out.to (Below.refl _ _) (by omega) (by have := D3.out.2.size; omega)) (Nat.le_refl _))
        have ZF : Hid (((((v3.setCell ⟨v1.heap.size, 0, none⟩ (.int .i64 (j : Nat))).setCell ⟨v1.heap.size, 1, none⟩ (.bool send)).setCell ⟨v1.heap.size, 2, none⟩ (.int .i64 z1)).setCell ⟨v1.heap.size, 3, none⟩ (.int .i64 z2)).heap[v1.heap.size]? = some (.cells #[.int .i64 (j : Nat), .bool send, .int .i64 z1, .int .i64 z2] 63 (0, 0))) := Lib.hid (four_put9 Z3.out _ _ _ _)
        clear GF
        go_simp
        refine hK.out _ _ (by have h9 := (three_cells XF.out.heap).1; rwa [show x.st = st from HO.out.1] at h9) (fun hHeld => ?_)
        clear hK K
        try simp only [Act.put, set9]
        refine wpAnyH_done (by kernel_rfl) ?_ _
        generalize hgW : ((((v3.setCell ⟨v1.heap.size, 0, none⟩ (.int .i64 (j : Nat))).setCell ⟨v1.heap.size, 1, none⟩ (.bool send)).setCell ⟨v1.heap.size, 2, none⟩ (.int .i64 z1)).setCell ⟨v1.heap.size, 3, none⟩ (.int .i64 z2)) = W8 at *
        clear hgW
        obtain ⟨Gm, hGm⟩ : ∃ u, u = v1.heap.size := ⟨_, rfl⟩
        have ZG : Hid (W8.heap[Gm]? = some (.cells #[.int .i64 (j : Nat), .bool send, .int .i64 z1, .int .i64 z2] 63 (0, 0))) := Lib.hid (by rw [hGm]; exact ZF.out)
        rw [← hGm]
        clear hGm ZF
        obtain ⟨y0, y1, y2, y3⟩ := four_at9 ZG.out
        obtain ⟨e0, e1, e2, -, -, -⟩ := three_cells XF.out.heap
        rw [show x.st = st from HO.out.1] at e0
        go_wp2_with fail
        clear e0 e1 e2 y0 y1 y2 y3
        have HMC : Hid (MacW W8 (.agg #[.int .i64 st, .slice p k r, .slice q m d]) x) := Lib.hid (by have h9 := XF.out.mac; rwa [show x.st = st from HO.out.1] at h9)
        refine (specMoveOf_any (j : Nat) send z1 HMC.out).mono ?_
        rintro e w5 ⟨rfl, hb5⟩
        have D5 := Lib.hid (DF.out.same hb5)
        have X5 := Lib.hid (XF.out.same hb5)
        have Z5 := Lib.hid ((hb5.block _ (Array.getElem?_eq_some_iff.1 ZG.out).1).trans ZG.out)
        clear hb5
        by_cases hneg : moveOf x (j : Nat) send z1 < 0
        ·obtain ⟨y0, y1, y2, y3⟩ := four_at9 Z5.out
         obtain ⟨e0, e1, e2, g0, g1, g2⟩ := three_cells X5.out.heap
         have HNM : Hid (Mvs (w5.alloc (.cells #[.int .i64 (j : Nat), .bool send, .int .i64 z1, .int .i64 z2] 63)) (some ⟨w5.heap.size, 0, none⟩) 1 [⟨(j : Nat), send, z1, z2⟩]) := Lib.hid (items_new (enc := Mv.enc) (s := 4) Mv.enc_len w5 ⟨(j : Nat), send, z1, z2⟩ 63)
         have X6 : Hid (BoxM WA.heap.size (w5.alloc (.cells #[.int .i64 (j : Nat), .bool send, .int .i64 z1, .int .i64 z2] 63)) G x p k r q m d) := Lib.hid (X5.out.same (alloc_same _ _))
         have hs5 : WA.heap.size ≤ (w5.alloc (.cells #[.int .i64 (j : Nat), .bool send, .int .i64 z1, .int .i64 z2] 63)).heap.size := by have := D5.out.2.size; simp; omega
         go_wp2_with (at_builtin; refine wpl_appW _ Mv.enc_len (by omega) Mv.cells rfl (.tmp 50) (.tmp 52) 25 rfl 63 i1 (.agg #[.int .i64 0, .bool false, .int .i64 0, .int .i64 0]) 32 Try.underlying25 HI1.out.1 HI1.out.2.1 HI1.out.2.2.1 HI1.out.2.2.2 rfl rfl X6.out.moves rfl HNM.out (by omega) ?ca ?cb ?_)
         case ca => omega
         case cb => exact hs5
         intro q7 y7 w7 ho7 hg7 hw7
         have HP7 := Lib.hid (X6.out.pushM ho7 hg7 hw7)
         have D7 : Hid (Drawn b a n c WA (w7.setCell ⟨G, 2, none⟩ (.slice q7 (m + 1 : Nat) y7))) := Lib.hid (D5.out.under HC.out ((Below.refl _ w5 |>.alloc (by have := D5.out.2.size; omega) _).trans HP7.out.2) (Nat.le_refl _))
         have h7 : w7.heap[G]? = some (.cells #[.int .i64 x.st, .slice p k r, .slice q m d] 27 (0, 0)) := (hg7.block G X6.out.lt (fun e => by obtain ⟨ad, f1, f2⟩ := block_of e.symm; exact X6.out.qG ad f1 f2)).trans X6.out.heap
         obtain ⟨h70, h71, h72, k70, k71, k72⟩ := three_cells h7
         clear ho7 hg7 hw7 h7 e0 e1 e2 g0 g1 g2 y0 y1 y2 y3 hs5
         go_wp2_with fail
         go_roundw
         case rel => exact ⟨i + 1, _, p, k, r, q7, m + 1, y7, by go_num, by omega, HP7.out.1, Lib.hid ⟨HO.out.1, HO.out.2.1, by have := HO.out.2.2.1; simp; omega, fun z hz => by
          rcases List.mem_append.1 hz with h | h
          ·exact HO.out.2.2.2 z h
          ·rw [List.mem_singleton.1 h]
           unfold I64
           dsimp only
           omega⟩, D7.out⟩
         case measure => simp [intOf]; omega
        ·go_wp2_with fail
         go_roundw
         case rel => exact ⟨i + 1, x, p, k, r, q, m, d, by go_num, by omega, X5.out, Lib.hid ⟨HO.out.1, HO.out.2.1, by have := HO.out.2.2.1; omega, HO.out.2.2.2⟩, D5.out⟩
         case measure => simp [intOf]; omega
      ·skip
       go_simp
       have D1 : Hid (Drawn b a n c WA (World.drew (World.alloc wr (.cells #[.int .i64 0, .bool false, .int .i64 0, .int .i64 0] 63)))) := Lib.hid (DS0.out.same (alloc_same _ _))
       have X1 : Hid (BoxM WA.heap.size (World.drew (World.alloc wr (.cells #[.int .i64 0, .bool false, .int .i64 0, .int .i64 0] 63))) G x p k r q m d) := Lib.hid (XS0.out.same (alloc_same _ _))
       have Z1 : Hid ((World.drew (World.alloc wr (.cells #[.int .i64 0, .bool false, .int .i64 0, .int .i64 0] 63))).heap[wr.heap.size]? = some (.cells #[.int .i64 0, .bool false, .int .i64 0, .int .i64 0] 63 (0, 0))) := Lib.hid (heap_alloc_new wr.drew (.cells #[.int .i64 0, .bool false, .int .i64 0, .int .i64 0] 63 (0, 0)))
       refine hK.out _ _ (by have h9 := (three_cells X1.out.heap).1; rwa [show x.st = st from HO.out.1] at h9) (fun hHeld => ?_)
       clear hK K
       try simp only [Act.put, set9]
       refine wpAnyH_ready (rs := [3]) (by kernel_rfl) (by simp) (AllReadyH.cons (by simp only [get9]; rfl) (fun K hK => ?_) AllReadyH.nil)
       go_simp
       refine (below_any b a n c 3 (by omega) (by omega) _ D1.out.1).mono ?_
       rintro e v2 ⟨z1, hz10, hz11, rfl, hd2⟩
       have D2 := Lib.hid (D1.out.trans hd2)
       have X2 := Lib.hid (X1.out.only hd2.2 (by omega))
       have Z2 : Hid (v2.heap[wr.heap.size]? = some (.cells #[.int .i64 0, .bool false, .int .i64 0, .int .i64 0] 63 (0, 0))) := Lib.hid ((hd2.2.block _ (by have := Z1.out; exact (Array.getElem?_eq_some_iff.1 this).1) (by have := hbig; omega)).trans Z1.out)
       have sv2 := hd2.2.size
       clear hd2
       go_wp2_with fail
       refine hK.out _ _ (by have h9 := (three_cells X2.out.heap).1; rwa [show x.st = st from HO.out.1] at h9) (fun hHeld => ?_)
       clear hK K
       try simp only [Act.put, set9]
       refine wpAnyH_ready (rs := [7]) (by kernel_rfl) (by simp) (AllReadyH.cons (by simp only [get9]; rfl) (fun K hK => ?_) AllReadyH.nil)
       go_simp
       refine (below_any b a n c st (by omega) (by omega) _ D2.out.1).mono ?_
       rintro e v3 ⟨z2, hz20, hz21, rfl, hd3⟩
       have D3 := Lib.hid (D2.out.trans hd3)
       have X3 := Lib.hid (X2.out.only hd3.2 (by omega))
       have Z3 : Hid (v3.heap[wr.heap.size]? = some (.cells #[.int .i64 0, .bool false, .int .i64 0, .int .i64 0] 63 (0, 0))) := Lib.hid ((hd3.2.block _ (by have := Z2.out; exact (Array.getElem?_eq_some_iff.1 this).1) (by have := hbig; omega)).trans Z2.out)
       have sv3 := hd3.2.size
       clear hd3
       go_wp2_with fail
       refine hK.out _ _ (by have h9 := (three_cells X3.out.heap).1; rwa [show x.st = st from HO.out.1] at h9) (fun hHeld => ?_)
       clear hK K
       try simp only [Act.put, set9]
       refine wpAnyH_take (i := 8) (v := ?v35) (by simp only [get9]; rfl) (by kernel_rfl) (by kernel_rfl) (by kernel_rfl) (by exact fun _ _ _ h => h) (Or.inl ⟨by rfl, fun w9 hS9 => ?hy35⟩) hHeld ?rest35
       case hy35 =>
        dsimp only at hS9
        skip
        go_simp
        try with_reducible rfl
       try simp only [Act.put, set9]
       refine wpAnyH_ready (rs := [10]) (by kernel_rfl) (by simp) (AllReadyH.cons (by simp only [get9]; rfl) (fun K hK => ?_) AllReadyH.nil)
       obtain ⟨y0, y1, y2, y3⟩ := four_at9 Z3.out
       have yf0 := block_frozen Z3.out 0
       have yf1 := block_frozen Z3.out 1
       have yf2 := block_frozen Z3.out 2
       have yf3 := block_frozen Z3.out 3
       have hgg : G < wr.heap.size := by have := XS0.out.lt; exact this
       have GF : Hid (Inside wr.heap.size (wr.heap.size + 1) v3 ((((v3.setCell ⟨wr.heap.size, 0, none⟩ (.int .i64 (j : Nat))).setCell ⟨wr.heap.size, 1, none⟩ (.bool send)).setCell ⟨wr.heap.size, 2, none⟩ (.int .i64 z1)).setCell ⟨wr.heap.size, 3, none⟩ (.int .i64 z2))) := Lib.hid ((((Inside.row (put_grown _ _ _ _) (fun r e => by cases e; omega)).trans (Inside.row (put_grown _ _ _ _) (fun r e => by cases e; omega))).trans (Inside.row (put_grown _ _ _ _) (fun r e => by cases e; omega))).trans (Inside.row (put_grown _ _ _ _) (fun r e => by cases e; omega)))
       have HQ9 := Lib.hid (XS0.out)
       have XF : Hid (BoxM WA.heap.size ((((v3.setCell ⟨wr.heap.size, 0, none⟩ (.int .i64 (j : Nat))).setCell ⟨wr.heap.size, 1, none⟩ (.bool send)).setCell ⟨wr.heap.size, 2, none⟩ (.int .i64 z1)).setCell ⟨wr.heap.size, 3, none⟩ (.int .i64 z2)) G x p k r q m d) := Lib.hid ⟨X3.out.base, (GF.out.block G X3.out.lt (Or.inl hgg)).trans X3.out.heap, X3.out.ends.aside GF.out (lo' := 0) (hi' := wr.heap.size) (fun ad e => ⟨Nat.zero_le _, (HQ9.out.ends.span ad e).2⟩) (Or.inr (Nat.le_refl _)), X3.out.moves.aside GF.out (lo' := 0) (hi' := wr.heap.size) (fun ad e => ⟨Nat.zero_le _, (HQ9.out.moves.span ad e).2⟩) (Or.inr (Nat.le_refl _)), X3.out.sep, X3.out.pG, X3.out.qG⟩
       have DF : Hid (Drawn b a n c WA ((((v3.setCell ⟨wr.heap.size, 0, none⟩ (.int .i64 (j : Nat))).setCell ⟨wr.heap.size, 1, none⟩ (.bool send)).setCell ⟨wr.heap.size, 2, none⟩ (.int .i64 z1)).setCell ⟨wr.heap.size, 3, none⟩ (.int .i64 z2))) := Lib.hid (D3.out.under HC.out (GF.out.to (Below.refl _ _) (by omega) (by have := D3.out.2.size; omega)) (Nat.le_refl _))
       have ZF : Hid (((((v3.setCell ⟨wr.heap.size, 0, none⟩ (.int .i64 (j : Nat))).setCell ⟨wr.heap.size, 1, none⟩ (.bool send)).setCell ⟨wr.heap.size, 2, none⟩ (.int .i64 z1)).setCell ⟨wr.heap.size, 3, none⟩ (.int .i64 z2)).heap[wr.heap.size]? = some (.cells #[.int .i64 (j : Nat), .bool send, .int .i64 z1, .int .i64 z2] 63 (0, 0))) := Lib.hid (four_put9 Z3.out _ _ _ _)
       clear GF
       go_simp
       refine hK.out _ _ (by have h9 := (three_cells XF.out.heap).1; rwa [show x.st = st from HO.out.1] at h9) (fun hHeld => ?_)
       clear hK K
       try simp only [Act.put, set9]
       refine wpAnyH_done (by kernel_rfl) ?_ _
       generalize hgW : ((((v3.setCell ⟨wr.heap.size, 0, none⟩ (.int .i64 (j : Nat))).setCell ⟨wr.heap.size, 1, none⟩ (.bool send)).setCell ⟨wr.heap.size, 2, none⟩ (.int .i64 z1)).setCell ⟨wr.heap.size, 3, none⟩ (.int .i64 z2)) = W8 at *
       clear hgW
       obtain ⟨Gm, hGm⟩ : ∃ u, u = wr.heap.size := ⟨_, rfl⟩
       have ZG : Hid (W8.heap[Gm]? = some (.cells #[.int .i64 (j : Nat), .bool send, .int .i64 z1, .int .i64 z2] 63 (0, 0))) := Lib.hid (by rw [hGm]; exact ZF.out)
       rw [← hGm]
       clear hGm ZF
       obtain ⟨y0, y1, y2, y3⟩ := four_at9 ZG.out
       obtain ⟨e0, e1, e2, -, -, -⟩ := three_cells XF.out.heap
       rw [show x.st = st from HO.out.1] at e0
       go_wp2_with fail
       clear e0 e1 e2 y0 y1 y2 y3
       have HMC : Hid (MacW W8 (.agg #[.int .i64 st, .slice p k r, .slice q m d]) x) := Lib.hid (by have h9 := XF.out.mac; rwa [show x.st = st from HO.out.1] at h9)
       refine (specMoveOf_any (j : Nat) send z1 HMC.out).mono ?_
       rintro e w5 ⟨rfl, hb5⟩
       have D5 := Lib.hid (DF.out.same hb5)
       have X5 := Lib.hid (XF.out.same hb5)
       have Z5 := Lib.hid ((hb5.block _ (Array.getElem?_eq_some_iff.1 ZG.out).1).trans ZG.out)
       clear hb5
       by_cases hneg : moveOf x (j : Nat) send z1 < 0
       ·obtain ⟨y0, y1, y2, y3⟩ := four_at9 Z5.out
        obtain ⟨e0, e1, e2, g0, g1, g2⟩ := three_cells X5.out.heap
        have HNM : Hid (Mvs (w5.alloc (.cells #[.int .i64 (j : Nat), .bool send, .int .i64 z1, .int .i64 z2] 63)) (some ⟨w5.heap.size, 0, none⟩) 1 [⟨(j : Nat), send, z1, z2⟩]) := Lib.hid (items_new (enc := Mv.enc) (s := 4) Mv.enc_len w5 ⟨(j : Nat), send, z1, z2⟩ 63)
        have X6 : Hid (BoxM WA.heap.size (w5.alloc (.cells #[.int .i64 (j : Nat), .bool send, .int .i64 z1, .int .i64 z2] 63)) G x p k r q m d) := Lib.hid (X5.out.same (alloc_same _ _))
        have hs5 : WA.heap.size ≤ (w5.alloc (.cells #[.int .i64 (j : Nat), .bool send, .int .i64 z1, .int .i64 z2] 63)).heap.size := by have := D5.out.2.size; simp; omega
        go_wp2_with (at_builtin; refine wpl_appW _ Mv.enc_len (by omega) Mv.cells rfl (.tmp 50) (.tmp 52) 25 rfl 63 i1 (.agg #[.int .i64 0, .bool false, .int .i64 0, .int .i64 0]) 32 Try.underlying25 HI1.out.1 HI1.out.2.1 HI1.out.2.2.1 HI1.out.2.2.2 rfl rfl X6.out.moves rfl HNM.out (by omega) ?ca ?cb ?_)
        case ca => omega
        case cb => exact hs5
        intro q7 y7 w7 ho7 hg7 hw7
        have HP7 := Lib.hid (X6.out.pushM ho7 hg7 hw7)
        have D7 : Hid (Drawn b a n c WA (w7.setCell ⟨G, 2, none⟩ (.slice q7 (m + 1 : Nat) y7))) := Lib.hid (D5.out.under HC.out ((Below.refl _ w5 |>.alloc (by have := D5.out.2.size; omega) _).trans HP7.out.2) (Nat.le_refl _))
        have h7 : w7.heap[G]? = some (.cells #[.int .i64 x.st, .slice p k r, .slice q m d] 27 (0, 0)) := (hg7.block G X6.out.lt (fun e => by obtain ⟨ad, f1, f2⟩ := block_of e.symm; exact X6.out.qG ad f1 f2)).trans X6.out.heap
        obtain ⟨h70, h71, h72, k70, k71, k72⟩ := three_cells h7
        clear ho7 hg7 hw7 h7 e0 e1 e2 g0 g1 g2 y0 y1 y2 y3 hs5
        go_wp2_with fail
        go_roundw
        case rel => exact ⟨i + 1, _, p, k, r, q7, m + 1, y7, by go_num, by omega, HP7.out.1, Lib.hid ⟨HO.out.1, HO.out.2.1, by have := HO.out.2.2.1; simp; omega, fun z hz => by
         rcases List.mem_append.1 hz with h | h
         ·exact HO.out.2.2.2 z h
         ·rw [List.mem_singleton.1 h]
          unfold I64
          dsimp only
          omega⟩, D7.out⟩
        case measure => simp [intOf]; omega
       ·go_wp2_with fail
        go_roundw
        case rel => exact ⟨i + 1, x, p, k, r, q, m, d, by go_num, by omega, X5.out, Lib.hid ⟨HO.out.1, HO.out.2.1, by have := HO.out.2.2.1; omega, HO.out.2.2.2⟩, D5.out⟩
        case measure => simp [intOf]; omega
     ·obtain rfl : n9 = i := by omega
      clear g0 g1 g2
      by_cases hn0 : n9 = 0
      ·subst hn0
       go_wp2_with fail
       have C1 := Lib.hid e1
       have XS0 : Hid (BoxM WA.heap.size wr.drew G x p k r q m d) := Lib.hid (HX.out.same (Below.refl _ wr).drew)
       have DS0 : Hid (Drawn b a n c WA wr.drew) := Lib.hid (HD.out.same (Below.refl _ wr).drew)
       clear e0 e1 e2
       refine wp_region_held_drew (S := fun w9 => True) (by kernel_rfl) trivial (fun hHeld => ?_)
       refine wpAnyH_take (i := 0) (v := ?v36) (by simp only [get9]; rfl) (by kernel_rfl) (by kernel_rfl) (by kernel_rfl) (by exact fun _ _ _ h => h) (Or.inl ⟨by rfl, fun w9 hS9 => ?hy36⟩) hHeld ?rest36
       case hy36 =>
        dsimp only at hS9
        skip
        go_simp
        try with_reducible rfl
       try simp only [Act.put, set9]
       refine wpAnyH_take (i := 2) (v := ?v37) (by simp only [get9]; rfl) (by kernel_rfl) (by kernel_rfl) (by kernel_rfl) (by exact fun _ _ _ h => h) (Or.inl ⟨by rfl, fun w9 hS9 => ?hy37⟩) hHeld ?rest37
       case hy37 =>
        dsimp only at hS9
        skip
        go_simp
        try with_reducible rfl
       try simp only [Act.put, set9]
       refine wpAnyH_take (i := 3) (v := ?v38) (by simp only [get9]; rfl) (by kernel_rfl) (by kernel_rfl) (by kernel_rfl) (by exact fun _ _ _ h => h) (Or.inl ⟨by rfl, fun w9 hS9 => ?hy38⟩) hHeld ?rest38
       case hy38 =>
        dsimp only at hS9
        skip
        go_simp
        try with_reducible rfl
       try simp only [Act.put, set9]
       refine wpAnyH_take (i := 4) (v := ?v39) (by simp only [get9]; rfl) (by kernel_rfl) (by kernel_rfl) (by kernel_rfl) (by exact fun _ _ _ h => h) (Or.inl ⟨by rfl, fun w9 hS9 => ?hy39⟩) hHeld ?rest39
       case hy39 =>
        dsimp only at hS9
        skip
        go_simp
        try with_reducible rfl
       try simp only [Act.put, set9]
       refine wpAnyH_take (i := 5) (v := undef) (by simp only [get9]; rfl) (by kernel_rfl) (by kernel_rfl) (by kernel_rfl) (by exact fun _ _ _ h => h) (Or.inr ⟨by rfl, by rfl⟩) hHeld ?_
       try simp only [Act.put, set9]
       refine wpAnyH_take (i := 6) (v := undef) (by simp only [get9]; rfl) (by kernel_rfl) (by kernel_rfl) (by kernel_rfl) (by exact fun _ _ _ h => h) (Or.inr ⟨by rfl, by rfl⟩) hHeld ?_
       try simp only [Act.put, set9]
       refine wpAnyH_take (i := 7) (v := ?v40) (by simp only [get9]; rfl) (by kernel_rfl) (by kernel_rfl) (by kernel_rfl) (by exact fun _ _ _ h => h) (Or.inl ⟨by rfl, fun w9 hS9 => ?hy40⟩) hHeld ?rest40
       case hy40 =>
        dsimp only at hS9
        skip
        go_simp
        try with_reducible rfl
       try simp only [Act.put, set9]
       refine wpAnyH_ready (rs := [1, 8]) (by kernel_rfl) (by simp) (AllReadyH.cons (by simp only [get9]; rfl) (fun K hK => ?_) (AllReadyH.cons (by simp only [get9]; rfl) (fun K hK => ?_) AllReadyH.nil))
       ·skip
        have ec1 := (three_cells XS0.out.heap).2.1
        go_simp
        clear ec1
        refine hK.out _ _ trivial (fun hHeld => ?_)
        clear hK K
        try simp only [Act.put, set9]
        refine wpAnyH_ready (rs := [8]) (by kernel_rfl) (by simp) (AllReadyH.cons (by simp only [get9]; rfl) (fun K hK => ?_) AllReadyH.nil)
        go_simp
        have XS2 : Hid (BoxM WA.heap.size (World.drew (World.alloc wr (.cells #[.bool true] 4))) G x p k r q m d) := Lib.hid (XS0.out.same (alloc_same _ _))
        have DS2 : Hid (Drawn b a n c WA (World.drew (World.alloc wr (.cells #[.bool true] 4)))) := Lib.hid (DS0.out.same (alloc_same _ _))
        have HNB : Hid (Bls (World.drew (World.alloc wr (.cells #[.bool true] 4))) (some ⟨wr.heap.size, 0, none⟩) 1 [true]) := Lib.hid (items_new (enc := blEnc) (s := 1) blEnc_len wr.drew true 4)
        refine hK.out _ _ trivial (fun hHeld => ?_)
        clear hK K
        try simp only [Act.put, set9]
        refine wpAnyH_ready (rs := [9]) (by kernel_rfl) (by simp) (AllReadyH.cons (by simp only [get9]; rfl) (fun K hK => ?_) AllReadyH.nil)
        refine step_appW _ blEnc_len (by omega) blEnc_one (by rfl) (.tmp 56) (.tmp 63) 24 (by rfl) 4 i0 (.bool false) 1 Try.underlying24 HI.out.1 HI.out.2.1 HI.out.2.2.1 HI.out.2.2.2 rfl (by rfl) XS2.out.ends (by rfl) HNB.out (by omega) (by omega) (by have := DS2.out.2.size; omega) ?_
        intro p7 y7 w7 ho7 hg7 hw7
        have HP7 := Lib.hid (XS2.out.pushE ho7 hg7 hw7)
        have D7 : Hid (Drawn b a n c WA (w7.setCell ⟨G, 1, none⟩ (.slice p7 (k + 1 : Nat) y7))) := Lib.hid (DS2.out.under HC.out HP7.out.2 (Nat.le_refl _))
        have h7 : w7.heap[G]? = some (.cells #[.int .i64 x.st, .slice p k r, .slice q m d] 27 (0, 0)) := (hg7.block G XS2.out.lt (fun e => by obtain ⟨ad, f1, f2⟩ := block_of e.symm; exact XS2.out.pG ad f1 f2)).trans XS2.out.heap
        obtain ⟨h70, h71, h72, k70, k71, k72⟩ := three_cells h7
        clear ho7 hg7 hw7 h7
        refine hK.out _ _ trivial (fun hHeld => ?_)
        clear hK K
        try simp only [Act.put, set9]
        refine wpAnyH_take (i := 10) (v := ?v41) (by simp only [get9]; rfl) (by kernel_rfl) (by kernel_rfl) (by kernel_rfl) (by exact fun _ _ _ h => h) (Or.inl ⟨by rfl, fun w9 hS9 => ?hy41⟩) hHeld ?rest41
        case hy41 =>
         dsimp only at hS9
         skip
         go_simp
         try with_reducible rfl
        try simp only [Act.put, set9]
        refine wpAnyH_ready (rs := [11]) (by kernel_rfl) (by simp) (AllReadyH.cons (by simp only [get9]; rfl) (fun K hK => ?_) AllReadyH.nil)
        go_simp
        refine hK.out _ _ trivial (fun hHeld => ?_)
        clear hK K
        try simp only [Act.put, set9]
        refine wpAnyH_done (by kernel_rfl) ?_ _
        go_wp2_with fail
        go_roundw
        case rel => exact ⟨j + 1, _, p7, k + 1, y7, q, m, d, by go_num, by omega, HP7.out.1, Lib.hid ⟨HO.out.1, by have h9 := HO.out.2.1; dsimp only; rw [List.length_append, h9]; rfl, by have := HO.out.2.2.1; dsimp only; omega, HO.out.2.2.2⟩, D7.out⟩
        case measure => simp [intOf]; omega
       ·skip
        go_simp
        have XS2 : Hid (BoxM WA.heap.size (World.drew (World.alloc wr (.cells #[.bool true] 4))) G x p k r q m d) := Lib.hid (XS0.out.same (alloc_same _ _))
        have DS2 : Hid (Drawn b a n c WA (World.drew (World.alloc wr (.cells #[.bool true] 4)))) := Lib.hid (DS0.out.same (alloc_same _ _))
        have HNB : Hid (Bls (World.drew (World.alloc wr (.cells #[.bool true] 4))) (some ⟨wr.heap.size, 0, none⟩) 1 [true]) := Lib.hid (items_new (enc := blEnc) (s := 1) blEnc_len wr.drew true 4)
        refine hK.out _ _ trivial (fun hHeld => ?_)
        clear hK K
        try simp only [Act.put, set9]
        refine wpAnyH_ready (rs := [1]) (by kernel_rfl) (by simp) (AllReadyH.cons (by simp only [get9]; rfl) (fun K hK => ?_) AllReadyH.nil)
        have ec1 := (three_cells XS2.out.heap).2.1
        go_simp
        clear ec1
        refine hK.out _ _ trivial (fun hHeld => ?_)
        clear hK K
        try simp only [Act.put, set9]
        refine wpAnyH_ready (rs := [9]) (by kernel_rfl) (by simp) (AllReadyH.cons (by simp only [get9]; rfl) (fun K hK => ?_) AllReadyH.nil)
        refine step_appW _ blEnc_len (by omega) blEnc_one (by rfl) (.tmp 56) (.tmp 63) 24 (by rfl) 4 i0 (.bool false) 1 Try.underlying24 HI.out.1 HI.out.2.1 HI.out.2.2.1 HI.out.2.2.2 rfl (by rfl) XS2.out.ends (by rfl) HNB.out (by omega) (by omega) (by have := DS2.out.2.size; omega) ?_
        intro p7 y7 w7 ho7 hg7 hw7
        have HP7 := Lib.hid (XS2.out.pushE ho7 hg7 hw7)
        have D7 : Hid (Drawn b a n c WA (w7.setCell ⟨G, 1, none⟩ (.slice p7 (k + 1 : Nat) y7))) := Lib.hid (DS2.out.under HC.out HP7.out.2 (Nat.le_refl _))
        have h7 : w7.heap[G]? = some (.cells #[.int .i64 x.st, .slice p k r, .slice q m d] 27 (0, 0)) := (hg7.block G XS2.out.lt (fun e => by obtain ⟨ad, f1, f2⟩ := block_of e.symm; exact XS2.out.pG ad f1 f2)).trans XS2.out.heap
        obtain ⟨h70, h71, h72, k70, k71, k72⟩ := three_cells h7
        clear ho7 hg7 hw7 h7
        refine hK.out _ _ trivial (fun hHeld => ?_)
        clear hK K
        try simp only [Act.put, set9]
        refine wpAnyH_take (i := 10) (v := ?v42) (by simp only [get9]; rfl) (by kernel_rfl) (by kernel_rfl) (by kernel_rfl) (by exact fun _ _ _ h => h) (Or.inl ⟨by rfl, fun w9 hS9 => ?hy42⟩) hHeld ?rest42
        case hy42 =>
         dsimp only at hS9
         skip
         go_simp
         try with_reducible rfl
        try simp only [Act.put, set9]
        refine wpAnyH_ready (rs := [11]) (by kernel_rfl) (by simp) (AllReadyH.cons (by simp only [get9]; rfl) (fun K hK => ?_) AllReadyH.nil)
        go_simp
        refine hK.out _ _ trivial (fun hHeld => ?_)
        clear hK K
        try simp only [Act.put, set9]
        refine wpAnyH_done (by kernel_rfl) ?_ _
        go_wp2_with fail
        go_roundw
        case rel => exact ⟨j + 1, _, p7, k + 1, y7, q, m, d, by go_num, by omega, HP7.out.1, Lib.hid ⟨HO.out.1, by have h9 := HO.out.2.1; dsimp only; rw [List.length_append, h9]; rfl, by have := HO.out.2.2.1; dsimp only; omega, HO.out.2.2.2⟩, D7.out⟩
        case measure => simp [intOf]; omega
      ·have hnI : ((n9 : Int) == 0) = false := by simp; omega
       go_wp2_with fail
       have C1 := Lib.hid e1
       have XS0 : Hid (BoxM WA.heap.size wr.drew G x p k r q m d) := Lib.hid (HX.out.same (Below.refl _ wr).drew)
       have DS0 : Hid (Drawn b a n c WA wr.drew) := Lib.hid (HD.out.same (Below.refl _ wr).drew)
       clear e0 e1 e2
       refine wp_region_held_drew (S := fun w9 => True) (by kernel_rfl) trivial (fun hHeld => ?_)
       refine wpAnyH_take (i := 0) (v := ?v43) (by simp only [get9]; rfl) (by kernel_rfl) (by kernel_rfl) (by kernel_rfl) (by exact fun _ _ _ h => h) (Or.inl ⟨by rfl, fun w9 hS9 => ?hy43⟩) hHeld ?rest43
       case hy43 =>
        dsimp only at hS9
        skip
        go_simp
        try with_reducible rfl
       try simp only [Act.put, set9]
       refine wpAnyH_take (i := 2) (v := ?v44) (by simp only [get9]; rfl) (by kernel_rfl) (by kernel_rfl) (by kernel_rfl) (by exact fun _ _ _ h => h) (Or.inl ⟨by rfl, fun w9 hS9 => ?hy44⟩) hHeld ?rest44
       case hy44 =>
        dsimp only at hS9
        skip
        go_simp
        try with_reducible rfl
       try simp only [Act.put, set9]
       refine wpAnyH_take (i := 3) (v := ?v45) (by simp only [get9]; rfl) (by kernel_rfl) (by kernel_rfl) (by kernel_rfl) (by exact fun _ _ _ h => h) (Or.inl ⟨by rfl, fun w9 hS9 => ?hy45⟩) hHeld ?rest45
       case hy45 =>
        dsimp only at hS9
        skip
        go_simp
        try with_reducible rfl
       try simp only [Act.put, set9]
       refine wpAnyH_take (i := 4) (v := ?v46) (by simp only [get9]; rfl) (by kernel_rfl) (by kernel_rfl) (by kernel_rfl) (by exact fun _ _ _ h => h) (Or.inl ⟨by rfl, fun w9 hS9 => ?hy46⟩) hHeld ?rest46
       case hy46 =>
        dsimp only at hS9
        skip
        go_simp
        try with_reducible rfl
       try simp only [Act.put, set9]
       refine wpAnyH_take (i := 5) (v := ?v47) (by simp only [get9]; rfl) (by kernel_rfl) (by kernel_rfl) (by kernel_rfl) (by exact fun _ _ _ h => h) (Or.inl ⟨by rfl, fun w9 hS9 => ?hy47⟩) hHeld ?rest47
       case hy47 =>
        dsimp only at hS9
        skip
        go_simp
        try with_reducible rfl
       try simp only [Act.put, set9]
       refine wpAnyH_ready (rs := [1, 6]) (by kernel_rfl) (by simp) (AllReadyH.cons (by simp only [get9]; rfl) (fun K hK => ?_) (AllReadyH.cons (by simp only [get9]; rfl) (fun K hK => ?_) AllReadyH.nil))
       ·skip
        have ec1 := (three_cells XS0.out.heap).2.1
        go_simp
        clear ec1
        refine hK.out _ _ trivial (fun hHeld => ?_)
        clear hK K
        try simp only [Act.put, set9]
        refine wpAnyH_ready (rs := [6]) (by kernel_rfl) (by simp) (AllReadyH.cons (by simp only [get9]; rfl) (fun K hK => ?_) AllReadyH.nil)
        go_simp
        refine (once_any b a n c 4 (by omega) (by omega) _ DS0.out.1).mono ?_
        rintro e v1 ⟨bz, rfl, hd1⟩
        have DS1 := Lib.hid (DS0.out.trans hd1)
        have XS1 := Lib.hid (XS0.out.only hd1.2 (by omega))
        clear hd1
        go_wp2_with fail
        refine hK.out _ _ trivial (fun hHeld => ?_)
        clear hK K
        try simp only [Act.put, set9]
        refine wpAnyH_take (i := 7) (v := ?v48) (by simp only [get9]; rfl) (by kernel_rfl) (by kernel_rfl) (by kernel_rfl) (by exact fun _ _ _ h => h) (Or.inl ⟨by rfl, fun w9 hS9 => ?hy48⟩) hHeld ?rest48
        case hy48 =>
         dsimp only at hS9
         skip
         go_simp
         try with_reducible rfl
        try simp only [Act.put, set9]
        refine wpAnyH_ready (rs := [8]) (by kernel_rfl) (by simp) (AllReadyH.cons (by simp only [get9]; rfl) (fun K hK => ?_) AllReadyH.nil)
        go_simp
        have XS2 : Hid (BoxM WA.heap.size (World.alloc v1 (.cells #[.bool bz] 4)) G x p k r q m d) := Lib.hid (XS1.out.same (alloc_same _ _))
        have DS2 : Hid (Drawn b a n c WA (World.alloc v1 (.cells #[.bool bz] 4))) := Lib.hid (DS1.out.same (alloc_same _ _))
        have HNB : Hid (Bls (World.alloc v1 (.cells #[.bool bz] 4)) (some ⟨v1.heap.size, 0, none⟩) 1 [bz]) := Lib.hid (items_new (enc := blEnc) (s := 1) blEnc_len v1 bz 4)
        refine hK.out _ _ trivial (fun hHeld => ?_)
        clear hK K
        try simp only [Act.put, set9]
        refine wpAnyH_ready (rs := [9]) (by kernel_rfl) (by simp) (AllReadyH.cons (by simp only [get9]; rfl) (fun K hK => ?_) AllReadyH.nil)
        refine step_appW _ blEnc_len (by omega) blEnc_one (by rfl) (.tmp 56) (.tmp 63) 24 (by rfl) 4 i0 (.bool false) 1 Try.underlying24 HI.out.1 HI.out.2.1 HI.out.2.2.1 HI.out.2.2.2 rfl (by rfl) XS2.out.ends (by rfl) HNB.out (by omega) (by omega) (by have := DS2.out.2.size; omega) ?_
        intro p7 y7 w7 ho7 hg7 hw7
        have HP7 := Lib.hid (XS2.out.pushE ho7 hg7 hw7)
        have D7 : Hid (Drawn b a n c WA (w7.setCell ⟨G, 1, none⟩ (.slice p7 (k + 1 : Nat) y7))) := Lib.hid (DS2.out.under HC.out HP7.out.2 (Nat.le_refl _))
        have h7 : w7.heap[G]? = some (.cells #[.int .i64 x.st, .slice p k r, .slice q m d] 27 (0, 0)) := (hg7.block G XS2.out.lt (fun e => by obtain ⟨ad, f1, f2⟩ := block_of e.symm; exact XS2.out.pG ad f1 f2)).trans XS2.out.heap
        obtain ⟨h70, h71, h72, k70, k71, k72⟩ := three_cells h7
        clear ho7 hg7 hw7 h7
        refine hK.out _ _ trivial (fun hHeld => ?_)
        clear hK K
        try simp only [Act.put, set9]
        refine wpAnyH_take (i := 10) (v := ?v49) (by simp only [get9]; rfl) (by kernel_rfl) (by kernel_rfl) (by kernel_rfl) (by exact fun _ _ _ h => h) (Or.inl ⟨by rfl, fun w9 hS9 => ?hy49⟩) hHeld ?rest49
        case hy49 =>
         dsimp only at hS9
         skip
         go_simp
         try with_reducible rfl
        try simp only [Act.put, set9]
        refine wpAnyH_ready (rs := [11]) (by kernel_rfl) (by simp) (AllReadyH.cons (by simp only [get9]; rfl) (fun K hK => ?_) AllReadyH.nil)
        go_simp
        refine hK.out _ _ trivial (fun hHeld => ?_)
        clear hK K
        try simp only [Act.put, set9]
        refine wpAnyH_done (by kernel_rfl) ?_ _
        go_wp2_with fail
        go_roundw
        case rel => exact ⟨j + 1, _, p7, k + 1, y7, q, m, d, by go_num, by omega, HP7.out.1, Lib.hid ⟨HO.out.1, by have h9 := HO.out.2.1; dsimp only; rw [List.length_append, h9]; rfl, by have := HO.out.2.2.1; dsimp only; omega, HO.out.2.2.2⟩, D7.out⟩
        case measure => simp [intOf]; omega
       ·skip
        go_simp
        refine (once_any b a n c 4 (by omega) (by omega) _ DS0.out.1).mono ?_
        rintro e v1 ⟨bz, rfl, hd1⟩
        have DS1 := Lib.hid (DS0.out.trans hd1)
        have XS1 := Lib.hid (XS0.out.only hd1.2 (by omega))
        clear hd1
        go_wp2_with fail
        refine hK.out _ _ trivial (fun hHeld => ?_)
        clear hK K
        try simp only [Act.put, set9]
        refine wpAnyH_take (i := 7) (v := ?v50) (by simp only [get9]; rfl) (by kernel_rfl) (by kernel_rfl) (by kernel_rfl) (by exact fun _ _ _ h => h) (Or.inl ⟨by rfl, fun w9 hS9 => ?hy50⟩) hHeld ?rest50
        case hy50 =>
         dsimp only at hS9
         skip
         go_simp
         try with_reducible rfl
        try simp only [Act.put, set9]
        refine wpAnyH_ready (rs := [1, 8]) (by kernel_rfl) (by simp) (AllReadyH.cons (by simp only [get9]; rfl) (fun K hK => ?_) (AllReadyH.cons (by simp only [get9]; rfl) (fun K hK => ?_) AllReadyH.nil))
        ·skip
         have ec1 := (three_cells XS1.out.heap).2.1
         go_simp
         clear ec1
         refine hK.out _ _ trivial (fun hHeld => ?_)
         clear hK K
         try simp only [Act.put, set9]
         refine wpAnyH_ready (rs := [8]) (by kernel_rfl) (by simp) (AllReadyH.cons (by simp only [get9]; rfl) (fun K hK => ?_) AllReadyH.nil)
         go_simp
         have XS2 : Hid (BoxM WA.heap.size (World.alloc v1 (.cells #[.bool bz] 4)) G x p k r q m d) := Lib.hid (XS1.out.same (alloc_same _ _))
         have DS2 : Hid (Drawn b a n c WA (World.alloc v1 (.cells #[.bool bz] 4))) := Lib.hid (DS1.out.same (alloc_same _ _))
         have HNB : Hid (Bls (World.alloc v1 (.cells #[.bool bz] 4)) (some ⟨v1.heap.size, 0, none⟩) 1 [bz]) := Lib.hid (items_new (enc := blEnc) (s := 1) blEnc_len v1 bz 4)
         refine hK.out _ _ trivial (fun hHeld => ?_)
         clear hK K
         try simp only [Act.put, set9]
         refine wpAnyH_ready (rs := [9]) (by kernel_rfl) (by simp) (AllReadyH.cons (by simp only [get9]; rfl) (fun K hK => ?_) AllReadyH.nil)
         refine step_appW _ blEnc_len (by omega) blEnc_one (by rfl) (.tmp 56) (.tmp 63) 24 (by rfl) 4 i0 (.bool false) 1 Try.underlying24 HI.out.1 HI.out.2.1 HI.out.2.2.1 HI.out.2.2.2 rfl (by rfl) XS2.out.ends (by rfl) HNB.out (by omega) (by omega) (by have := DS2.out.2.size; omega) ?_
         intro p7 y7 w7 ho7 hg7 hw7
         have HP7 := Lib.hid (XS2.out.pushE ho7 hg7 hw7)
         have D7 : Hid (Drawn b a n c WA (w7.setCell ⟨G, 1, none⟩ (.slice p7 (k + 1 : Nat) y7))) := Lib.hid (DS2.out.under HC.out HP7.out.2 (Nat.le_refl _))
         have h7 : w7.heap[G]? = some (.cells #[.int .i64 x.st, .slice p k r, .slice q m d] 27 (0, 0)) := (hg7.block G XS2.out.lt (fun e => by obtain ⟨ad, f1, f2⟩ := block_of e.symm; exact XS2.out.pG ad f1 f2)).trans XS2.out.heap
         obtain ⟨h70, h71, h72, k70, k71, k72⟩ := three_cells h7
         clear ho7 hg7 hw7 h7
         refine hK.out _ _ trivial (fun hHeld => ?_)
         clear hK K
         try simp only [Act.put, set9]
         refine wpAnyH_take (i := 10) (v := ?v51) (by simp only [get9]; rfl) (by kernel_rfl) (by kernel_rfl) (by kernel_rfl) (by exact fun _ _ _ h => h) (Or.inl ⟨by rfl, fun w9 hS9 => ?hy51⟩) hHeld ?rest51
         case hy51 =>
          dsimp only at hS9
          skip
          go_simp
          try with_reducible rfl
         try simp only [Act.put, set9]
         refine wpAnyH_ready (rs := [11]) (by kernel_rfl) (by simp) (AllReadyH.cons (by simp only [get9]; rfl) (fun K hK => ?_) AllReadyH.nil)
         go_simp
         refine hK.out _ _ trivial (fun hHeld => ?_)
         clear hK K
         try simp only [Act.put, set9]
         refine wpAnyH_done (by kernel_rfl) ?_ _
         go_wp2_with fail
         go_roundw
         case rel => exact ⟨j + 1, _, p7, k + 1, y7, q, m, d, by go_num, by omega, HP7.out.1, Lib.hid ⟨HO.out.1, by have h9 := HO.out.2.1; dsimp only; rw [List.length_append, h9]; rfl, by have := HO.out.2.2.1; dsimp only; omega, HO.out.2.2.2⟩, D7.out⟩
         case measure => simp [intOf]; omega
        ·skip
         go_simp
         have XS2 : Hid (BoxM WA.heap.size (World.alloc v1 (.cells #[.bool bz] 4)) G x p k r q m d) := Lib.hid (XS1.out.same (alloc_same _ _))
         have DS2 : Hid (Drawn b a n c WA (World.alloc v1 (.cells #[.bool bz] 4))) := Lib.hid (DS1.out.same (alloc_same _ _))
         have HNB : Hid (Bls (World.alloc v1 (.cells #[.bool bz] 4)) (some ⟨v1.heap.size, 0, none⟩) 1 [bz]) := Lib.hid (items_new (enc := blEnc) (s := 1) blEnc_len v1 bz 4)
         refine hK.out _ _ trivial (fun hHeld => ?_)
         clear hK K
         try simp only [Act.put, set9]
         refine wpAnyH_ready (rs := [1]) (by kernel_rfl) (by simp) (AllReadyH.cons (by simp only [get9]; rfl) (fun K hK => ?_) AllReadyH.nil)
         have ec1 := (three_cells XS2.out.heap).2.1
         go_simp
         clear ec1
         refine hK.out _ _ trivial (fun hHeld => ?_)
         clear hK K
         try simp only [Act.put, set9]
         refine wpAnyH_ready (rs := [9]) (by kernel_rfl) (by simp) (AllReadyH.cons (by simp only [get9]; rfl) (fun K hK => ?_) AllReadyH.nil)
         refine step_appW _ blEnc_len (by omega) blEnc_one (by rfl) (.tmp 56) (.tmp 63) 24 (by rfl) 4 i0 (.bool false) 1 Try.underlying24 HI.out.1 HI.out.2.1 HI.out.2.2.1 HI.out.2.2.2 rfl (by rfl) XS2.out.ends (by rfl) HNB.out (by omega) (by omega) (by have := DS2.out.2.size; omega) ?_
         intro p7 y7 w7 ho7 hg7 hw7
         have HP7 := Lib.hid (XS2.out.pushE ho7 hg7 hw7)
         have D7 : Hid (Drawn b a n c WA (w7.setCell ⟨G, 1, none⟩ (.slice p7 (k + 1 : Nat) y7))) := Lib.hid (DS2.out.under HC.out HP7.out.2 (Nat.le_refl _))
         have h7 : w7.heap[G]? = some (.cells #[.int .i64 x.st, .slice p k r, .slice q m d] 27 (0, 0)) := (hg7.block G XS2.out.lt (fun e => by obtain ⟨ad, f1, f2⟩ := block_of e.symm; exact XS2.out.pG ad f1 f2)).trans XS2.out.heap
         obtain ⟨h70, h71, h72, k70, k71, k72⟩ := three_cells h7
         clear ho7 hg7 hw7 h7
         refine hK.out _ _ trivial (fun hHeld => ?_)
         clear hK K
         try simp only [Act.put, set9]
         refine wpAnyH_take (i := 10) (v := ?v52) (by simp only [get9]; rfl) (by kernel_rfl) (by kernel_rfl) (by kernel_rfl) (by exact fun _ _ _ h => h) (Or.inl ⟨by rfl, fun w9 hS9 => ?hy52⟩) hHeld ?rest52
         case hy52 =>
          dsimp only at hS9
          skip
          go_simp
          try with_reducible rfl
         try simp only [Act.put, set9]
         refine wpAnyH_ready (rs := [11]) (by kernel_rfl) (by simp) (AllReadyH.cons (by simp only [get9]; rfl) (fun K hK => ?_) AllReadyH.nil)
         go_simp
         refine hK.out _ _ trivial (fun hHeld => ?_)
         clear hK K
         try simp only [Act.put, set9]
         refine wpAnyH_done (by kernel_rfl) ?_ _
         go_wp2_with fail
         go_roundw
         case rel => exact ⟨j + 1, _, p7, k + 1, y7, q, m, d, by go_num, by omega, HP7.out.1, Lib.hid ⟨HO.out.1, by have h9 := HO.out.2.1; dsimp only; rw [List.length_append, h9]; rfl, by have := HO.out.2.2.1; dsimp only; omega, HO.out.2.2.2⟩, D7.out⟩
         case measure => simp [intOf]; omega
  ·obtain ⟨m0, m1, m2, f0, f1, f2⟩ := three_cells (show wr.heap[w.heap.size]? = _ from (HD.out.2.block _ hsA (by omega)).trans HGR.out)
   obtain ⟨z0, z1, z2, hZ⟩ := three_put (show wr.heap[w.heap.size]? = _ from (HD.out.2.block _ hsA (by omega)).trans HGR.out) (.int .i64 st) (.slice p k r) (.slice q m d)
   have hsW := HD.out.2.size
   clear hZ
   go_wp2_with fail
   (try simp only [Exit.inBlock, Exit.then])
   refine bodyPost_ret (by simp [results, Try.results67, go_sem, z0, z1, z2]; try rfl) rfl ?_
   have h9 := HX.out
   have hp : ∀ ad, p = some ad → ad.block ≠ w.heap.size := fun ad e => by have := (h9.ends.span ad e).1; omega
   have hq : ∀ ad, q = some ad → ad.block ≠ w.heap.size := fun ad e => by have := (h9.moves.span ad e).1; omega
   refine ⟨_, x, rfl, ⟨p, k, r, q, m, d, by rw [HO.out.1], (((h9.ends.set hp _).set hp _).set hp _).lower (by omega), (((h9.moves.set hq _).set hq _).set hq _).lower (by omega), h9.sep, ?_, ?_, Nat.le_refl _, h9.ends.room, h9.moves.room⟩, by have := HO.out.2.1; omega, by have := HO.out.2.2.1; omega, ⟨by rw [show x.st = st from HO.out.1]; exact ⟨hst1, hst4⟩, HO.out.2.2.2⟩, ?_⟩
   ·exact fun ad e => by
     have := h9.ends.span ad e
     simp only [World.size_setCell]
     omega
   ·exact fun ad e => by
     have := h9.moves.span ad e
     simp only [World.size_setCell]
     omega
   ·have hb9 : Below w.heap.size wr (((wr.setCell ⟨w.heap.size, 0, none⟩ (.int .i64 st)).setCell ⟨w.heap.size, 1, none⟩ (.slice p k r)).setCell ⟨w.heap.size, 2, none⟩ (.slice q m d)) := (((Below.refl w.heap.size wr).setCell (p := ⟨w.heap.size, 0, none⟩) (Nat.le_refl _) (.int .i64 st)).setCell (p := ⟨w.heap.size, 1, none⟩) (Nat.le_refl _) (.slice p k r)).setCell (p := ⟨w.heap.size, 2, none⟩) (Nat.le_refl _) (.slice q m d)
    exact ((Drawn.refl HCW.out).same HAL.out |>.trans HD.out).under HCW.out hb9 (Nat.le_refl _)
end Go.Proofs.Ytckmgbobkffabaa
