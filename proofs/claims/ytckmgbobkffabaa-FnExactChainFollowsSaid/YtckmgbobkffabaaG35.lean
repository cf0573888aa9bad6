/- Lists of machines by the laws' own helpers: counted, copied, compared, and read among the arguments. How a list of machines among the arguments is read. -/
import Derived.Test.YtckmgbobkffabaaG34
import Derived.Test.YtckmgbobkffabaaG5
import Derived.Test.YtckmgbobkffabaaG32
import Derived.Test.YtckmgbobkffabaaG1
namespace Go.Proofs.Ytckmgbobkffabaa
open Go.ChangeShapes Go.WideShapes Go.ChangeAt Go.RowKit
set_option linter.unusedVariables false
set_option linter.unusedSimpArgs false

def partsOf (l : List Mac) : Nat := (l.map Mac.parts).sum
theorem partsOf_at {l : List Mac} {j : Nat} {x : Mac} (h : l[j]? = some x) : partsOf (l.take (j + 1)) = partsOf (l.take j) + x.parts := by
 unfold partsOf
 rw [List.take_add_one, h]
 simp
theorem partsOf_le (l : List Mac) (j : Nat) : partsOf (l.take j) ≤ partsOf l := by
 conv => rhs; rw [← List.take_append_drop j l]
 unfold partsOf
 rw [List.map_append, List.sum_append]
 omega
theorem partsOf_mem {l : List Mac} {x : Mac} (h : x ∈ l) : x.parts ≤ partsOf l := by
 obtain ⟨j, hj⟩ := List.mem_iff_getElem?.1 h
 have h1 := partsOf_at hj
 have h2 := partsOf_le l (j + 1)
 omega
set_option maxRecDepth 100000 in
set_option maxHeartbeats 2000000 in
theorem szMachineS_yes {a : Option Addr} {n c : Nat} {l : List Mac} {w : World} (left : Int) (h : Macs w a n l) (hle : ((n + partsOf l : Nat) : Int) ≤ left) (hl : left ≤ 1048576) :
  Calls Try.prog 45 #[.slice a n c, .int .i64 left] w (Told (.int .i64 (left - (n + partsOf l : Nat))) w) := by
 have HS := Lib.hid h
 have hln := h.len
 clear h
 go_enter Try.func45, Try.ntmps45
 go_wp2_with fail
 go_loopw [1, 5] (fun s1 i wr => ∃ j : Nat, j ≤ n ∧ i = .int .i64 j ∧ s1 = .int .i64 (left - (n + partsOf (l.take j) : Nat)) ∧ Below w.heap.size w wr) (fun _ i _ => n - (intOf i).toNat)
 case atStart => exact ⟨0, Nat.zero_le _, rfl, by simp [partsOf], Below.refl _ _⟩
 case round =>
  obtain ⟨j, hj, rfl, rfl, hb⟩ := hrel
  have HB := Lib.hid hb
  clear hb
  by_cases hlt : j < n
  ·obtain ⟨u, b1, o1, p1, m1, d1, q1, k1, e1, hu, hee, c0, c1, c2, hmu⟩ := (HS.out.same HB.out).at_ (j := j) hlt
   subst hee
   have hpa := partsOf_at hu
   have hpl := partsOf_le l (j + 1)
   have HZ := Lib.hid (szMachine_yes (left - (n + partsOf (l.take j) : Nat)) hmu (by omega) (by omega))
   clear hu hmu
   go_wp2_with fail
   refine HZ.out.mono ?_
   rintro e w2 ⟨rfl, hb2⟩
   have HB2 := Lib.hid (HB.out.trans (hb2.mono HB.out.size))
   clear hb2 c0 c1 c2
   go_wp2_with fail
   go_roundw
   case rel => exact ⟨j + 1, by omega, by go_num, by congr 1; omega, HB2.out⟩
   case measure => simp [intOf]; omega
  ·obtain rfl : j = n := by omega
   have hfull : l.take j = l := List.take_of_length_le (by omega)
   rw [hfull]
   go_wp2_with fail
   go_ret
   exact ⟨rfl, HB.out⟩
set_option maxRecDepth 100000 in
set_option maxHeartbeats 2000000 in
theorem szMachineS_no {a : Option Addr} {n c : Nat} {l : List Mac} {w : World} (left : Int) (h : Macs w a n l) (hlt0 : left < ((n + partsOf l : Nat) : Int)) (h0 : 0 ≤ left) (hl : left ≤ 1048576) :
  Calls Try.prog 45 #[.slice a n c, .int .i64 left] w (Told (.int .i64 (-1)) w) := by
 have HS := Lib.hid h
 have hln := h.len
 have hfit := h.fits
 clear h
 by_cases hbig : left < (n : Int)
 ·go_enter Try.func45, Try.ntmps45
  go_wp2_with fail
  go_ret
  exact ⟨rfl, Below.refl _ _⟩
 ·go_enter Try.func45, Try.ntmps45
  go_wp2_with fail
  go_loopw [1, 5] (fun s1 i wr => ∃ j : Nat, j ≤ n ∧ i = .int .i64 j ∧ s1 = .int .i64 (left - (n + partsOf (l.take j) : Nat)) ∧ ((n + partsOf (l.take j) : Nat) : Int) ≤ left ∧ Below w.heap.size w wr) (fun _ i _ => n - (intOf i).toNat)
  case atStart => exact ⟨0, Nat.zero_le _, rfl, by simp [partsOf], by simp [partsOf]; omega, Below.refl _ _⟩
  case round =>
   obtain ⟨j, hj, rfl, rfl, hle, hb⟩ := hrel
   have HB := Lib.hid hb
   clear hb
   by_cases hlt : j < n
   ·obtain ⟨u, b1, o1, p1, m1, d1, q1, k1, e1, hu, hee, c0, c1, c2, hmu⟩ := (HS.out.same HB.out).at_ (j := j) hlt
    subst hee
    have hpa := partsOf_at hu
    by_cases hok : ((n + partsOf (l.take (j + 1)) : Nat) : Int) ≤ left
    ·have HZ := Lib.hid (szMachine_yes (left - (n + partsOf (l.take j) : Nat)) hmu (by omega) (by omega))
     clear hu hmu
     go_wp2_with fail
     refine HZ.out.mono ?_
     rintro e w2 ⟨rfl, hb2⟩
     have HB2 := Lib.hid (HB.out.trans (hb2.mono HB.out.size))
     clear hb2 c0 c1 c2
     go_wp2_with fail
     go_roundw
     case rel => exact ⟨j + 1, by omega, by go_num, by congr 1; omega, hok, HB2.out⟩
     case measure => simp [intOf]; omega
    ·have HZ := Lib.hid (szMachine_no (left - (n + partsOf (l.take j) : Nat)) hmu (by omega) (by omega) (by omega))
     clear hu hmu
     go_wp2_with fail
     refine HZ.out.mono ?_
     rintro e w2 ⟨rfl, hb2⟩
     have HB2 := Lib.hid (HB.out.trans (hb2.mono HB.out.size))
     clear hb2 c0 c1 c2
     go_wp2_with fail
     go_ret
     exact ⟨rfl, HB2.out⟩
   ·obtain rfl : j = n := by omega
    have hfull : l.take j = l := List.take_of_length_le (by omega)
    rw [hfull] at hle
    omega

theorem set3h (A : List Value) (p : Nat) (hA : A.length = p) (a b c : Value) (R : List Value) (v0 v1 v2 : Value) :
  (((A ++ a :: b :: c :: R).set p v0).set (p + 1) v1).set (p + 2) v2 = A ++ v0 :: v1 :: v2 :: R := by
 subst hA
 rw [List.set_append_right _ _ (Nat.le_refl _), Nat.sub_self, List.set_cons_zero, List.set_append_right _ _ (by omega), List.set_append_right _ _ (by omega)]
 simp [show A.length + 1 - A.length = 1 by omega, show A.length + 2 - A.length = 2 by omega]
def fillH (hs : List Mh) (n : Nat) : List Value := flatOf Mh.enc (hs ++ List.replicate (n - hs.length) zeroMh)
theorem fillH_all {hs : List Mh} {n : Nat} (h : hs.length = n) : fillH hs n = flatOf Mh.enc hs := by
 unfold fillH
 rw [h, Nat.sub_self]
 simp
theorem fillH_step {hs : List Mh} {n : Nat} (y : Mh) (hn : hs.length < n) :
  (((fillH hs n).set (hs.length * 3) (.int .i64 y.st)).set (hs.length * 3 + 1) (.slice y.p y.m y.c)).set (hs.length * 3 + 2) (.slice y.q y.k y.d) = fillH (hs ++ [y]) n := by
 unfold fillH
 rw [show n - hs.length = (n - (hs.length + 1)) + 1 by omega, List.replicate_succ, flatOf_app, show flatOf Mh.enc (zeroMh :: List.replicate (n - (hs.length + 1)) zeroMh) = .int .i64 0 :: .slice none 0 0 :: .slice none 0 0 :: flatOf Mh.enc (List.replicate (n - (hs.length + 1)) zeroMh) from rfl,
  set3h _ (hs.length * 3) (flatOf_len Mh.enc_len hs), List.length_append, flatOf_app, flatOf_app]
 simp [flatOf, Mh.enc]
theorem made3h (n : Nat) : (madeCells (Value.agg #[.int .i64 0, .slice none 0 0, .slice none 0 0]).cells (n * 3)).toList = flatOf Mh.enc (List.replicate n zeroMh) := by
 apply List.ext_getElem
 ·rw [flatOf_len Mh.enc_len]; simp [madeCells]
 ·intro i h1 h2
  have h3 : i < n * 3 := by simpa [madeCells] using h1
  have hd : i / 3 < n := by omega
  have hm : i % 3 < 3 := Nat.mod_lt _ (by omega)
  have e : i = i / 3 * 3 + i % 3 := by omega
  have hf := flatOf_at Mh.enc_len (List.replicate n zeroMh) (i / 3) zeroMh (i % 3) (by rw [List.getElem?_replicate]; simp [hd]) hm
  rw [← e, List.getElem?_eq_getElem h2] at hf
  have hg : (flatOf Mh.enc (List.replicate n zeroMh))[i]'h2 = zeroMh.enc[i % 3]'(by rw [Mh.enc_len]; exact hm) := by
   rw [List.getElem?_eq_getElem (by rw [Mh.enc_len]; exact hm)] at hf
   exact Option.some.inj hf
  rw [hg]
  simp only [madeCells, Value.cells, Array.getElem_toList, Array.getElem_map, Array.getElem_range]
  show (#[Value.int .i64 0, .slice none 0 0, .slice none 0 0] : Array Value)[i % 3]! = _
  match h : i % 3, hm with
  | 0, _ => rfl
  | 1, _ => rfl
  | 2, _ => rfl
theorem stored3h {w : World} {B : Nat} {t : TypeId} {s g n cap : Nat} {xs : List Value} (h : w.ownsRow B t s (.slice (some ⟨g, 0, none⟩) n cap) n xs) (j0 j1 j2 : Nat) (v0 v1 v2 : Value) :
  (((w.setCell ⟨g, j0, none⟩ v0).setCell ⟨g, j1, none⟩ v1).setCell ⟨g, j2, none⟩ v2).ownsRow B t s (.slice (some ⟨g, 0, none⟩) n cap) n (((xs.set j0 v0).set j1 v1).set j2 v2) ∧
  w.grownBy (((w.setCell ⟨g, j0, none⟩ v0).setCell ⟨g, j1, none⟩ v1).setCell ⟨g, j2, none⟩ v2) (some g) := by
 have h0 := h.stored j0 v0
 have h1 := h0.1.stored j1 v1
 have h2 := h1.1.stored j2 v2
 exact ⟨h2.1, h0.2.trans (h1.2.trans h2.2)⟩
/-- What a function leaves that makes a list of machines. -/
def MadeMs (B : Nat) (l : List Mac) (w : World) (e : Ending) (w' : World) : Prop := ∃ a n c, e = .returned (.slice a n c) ∧ Macs w' a n l ∧ n ≤ c ∧ (c : Int) ≤ 9223372036854775807 ∧ Below B w w'
set_option maxRecDepth 100000 in
set_option maxHeartbeats 4000000 in
theorem toMachineS_any {a : Option Addr} {n c : Nat} {l : List Mac} {w : World} (h : Macs w a n l) (hp : ∀ x ∈ l, x.parts ≤ 1048576) (hn : n ≤ 1048576) :
  Calls Try.prog 46 #[.slice a n c] w (MadeMs w.heap.size l w) := by
 have H := Lib.hid h
 have hl := Lib.hid h.len
 have HP := Lib.hid hp
 clear h hp
 obtain ⟨i0, hi, hz0, hz1, hz2⟩ := info_parts infoMcS
 go_enter Try.func46, Try.ntmps46
 go_wp2_with (with_reducible refine wpList_make_full _ rfl (.tmp 6) (.tmp 6) 39 rfl w.heap.size 27 i0 (.agg #[.int .i64 0, .slice none 0 0, .slice none 0 0]) 3 Try.underlying39 hi hz0 hz1 .i64 .i64 _ _ n rfl rfl (by omega) (by omega) ?c1 ?c2 ?c3 ?_)
 case c1 => rw [hz2]; omega
 case c2 => unfold maxLen; omega
 case c3 => omega
 intro w1 hown hgrow
 have hb1 : Below w.heap.size w w1 := (Below.refl _ w).grown hgrow (Nat.le_refl _) (fun _ e => by cases e)
 have HO : Hid (w1.ownsRow w.heap.size 27 3 (.slice (some ⟨w.heap.size, 0, none⟩) n n) n (fillH [] n)) := by
  unfold fillH
  rw [List.nil_append, List.length_nil, Nat.sub_zero, ← made3h]
  exact Lib.hid hown
 have HB := Lib.hid hb1
 clear hown hgrow hb1 hi hz0 hz1 hz2
 go_wp2_with fail
 go_loopw [4] (fun i wr => ∃ (j : Nat) (hs : List Mh), j ≤ n ∧ hs.length = j ∧ i = .int .i64 j ∧ wr.ownsRow w.heap.size 27 3 (.slice (some ⟨w.heap.size, 0, none⟩) n n) n (fillH hs n) ∧ RowsM wr w.heap.size hs (l.take j) ∧ Below w.heap.size w wr) (fun i _ => n - (intOf i).toNat)
 case atStart => exact ⟨0, [], Nat.zero_le _, rfl, rfl, HO.out, RowsM.nil, HB.out⟩
 case round =>
  obtain ⟨j, hs, hj, hsl, rfl, hown, hrw, hb⟩ := hrel
  have HO2 := Lib.hid hown
  have HB2 := Lib.hid hb
  have HRW := Lib.hid hrw
  have hgw : w.heap.size < wr.heap.size := by
   rcases hown.2 with ⟨e, _⟩ | ⟨g', cap, cur, e, _, hg', _⟩
   ·cases e
   ·cases e
    exact (Array.getElem?_eq_some_iff.1 hg').1
  clear hown hb hrw
  by_cases hlt : j < n
  ·obtain ⟨u, b1, o1, p1, m1, d1, q1, k1, e1, hu, hee, c0, c1, c2, hmu⟩ := (H.out.same HB2.out).at_ (j := j) hlt
   subst hee
   have HU := Lib.hid hu
   have hpu := HP.out u (List.mem_of_getElem? hu)
   have HT := Lib.hid (toMachine_any hmu (by omega))
   clear hu hmu
   go_wp2_with fail
   refine HT.out.mono ?_
   rintro e w2 ⟨v, rfl, ho, hb2⟩
   obtain ⟨y, rfl, hys⟩ := ho.mac.head
   have HR2 := Lib.hid ((HRW.out.same hb2).push ho hys (Or.inl (by omega)))
   have hrow : w2.ownsRow w.heap.size 27 3 (.slice (some ⟨w.heap.size, 0, none⟩) n n) n (fillH hs n) := HO2.out.kept (grown_below hb2 none) (Or.inr (by simp [Value.ownBlock]))
   have HR := Lib.hid hrow
   have hf0 := hrow.frozenAt (j * 3)
   have hf1 := hrow.frozenAt (j * 3 + 1)
   have hf2 := hrow.frozenAt (j * 3 + 2)
   obtain ⟨u0, hu0⟩ := row_cell hrow (k := j * 3) (by omega)
   obtain ⟨u1, hu1⟩ := row_cell hrow (k := j * 3 + 1) (by omega)
   obtain ⟨u2, hu2⟩ := row_cell hrow (k := j * 3 + 2) (by omega)
   have HB3 := Lib.hid (HB2.out.trans (hb2.mono HB2.out.size))
   clear hrow hb2 c0 c1 c2 ho
   unfold Mh.val
   go_wp2
   go_roundw
   case rel =>
    have hst := stored3h HR.out (j * 3) (j * 3 + 1) (j * 3 + 2) (.int .i64 y.st) (.slice y.p y.m y.c) (.slice y.q y.k y.d)
    have hfs := fillH_step (hs := hs) (n := n) y (by omega)
    rw [hsl] at hfs
    rw [hfs, hys] at hst
    have hin : Inside w.heap.size (w.heap.size + 1) w2 _ := Inside.row hst.2 fun r e => by cases e; exact ⟨Nat.le_refl _, Nat.lt_succ_self _⟩
    refine ⟨j + 1, hs ++ [y], by omega, by simp [hsl], by go_num, hst.1, ?_, hin.to HB3.out (Nat.le_refl _) HB3.out.size⟩
    rw [List.take_add_one, HU.out]
    exact HR2.out.aside hin
   case measure => simp [intOf]; omega
  ·obtain rfl : j = n := by omega
   have hrow := HO2.out
   rw [fillH_all hsl] at hrow
   have hrw := HRW.out
   rw [List.take_of_length_le (by rw [hl.out]; exact Nat.le_refl _)] at hrw
   have HF := Lib.hid (macs_of (OwnI.items Mh.enc_len (a := some ⟨w.heap.size, 0, none⟩) (c := j) ⟨hsl, hrow⟩) hrw)
   clear hrow hrw
   go_wp2_with fail
   go_ret
   exact ⟨_, _, _, rfl, HF.out, Nat.le_refl _, by omega, HB2.out⟩
set_option maxRecDepth 100000 in
set_option maxHeartbeats 2000000 in
theorem eqMachineS_yes {a b : Option Addr} {n m c d : Nat} {l : List Mac} {w : World} (h : Macs w a n l) (h' : Macs w b m l) :
  Calls Try.prog 47 #[.slice a n c, .slice b m d] w (Told (.bool true) w) := by
 obtain rfl : n = m := by rw [← h.len, ← h'.len]
 have hn := h.fits
 have H := Lib.hid h
 have H' := Lib.hid h'
 clear h h'
 go_enter Try.func47, Try.ntmps47
 go_wp2_with fail
 go_loopw [5] (fun i wr => ∃ j : Nat, j ≤ n ∧ i = .int .i64 j ∧ Below w.heap.size w wr) (fun i _ => n - (intOf i).toNat)
 case atStart => exact ⟨0, Nat.zero_le _, rfl, Below.refl _ _⟩
 case round =>
  obtain ⟨j, hj, rfl, hb⟩ := hrel
  have HB := Lib.hid hb
  have hsr := hb.size
  clear hb
  by_cases hlt : j < n
  ·obtain ⟨u, b1, o1, p1, m1, d1, q1, k1, e1, hu, hee, c0, c1, c2, hmu⟩ := (H.out.same HB.out).at_ (j := j) hlt
   obtain ⟨v, b2, o2, p2, m2, d2, q2, k2, e2, hv, hee2, y0, y1, y2, hmv⟩ := (H'.out.same HB.out).at_ (j := j) hlt
   subst hee
   subst hee2
   rw [hu] at hv
   cases hv
   have HMU := Lib.hid hmu
   have HMV := Lib.hid hmv
   clear hu hmu hmv
   go_wp2_with fail
   go_still_tail 8, (by kernel_rfl)
   have H2 : Hid (Below wr.heap.size wr wr.drew) := Lib.hid (Below.refl _ _).drew
   change wpList _ _ _ _ _ wr.drew
   generalize wr.drew = w3 at H2 ⊢
   clear c0 c1 c2 y0 y1 y2
   have HE := Lib.hid (eqMachine_yes (HMU.out.same H2.out) (HMV.out.same H2.out))
   go_wp2_with fail
   refine HE.out.mono ?_
   rintro e w4 ⟨rfl, hb4⟩
   have HB4 := Lib.hid (HB.out.trans ((H2.out.trans (hb4.mono H2.out.size)).mono hsr))
   clear hb4
   go_wp2_with fail
   go_roundw
   case rel => exact ⟨j + 1, by omega, by go_num, HB4.out⟩
   case measure => simp [intOf]; omega
  ·obtain rfl : j = n := by omega
   go_wp2_with fail
   go_ret
   exact ⟨rfl, HB.out⟩
end Go.Proofs.Ytckmgbobkffabaa
namespace Go.Proofs.Ytckmgbobkffabaa
open Go.ChangeShapes Go.WideShapes Go.ChangeAt Go.RowKit
set_option linter.unusedVariables false

theorem trod_someM {H : Type} {P : Program} {enc : TypeId × Value → H} {w : World} {base n : Nat} {spare : Nat → Bool} {held : Bool} {t : TypeId} {cs : List Value} {o : Option (DataW H × List MemPlace)}
  (h : DataW.trod enc P w base spare held n t cs = o) (ho : o.isSome = true) : ∃ x, DataW.trod enc P w base spare held n t cs = some x := by
 cases o with
 | none => cases ho
 | some y => exact ⟨y, h⟩
set_option maxRecDepth 100000 in
theorem open_macs {T E S1 M : TypeId} {f0 f1 f2 g0 g1 g2 g3 : Field} (hT : Try.prog.underlying T = some (.slice E)) (hE : Try.prog.underlying E = some (.struct #[f0, f1, f2])) (hone : Go.Deep.oneCellFields Try.prog #[f0, f1, f2] = true) (hC : Try.prog.cellsOf E = 3)
  (t0 : Try.prog.underlying f0.type = some (.int .i64)) (t1 : Try.prog.underlying f1.type = some (.slice S1)) (u1 : Try.prog.underlying S1 = some .bool) (c1 : Try.prog.cellsOf S1 = 1)
  (t2 : Try.prog.underlying f2.type = some (.slice M)) (hM : Try.prog.underlying M = some (.struct #[g0, g1, g2, g3])) (honeM : Go.Deep.oneCellFields Try.prog #[g0, g1, g2, g3] = true) (hCM : Try.prog.cellsOf M = 4)
  (m0 : Try.prog.underlying g0.type = some (.int .i64)) (m1 : Try.prog.underlying g1.type = some .bool) (m2 : Try.prog.underlying g2.type = some (.int .i64)) (m3 : Try.prog.underlying g3.type = some (.int .i64))
  {H : Type} {enc : TypeId × Value → H} {W : World} {base : Nat} {v : Value} {d : DataW H} {p : List MemPlace}
  (hval : Value.okWide Try.prog W .any base T v) (h : DataW.Trod enc Try.prog W 0 (fun _ => true) true T v d p) :
  ∃ (a : Option Addr) (n c : Nat) (l : List Mac), v = .slice a n c ∧ Macs W a n l ∧ (∀ x ∈ l, x.wf) ∧ n ≤ c ∧ (c : Int) ≤ 9223372036854775807 := by
 obtain ⟨a0, len, cap, rfl⟩ := okWide_slice hT hval
 obtain ⟨fuel, hf⟩ := h
 rcases Go.Deep.open_slice hT hf with ⟨hcs, hx⟩ | ⟨a, len', cap', m, n, D, Pl, hcs, hb, hl, hm, hmm, hx, hi⟩
 ·simp [Value.cells] at hcs
  obtain ⟨rfl, rfl, rfl⟩ := hcs
  exact ⟨none, 0, 0, [], rfl, Macs.nothing, (fun _ h => by cases h), Nat.le_refl _, by omega⟩
 ·simp [Value.cells] at hcs
  obtain ⟨rfl, rfl, rfl⟩ := hcs
  simp only [if_true] at hmm
  subst hmm
  have each : ∀ i, i < len → ∃ x : Mac, (∃ p m c q k d, W.cell? ((a.add (i * 3)).add 0) = some (.int .i64 x.st) ∧ W.cell? ((a.add (i * 3)).add 1) = some (.slice p m c) ∧ W.cell? ((a.add (i * 3)).add 2) = some (.slice q k d) ∧ MacW W (.agg #[.int .i64 x.st, .slice p m c, .slice q k d]) x) ∧ x.wf := by
   intro i hil
   obtain ⟨cs', hc, ht'⟩ := hi i (by omega)
   rw [hC] at hc
   obtain ⟨ys, k, _, _, hlen, hyl, hfs⟩ := DataW.trod_struct hE ht'
   obtain ⟨_, hcl, hat⟩ := World.cells?_some hc
   obtain ⟨o0, k0⟩ := Go.Deep.hone_of hone 0 f0 rfl
   obtain ⟨o1, k1⟩ := Go.Deep.hone_of hone 1 f1 rfl
   obtain ⟨o2, k2⟩ := Go.Deep.hone_of hone 2 f2 rfl
   match cs', hlen.trans hC with
   | [e0, e1, e2], _ =>
    have q0 := hfs 0 f0 rfl
    have q1 := hfs 1 f1 rfl
    have q2 := hfs 2 f2 rfl
    rw [o0, k0] at q0
    rw [o1, k1] at q1
    rw [o2, k2] at q2
    have hys : ys.length = 3 := hyl
    obtain ⟨x0, rfl, w0⟩ := one_cellM t0 q0 (by rw [List.getElem?_eq_getElem (by omega)]; rfl)
    obtain ⟨y1, q1'⟩ := trod_someM q1 (by rw [List.getElem?_eq_getElem (by omega)]; rfl)
    obtain ⟨y2, q2'⟩ := trod_someM q2 (by rw [List.getElem?_eq_getElem (by omega)]; rfl)
    obtain ⟨pa, ka, ca, l1, s1, b1, r1⟩ := trod_bls t1 u1 c1 q1'
    obtain ⟨pb, kb, cb, l2, s2, b2, wf2, r2⟩ := trod_mvs t2 hM honeM hCM m0 m1 m2 m3 q2'
    have h1 : e1 = .slice pa ka ca := by simpa using s1
    have h2 : e2 = .slice pb kb cb := by simpa using s2
    subst h1 h2
    exact ⟨⟨x0, l1, l2⟩, ⟨pa, ka, ca, pb, kb, cb, by rw [hat 0 (by omega)]; rfl, by rw [hat 1 (by omega)]; rfl, by rw [hat 2 (by omega)]; rfl, pa, ka, ca, pb, kb, cb, rfl, b1, b2, r1, r2⟩, w0, wf2⟩
  have each' : ∀ i, ∃ x : Mac, i < len → (∃ p m c q k d, W.cell? ((a.add (i * 3)).add 0) = some (.int .i64 x.st) ∧ W.cell? ((a.add (i * 3)).add 1) = some (.slice p m c) ∧ W.cell? ((a.add (i * 3)).add 2) = some (.slice q k d) ∧ MacW W (.agg #[.int .i64 x.st, .slice p m c, .slice q k d]) x) ∧ x.wf := fun i => by
   by_cases h : i < len
   ·obtain ⟨x, hx⟩ := each i h
    exact ⟨x, fun _ => hx⟩
   ·exact ⟨⟨0, [], []⟩, fun h' => absurd h' h⟩
  obtain ⟨g, hg⟩ := Classical.axiomOfChoice each'
  unfold maxLen at hm
  refine ⟨some a, len, m, (List.range len).map g, rfl, ⟨by simp, by omega, fun j x hj => ?_⟩, ?_, hl, by omega⟩
  ·have hjl : j < len := by
    rcases Nat.lt_or_ge j len with h | h
    ·exact h
    ·rw [List.getElem?_eq_none (by simpa using h)] at hj; cases hj
   rw [List.getElem?_map, List.getElem?_range hjl] at hj
   cases hj
   obtain ⟨pa, ka, ca, pb, kb, cb, h0, h1, h2, hN⟩ := (hg j hjl).1
   obtain ⟨p', m', c', q', k', d', z0, _⟩ := (hg 0 (by omega)).1
   obtain ⟨b, o, spot⟩ := a
   have hspot : spot = none := by
    rw [addr_add, show (0 * 3 + 0) = 0 from rfl, show (⟨b, o, spot⟩ : Addr).add 0 = ⟨b, o, spot⟩ from rfl] at z0
    exact World.cell?_spot z0
   subst hspot
   have e0 : ∀ i, ((⟨b, o, none⟩ : Addr).add (j * 3)).add i = ⟨b, o + j * 3 + i, none⟩ := fun i => by
    rw [addr_add]
    unfold Addr.add
    split <;> simp_all <;> omega
   rw [e0] at h0 h1 h2
   exact ⟨b, o, pa, ka, ca, pb, kb, cb, rfl, h0, h1, h2, hN⟩
  ·intro x hx
   obtain ⟨i, hi', rfl⟩ := List.mem_map.1 hx
   exact (hg i (List.mem_range.1 hi')).2
end Go.Proofs.Ytckmgbobkffabaa
