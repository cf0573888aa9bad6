/- The helpers of the exact laws at lists of edits: copied, compared. The helpers of the exact laws at lists of extensions: marked, looked at. The helpers of the exact laws at hellos and answers: marked, looked at. What is left behind a region that draws its order, calls ChooseAnswer and puts its answer into a variable: told once for all orders. -/
import Derived.Test.YtcmjadfpifpknaaG15
import Derived.Deep.QuietTactic
import Derived.BigQuiet
import Derived.RegionTactic
import Derived.StillTailTactics
import Derived.Handy
import Derived.Test.YtcmjadfpifpknaaG14
import Derived.Test.YtcmjadfpifpknaaG12
import Derived.Test.YtcmjadfpifpknaaG10
import Derived.Tactics
namespace Go.Proofs.Ytcmjadfpifpknaa
open Go.ChangeShapes Go.WideShapes Go.ChangeAt Go.RowKit
set_option linter.unusedVariables false

theorem infoEditS : (Try.prog.info? 34).map (fun i => (i.zero, i.size, i.bytes)) = some (some (.agg #[.int .i64 0, .int .i64 0]), 2, 16) := by kernel_rfl

theorem set2t (A : List Value) (p : Nat) (hA : A.length = p) (a b : Value) (R : List Value) (v0 v1 : Value) :
    ((A ++ a :: b :: R).set p v0).set (p + 1) v1 = A ++ v0 :: v1 :: R := by
  subst hA
  rw [List.set_append_right _ _ (Nat.le_refl _), Nat.sub_self, List.set_cons_zero, List.set_append_right _ _ (by omega)]
  simp [show A.length + 1 - A.length = 1 by omega]
def zeroEt : Et := ⟨0, 0⟩
def fillEt (l : List Et) (j n : Nat) : List Value := flatOf Et.enc (l.take j) ++ flatOf Et.enc (List.replicate (n - j) zeroEt)
theorem fillEt_zero (l : List Et) (n : Nat) : fillEt l 0 n = flatOf Et.enc (List.replicate n zeroEt) := by simp [fillEt, flatOf]
theorem fillEt_all (l : List Et) (n : Nat) (h : l.length = n) : fillEt l n n = flatOf Et.enc l := by
  unfold fillEt
  rw [List.take_of_length_le (by omega), Nat.sub_self]
  simp [flatOf]
theorem fillEt_step {l : List Et} {j n : Nat} {x : Et} (hj : l[j]? = some x) (hn : l.length = n) :
    ((fillEt l j n).set (j * 2) (.int .i64 x.kind)).set (j * 2 + 1) (.int .i64 x.n) = fillEt l (j + 1) n := by
  have hlt : j < l.length := by
    rcases Nat.lt_or_ge j l.length with h | h
    · exact h
    · rw [List.getElem?_eq_none h] at hj; cases hj
  unfold fillEt
  rw [show n - j = (n - (j + 1)) + 1 by omega, List.replicate_succ, show flatOf Et.enc (zeroEt :: List.replicate (n - (j + 1)) zeroEt) = .int .i64 0 :: .int .i64 0 :: flatOf Et.enc (List.replicate (n - (j + 1)) zeroEt) from rfl,
    set2t _ (j * 2) (by rw [flatOf_len Et.enc_len, List.length_take]; omega), List.take_add_one, hj]
  simp [flatOf, Et.enc]
theorem fillEt_len {l : List Et} {j n : Nat} (hn : l.length = n) (hj : j ≤ n) : (fillEt l j n).length = n * 2 := by
  unfold fillEt
  rw [List.length_append, flatOf_len Et.enc_len, flatOf_len Et.enc_len, List.length_take, List.length_replicate]
  omega
theorem made2t (n : Nat) : (madeCells (Value.agg #[.int .i64 0, .int .i64 0]).cells (n * 2)).toList = flatOf Et.enc (List.replicate n zeroEt) := by
  apply List.ext_getElem
  · rw [flatOf_len Et.enc_len]; simp [madeCells]
  · intro i h1 h2
    have h3 : i < n * 2 := by simpa [madeCells] using h1
    have hd : i / 2 < n := by omega
    have hm : i % 2 < 2 := Nat.mod_lt _ (by omega)
    have e : i = i / 2 * 2 + i % 2 := by omega
    have hf := flatOf_at Et.enc_len (List.replicate n zeroEt) (i / 2) zeroEt (i % 2) (by rw [List.getElem?_replicate]; simp [hd]) hm
    rw [← e, List.getElem?_eq_getElem h2] at hf
    have hg : (flatOf Et.enc (List.replicate n zeroEt))[i]'h2 = zeroEt.enc[i % 2]'(by rw [Et.enc_len]; exact hm) := by
      rw [List.getElem?_eq_getElem (by rw [Et.enc_len]; exact hm)] at hf
      exact Option.some.inj hf
    rw [hg]
    simp only [madeCells, Value.cells, Array.getElem_toList, Array.getElem_map, Array.getElem_range]
    show (#[Value.int .i64 0, .int .i64 0] : Array Value)[i % 2]! = _
    match h : i % 2, hm with
    | 0, _ => rfl
    | 1, _ => rfl

theorem stored2t {w : World} {B : Nat} {t : TypeId} {s g n cap : Nat} {xs : List Value} (h : w.ownsRow B t s (.slice (some ⟨g, 0, none⟩) n cap) n xs) (j0 j1 : Nat) (v0 v1 : Value) :
    ((w.setCell ⟨g, j0, none⟩ v0).setCell ⟨g, j1, none⟩ v1).ownsRow B t s (.slice (some ⟨g, 0, none⟩) n cap) n ((xs.set j0 v0).set j1 v1) ∧
    w.grownBy ((w.setCell ⟨g, j0, none⟩ v0).setCell ⟨g, j1, none⟩ v1) (some g) := by
  have h0 := h.stored j0 v0
  have h1 := h0.1.stored j1 v1
  exact ⟨h1.1, h0.2.trans h1.2⟩
set_option maxRecDepth 100000 in
theorem toEdit_any (x : Et) (w : World) : Calls Try.prog 9 #[x.val] w (Told x.val w) := by
  unfold Et.val
  go_enter Try.func9, Try.ntmps9
  go_wp2
  go_returns
  exact ⟨rfl, (((Below.refl _ w).alloc (Nat.le_refl _) _).alloc (by simp) _).alloc (by simp; omega) _⟩

/-- Cells in a row of the call's own are there, whatever they hold. -/
theorem row_cellE {w : World} {B : Nat} {t : TypeId} {s g n cap : Nat} {xs : List Value} (h : w.ownsRow B t s (.slice (some ⟨g, 0, none⟩) n cap) n xs) {k : Nat} (hk : k < n * s) : ∃ u, w.cell? ⟨g, k, none⟩ = some u := by
  rw [h.cellAt k hk]
  have : k < xs.length := by rw [h.1]; exact hk
  exact ⟨_, List.getElem?_eq_getElem this⟩

end Go.Proofs.Ytcmjadfpifpknaa
namespace Go.Proofs.Ytcmjadfpifpknaa
open Go.ChangeShapes Go.WideShapes Go.ChangeAt Go.RowKit
set_option linter.unusedVariables false

set_option maxHeartbeats 2000000 in
set_option maxRecDepth 100000 in
theorem markExtS_any (S B : Nat) (a : Option Addr) (n c j0 : Nat) (l : List Vl) (w : World) (h : OwnVB S 64 3 w B a n c l) (h0 : j0 ≤ 100000000000) (hn : n ≤ 1000000000) (hit : itemsOf l ≤ 1000000000) :
    Calls Try.prog 43 #[.slice a n c, .int .i64 j0] w fun e w' => e = .returned (.int .i64 ((j0 + n + itemsOf l : Nat) : Int)) ∧ OwnVB S 64 3 w' B a n c (marksV j0 l) ∧ Inside B S w w' := by
  have H := Lib.hid h
  have hln := Lib.hid h.len
  clear h
  go_enter Try.func43, Try.ntmps43
  go_wp2_with fail
  go_loopw [1, 5] (fun q i wr => ∃ j : Nat, j ≤ n ∧ i = .int .i64 j ∧ q = .int .i64 ((j0 + j + itemsOf (l.take j) : Nat) : Int) ∧ OwnVB S 64 3 wr B a n c (marksV j0 (l.take j) ++ l.drop j) ∧ Inside B S w wr) (fun _ i _ => n - (intOf i).toNat)
  case atStart => exact ⟨0, Nat.zero_le _, rfl, by simp [itemsOf], by simpa [marksV] using H.out, Inside.refl _ _ _⟩
  case round =>
    obtain ⟨j, hj, rfl, rfl, hown, hg⟩ := hrel
    by_cases hlt : j < n
    · obtain ⟨x, hx⟩ : ∃ x, l[j]? = some x := ⟨_, List.getElem?_eq_getElem (by rw [hln.out]; exact hlt)⟩
      have hst := itemsOf_at hx
      have hle := itemsOf_le l (j + 1)
      have hpre : (marksV j0 (l.take j)).length = j := by rw [marksV_len, List.length_take, hln.out]; omega
      rw [drop_at hx] at hown
      have hmid := get_mid _ j hpre x (l.drop (j + 1))
      obtain ⟨q, hq⟩ : ∃ q : Nat, q = j0 + j + itemsOf (l.take j) := ⟨_, rfl⟩
      have hqb : q ≤ 200000000000 := by omega
      have hnext : j0 + (j + 1) + itemsOf (l.take (j + 1)) = q + 1 + x.items.length := by omega
      have hxl : x.items.length ≤ 1000000000 := by omega
      rw [← hq]
      obtain ⟨hs, h1, h2, hL⟩ := hown
      obtain ⟨g, e, _, _⟩ := h1.head (by omega)
      subst e
      have hp := OwnVB.putNum ⟨hs, h1, h2, hL⟩ hmid (q : Int)
      rw [set_mid _ j hpre] at hp
      have hf0 := h1.2.frozenAt (j * 2)
      obtain ⟨u0, hu0⟩ := row_cell h1.2 (k := j * 2) (by omega)
      obtain ⟨hs2, k1, k2, kL⟩ := hp.1
      have hjv : j < hs2.length := by rw [k2.1]; simp; omega
      have hmid2 := get_mid _ j hpre (⟨(q : Int), x.items⟩ : Vl) (l.drop (j + 1))
      have hv := List.getElem?_eq_getElem hjv
      obtain ⟨v, hvv⟩ : ∃ v, v = hs2[j] := ⟨_, rfl⟩
      rw [← hvv] at hv
      obtain ⟨vn, vp, vm, vc⟩ := v
      obtain ⟨e1, ho, _⟩ := k2.2.1 j _ _ hv hmid2
      dsimp only at ho
      have hc1 := (k1.items Vh.enc_len).at_ (j := j) (by omega)
      obtain ⟨b', o', g', eb, hg', hcell⟩ := hc1
      cases eb
      rw [hv] at hg'
      cases hg'
      have hhdr := hcell 1 _ rfl
      dsimp only at hhdr
      have hvm : vm = x.items.length := by rw [← ho.len]
      subst hvm
      have HMK := Lib.hid (markIntS_any B vp x.items.length vc (q + 1) x.items _ ho (by omega) (by omega))
      have HIN := Lib.hid (hg.trans hp.2)
      have HOV := Lib.hid (fun (w' : World) (y : List Int) => OwnVB.over (w' := w') (y := y) k1 k2 kL hmid2 hv)
      have HX := Lib.hid hx
      have HPRE := Lib.hid hpre
      have HQ := Lib.hid hq
      have HN := Lib.hid hnext
      clear hx hpre hmid hmid2 h1 h2 hL hp k1 k2 kL hv hvv e1 ho hcell hg hq hst hnext
      simp only [Nat.zero_add] at hhdr
      go_wp2_with fail
      refine HMK.out.mono ?_
      rintro e w2 ⟨rfl, ho2, hg2⟩
      obtain ⟨k3, hi3⟩ := HOV.out _ _ hg2 ho2
      rw [set_mid _ j HPRE.out] at k3
      have HOW := Lib.hid k3
      have HIN2 := Lib.hid (HIN.out.trans hi3)
      clear k3 hi3 ho2 hg2 HOV HMK
      go_wp2_with fail
      go_roundw
      case rel =>
        refine ⟨j + 1, by omega, by go_num, ?_, ?_, HIN2.out⟩
        · rw [HN.out]
          congr 1
        · rw [marksV_take j0 HX.out, List.append_assoc, ← HQ.out]
          exact HOW.out
      case measure => simp [intOf]; omega
    · obtain rfl : j = n := by omega
      have hall : l.take j = l := List.take_of_length_le (by rw [hln.out]; omega)
      have hnone : l.drop j = [] := List.drop_eq_nil_of_le (by rw [hln.out]; omega)
      rw [hall, hnone, List.append_nil] at hown
      rw [hall]
      have HW := Lib.hid hown
      have HG := Lib.hid hg
      clear hown hg hall hnone
      go_wp2_with fail
      go_ret
      exact ⟨rfl, HW.out, HG.out⟩
set_option maxHeartbeats 2000000 in
set_option maxRecDepth 100000 in
theorem heldExtS_any (a : Option Addr) (n c j0 : Nat) (l : List Vl) (w : World) (h : Vals w a n (marksV j0 l)) (h0 : j0 ≤ 100000000000) (hn : n ≤ 1000000000) (hit : itemsOf l ≤ 1000000000) :
    Calls Try.prog 45 #[.slice a n c, .int .i64 j0] w (Told (.int .i64 ((j0 + n + itemsOf l : Nat) : Int)) w) := by
  have H := Lib.hid h
  have hln : Hid (l.length = n) := Lib.hid (by rw [← h.len, marksV_len])
  clear h
  go_enter Try.func45, Try.ntmps45
  go_wp2_with fail
  go_loopw [1, 5] (fun q i wr => ∃ j : Nat, j ≤ n ∧ i = .int .i64 j ∧ q = .int .i64 ((j0 + j + itemsOf (l.take j) : Nat) : Int) ∧ Below w.heap.size w wr) (fun _ i _ => n - (intOf i).toNat)
  case atStart => exact ⟨0, Nat.zero_le _, rfl, by simp [itemsOf], Below.refl _ _⟩
  case round =>
    obtain ⟨j, hj, rfl, rfl, hb⟩ := hrel
    have HB := Lib.hid hb
    clear hb
    by_cases hlt : j < n
    · obtain ⟨x, hx⟩ : ∃ x, l[j]? = some x := ⟨_, List.getElem?_eq_getElem (by rw [hln.out]; exact hlt)⟩
      have hst := itemsOf_at hx
      have hle := itemsOf_le l (j + 1)
      have hmk := marksV_at j0 hx
      obtain ⟨q, hq⟩ : ∃ q : Nat, q = j0 + j + itemsOf (l.take j) := ⟨_, rfl⟩
      have hnext : j0 + (j + 1) + itemsOf (l.take (j + 1)) = q + 1 + x.items.length := by omega
      have hqb : q ≤ 200000000000 := by omega
      have hxl : x.items.length ≤ 1000000000 := by omega
      rw [← hq] at hmk ⊢
      obtain ⟨b, o, p, m, d, k, y, rfl, hy, hc0, hc1, hN, hr⟩ := (H.out.same HB.out).at_ hlt
      rw [hmk] at hy
      cases hy
      have hmx : m = x.items.length := by rw [← hN.len, marksIntS_len]
      subst hmx
      have HH := Lib.hid (heldIntS_any p x.items.length d (q + 1) wr hN (by omega) (by omega))
      have HNX := Lib.hid hnext
      clear hx hst hmk hq hN hnext
      go_wp2_with fail
      refine HH.out.mono ?_
      rintro e w2 ⟨rfl, hb2⟩
      have HB2 := Lib.hid (HB.out.trans (hb2.mono HB.out.size))
      clear hb2 hc0 hc1 HH
      go_wp2_with fail
      go_roundw
      case rel => exact ⟨j + 1, by omega, by go_num, by rw [HNX.out]; congr 1, HB2.out⟩
      case measure => simp [intOf]; omega
    · obtain rfl : j = n := by omega
      have hall : l.take j = l := List.take_of_length_le (by rw [hln.out]; omega)
      rw [hall]
      clear hall
      go_wp2_with fail
      go_ret
      exact ⟨rfl, HB.out⟩
end Go.Proofs.Ytcmjadfpifpknaa
namespace Go.Proofs.Ytcmjadfpifpknaa
open Go.ChangeShapes Go.WideShapes Go.ChangeAt Go.RowKit
set_option linter.unusedVariables false
set_option linter.unusedSimpArgs false

theorem rdHel_parts (y : List Int) : (rdHel y).parts ≤ 1000 := by
  have := rdHel_few y
  unfold Hel.parts
  omega
theorem chAns_parts (vs ts : List Int) (x : Hel) : (chAns vs ts x).parts ≤ 1000 := by
  have := chAns_few vs ts x
  unfold Ans.parts
  omega
def marksHel (k : Nat) (x : Hel) : Hel := ⟨marksIntS k x.vers.length, marksV (k + x.vers.length) x.exts⟩
def marksAns (k : Nat) (x : Ans) : Ans := ⟨x.ver, marksV k x.exts⟩
set_option maxHeartbeats 1000000 in
set_option maxRecDepth 100000 in
theorem markHello_any {S B k : Nat} {w : World} {v : Value} {x : Hel} (h : OwnHel S w B v x) (hk : k ≤ 1000000000) (hn : x.parts ≤ 1000000000) :
    Calls Try.prog 12 #[v, .int .i64 k] w fun e w' => e = .returned (.int .i64 ((k + x.parts : Nat) : Int)) ∧ OwnHel S w' B v (marksHel k x) ∧ Inside B S w w' := by
  obtain ⟨va, vn, vc, xa, xn, xc, lo, hi, lo', hi', rfl, g1, g2, h3, h4, h5, h6, h7⟩ := h
  have e1 := g1.len
  have e2 := g2.len
  unfold Hel.parts at hn
  unfold Hel.parts marksHel
  rw [e1, e2] at hn ⊢
  have HB := Lib.hid (alloc_same w (.cells #[.slice va vn vc, .slice xa xn xc] 31))
  have hC := heap_alloc_new w (.cells #[.slice va vn vc, .slice xa xn xc] 31 (0, 0))
  change (w.alloc (.cells #[.slice va vn vc, .slice xa xn xc] 31)).heap[w.heap.size]? = _ at hC
  have hlt : w.heap.size < (w.alloc (.cells #[.slice va vn vc, .slice xa xn xc] 31)).heap.size := by simp
  have KI := Lib.hid (markIntS_any lo va vn vc k x.vers (w.alloc (.cells #[.slice va vn vc, .slice xa xn xc] 31)) (g1.same HB.out) (by omega) (by omega))
  have G2 := Lib.hid (g2.same HB.out)
  have HH := Lib.hid (And.intro h3 (And.intro h4 (And.intro h5 (And.intro h6 h7))))
  have HI0 : Hid (Inside B S w (w.alloc (.cells #[.slice va vn vc, .slice xa xn xc] 31))) := Lib.hid (Inside.row (grown_below HB.out none) (fun r e => by cases e))
  have HN := Lib.hid hn
  clear g1 g2 h3 h4 h5 h6 h7 e1 e2 hn
  go_enter Try.func12, Try.ntmps12
  go_wp2_with fail
  generalize w.alloc (.cells #[.slice va vn vc, .slice xa xn xc] 31) = W0 at *
  refine KI.out.mono ?_
  rintro e w1 ⟨rfl, ho, hg⟩
  obtain ⟨h3, h4, h5, h6, h7⟩ := HH.out
  have hin : Inside lo hi W0 w1 := Inside.row hg (fun r e => by obtain ⟨ad, e1, rfl⟩ := block_of e; exact h3 ad e1)
  have hC1 := (hin.block w.heap.size hlt (Or.inr (by omega))).trans hC
  obtain ⟨c0, c1, _, _⟩ := two_cells hC1
  have HI1 := Lib.hid (HI0.out.trans (Inside.mk hin.os hin.tape hin.output hin.size (fun q hq hd => hin.block q hq (by omega))))
  have HO1 := Lib.hid ho
  have KE := Lib.hid (markExtS_any hi' lo' xa xn xc (k + vn) x.exts w1 (G2.out.aside hin h6) (by have := HN.out; omega) (by have := HN.out; omega) (by have := HN.out; omega))
  clear ho hg hin hC1 hC h3 h4 h5 h6 h7
  go_wp2_with fail
  refine KE.out.mono ?_
  rintro e w2 ⟨rfl, ho, hin2⟩
  obtain ⟨h3, h4, h5, h6, h7⟩ := HH.out
  have HI2 := Lib.hid (HI1.out.trans (Inside.mk hin2.os hin2.tape hin2.output hin2.size (fun q hq hd => hin2.block q hq (by omega))))
  have HF := Lib.hid (own_hel (B := B) (S := S) (HO1.out.aside hin2 h3 (by omega)) ho h3 h4.1 h4.2 h5.1 h5.2 h6 (Nat.le_trans h7 HI2.out.size))
  clear ho hin2 h3 h4 h5 h6 h7 c0 c1
  go_wp2_with fail
  go_ret
  rw [show k + (vn + (xn + itemsOf x.exts)) = k + vn + xn + itemsOf x.exts by omega]
  exact ⟨rfl, HF.out, HI2.out⟩
set_option maxHeartbeats 1000000 in
set_option maxRecDepth 100000 in
theorem markAnswer_any {S B k : Nat} {w : World} {v : Value} {x : Ans} (h : OwnAns S w B v x) (hk : k ≤ 1000000000) (hn : x.parts ≤ 1000000000) :
    Calls Try.prog 19 #[v, .int .i64 k] w fun e w' => e = .returned (.int .i64 ((k + x.parts : Nat) : Int)) ∧ OwnAns S w' B v (marksAns k x) ∧ Inside B S w w' := by
  obtain ⟨xa, xn, xc, lo, hi, rfl, g2, h4, h5, h7⟩ := h
  have e2 := g2.len
  unfold Ans.parts at hn
  unfold Ans.parts marksAns
  rw [e2] at hn ⊢
  have HB := Lib.hid (alloc_same w (.cells #[.int .i64 x.ver, .slice xa xn xc] 43))
  have hC := heap_alloc_new w (.cells #[.int .i64 x.ver, .slice xa xn xc] 43 (0, 0))
  change (w.alloc (.cells #[.int .i64 x.ver, .slice xa xn xc] 43)).heap[w.heap.size]? = _ at hC
  have hlt : w.heap.size < (w.alloc (.cells #[.int .i64 x.ver, .slice xa xn xc] 43)).heap.size := by simp
  have KE := Lib.hid (markExtS_any hi lo xa xn xc k x.exts (w.alloc (.cells #[.int .i64 x.ver, .slice xa xn xc] 43)) (g2.same HB.out) (by omega) (by omega) (by omega))
  have HH := Lib.hid (And.intro h4 (And.intro h5 h7))
  have HI0 : Hid (Inside B S w (w.alloc (.cells #[.int .i64 x.ver, .slice xa xn xc] 43))) := Lib.hid (Inside.row (grown_below HB.out none) (fun r e => by cases e))
  clear g2 h4 h5 h7 e2 hn hC
  go_enter Try.func19, Try.ntmps19
  go_wp2_with fail
  generalize w.alloc (.cells #[.int .i64 x.ver, .slice xa xn xc] 43) = W0 at *
  refine KE.out.mono ?_
  rintro e w2 ⟨rfl, ho, hin2⟩
  obtain ⟨h4, h5, h7⟩ := HH.out
  have HI2 := Lib.hid (HI0.out.trans (Inside.mk hin2.os hin2.tape hin2.output hin2.size (fun q hq hd => hin2.block q hq (by omega))))
  have HF := Lib.hid (own_ans (B := B) (S := S) (k := x.ver) ho h4 h5 (Nat.le_trans h7 HI2.out.size))
  clear ho hin2 h4 h5 h7
  go_wp2_with fail
  go_ret
  rw [show k + (xn + itemsOf x.exts) = k + xn + itemsOf x.exts by omega]
  exact ⟨rfl, HF.out, HI2.out⟩
set_option maxHeartbeats 1000000 in
set_option maxRecDepth 100000 in
theorem heldHello_any {k : Nat} {w : World} {v : Value} {x : Hel} (h : HelW w v (marksHel k x)) (hk : k ≤ 1000000000) (hn : x.parts ≤ 1000000000) :
    Calls Try.prog 13 #[v, .int .i64 k] w (Told (.int .i64 ((k + x.parts : Nat) : Int)) w) := by
  obtain ⟨va, vn, vc, xa, xn, xc, rfl, g1, g2, g3⟩ := h
  have e1 : x.vers.length = vn := by have := g1.len; simpa [marksHel, marksIntS_len] using this
  have e2 : x.exts.length = xn := by have := g2.len; simpa [marksHel, marksV_len] using this
  have G1 : Hid (Nums .i64 w va vn (marksIntS k vn)) := by simp only [marksHel, e1] at g1; exact Lib.hid g1
  have G2 : Hid (Vals w xa xn (marksV (k + vn) x.exts)) := by simp only [marksHel, e1] at g2; exact Lib.hid g2
  unfold Hel.parts at hn ⊢
  rw [e1, e2] at hn ⊢
  have HB := Lib.hid (alloc_same w (.cells #[.slice va vn vc, .slice xa xn xc] 31))
  have hC := heap_alloc_new w (.cells #[.slice va vn vc, .slice xa xn xc] 31 (0, 0))
  change (w.alloc (.cells #[.slice va vn vc, .slice xa xn xc] 31)).heap[w.heap.size]? = _ at hC
  have hlt : w.heap.size < (w.alloc (.cells #[.slice va vn vc, .slice xa xn xc] 31)).heap.size := by simp
  have KI := Lib.hid (heldIntS_any va vn vc k (w.alloc (.cells #[.slice va vn vc, .slice xa xn xc] 31)) (G1.out.same HB.out) (by omega) (by omega))
  have KE := Lib.hid (fun w0 (hb : Below w.heap.size w w0) => heldExtS_any xa xn xc (k + vn) x.exts w0 (G2.out.same hb) (by omega) (by omega) (by omega))
  clear g1 g2 g3 e1 e2 hn
  go_enter Try.func13, Try.ntmps13
  go_wp2_with fail
  generalize w.alloc (.cells #[.slice va vn vc, .slice xa xn xc] 31) = W0 at *
  refine KI.out.mono ?_
  rintro e w1 ⟨rfl, hb⟩
  have HB1 := Lib.hid (HB.out.trans (hb.mono HB.out.size))
  obtain ⟨c0, c1, _, _⟩ := two_cells ((hb.block w.heap.size hlt).trans hC)
  clear hb hC
  go_wp2_with fail
  refine (KE.out _ HB1.out).mono ?_
  rintro e w2 ⟨rfl, hb⟩
  have HB2 := Lib.hid (HB1.out.trans (hb.mono HB1.out.size))
  clear hb c0 c1
  go_wp2_with fail
  go_ret
  rw [show k + (vn + (xn + itemsOf x.exts)) = k + vn + xn + itemsOf x.exts by omega]
  exact ⟨rfl, HB2.out⟩
set_option maxHeartbeats 1000000 in
set_option maxRecDepth 100000 in
theorem heldAnswer_any {k : Nat} {w : World} {v : Value} {x : Ans} (h : AnsW w v (marksAns k x)) (hk : k ≤ 1000000000) (hn : x.parts ≤ 1000000000) :
    Calls Try.prog 20 #[v, .int .i64 k] w (Told (.int .i64 ((k + x.parts : Nat) : Int)) w) := by
  obtain ⟨xa, xn, xc, rfl, g2, g3⟩ := h
  simp only [marksAns]
  have e2 : x.exts.length = xn := by have := g2.len; simpa [marksAns, marksV_len] using this
  have G2 : Hid (Vals w xa xn (marksV k x.exts)) := by simp only [marksAns] at g2; exact Lib.hid g2
  unfold Ans.parts at hn ⊢
  rw [e2] at hn ⊢
  have HB := Lib.hid (alloc_same w (.cells #[.int .i64 x.ver, .slice xa xn xc] 43))
  have hC := heap_alloc_new w (.cells #[.int .i64 x.ver, .slice xa xn xc] 43 (0, 0))
  change (w.alloc (.cells #[.int .i64 x.ver, .slice xa xn xc] 43)).heap[w.heap.size]? = _ at hC
  have hlt : w.heap.size < (w.alloc (.cells #[.int .i64 x.ver, .slice xa xn xc] 43)).heap.size := by simp
  have KE := Lib.hid (fun w0 (hb : Below w.heap.size w w0) => heldExtS_any xa xn xc k x.exts w0 (G2.out.same hb) (by omega) (by omega) (by omega))
  clear g2 g3 e2 hn hC
  go_enter Try.func20, Try.ntmps20
  go_wp2_with fail
  generalize w.alloc (.cells #[.int .i64 x.ver, .slice xa xn xc] 43) = W0 at *
  refine (KE.out _ HB.out).mono ?_
  rintro e w2 ⟨rfl, hb⟩
  have HB2 := Lib.hid (HB.out.trans (hb.mono HB.out.size))
  clear hb
  go_wp2_with fail
  go_ret
  rw [show k + (xn + itemsOf x.exts) = k + xn + itemsOf x.exts by omega]
  exact ⟨rfl, HB2.out⟩
end Go.Proofs.Ytcmjadfpifpknaa
namespace Go.Proofs.Ytcmjadfpifpknaa
open Go.ChangeShapes Go.WideShapes Go.ChangeAt Go.RowKit
set_option linter.unusedVariables false

def ChR (pw : World) (L : Ans) (g : Nat) (b : Option Addr) (m d : Nat) (W : World) : Prop :=
  Below pw.heap.size pw W ∧ W.heap[g]? = some (.cells #[.int .i64 L.ver, .slice b m d] 43 (0, 0)) ∧ (pw.heap.size ≤ g ∧ g < W.heap.size) ∧ ∃ lo S, OwnAns S W lo (.agg #[.int .i64 L.ver, .slice b m d]) L ∧ pw.heap.size ≤ lo ∧ S ≤ W.heap.size ∧ (g < lo ∨ S ≤ g)
def ChQ (R : Nat → Option Addr → Nat → Nat → World → Prop) (act : Nat → Value → Value → Value → Option Addr → Nat → Nat → Act) : Exit → Act → World → Prop
  | .normal, a, W => ∃ g u3 u5 u7 b m d, a = act g u3 u5 u7 b m d ∧ R g b m d W
  | _, _, _ => False
/-- One act and one condition for every order: the rest is walked once. -/
theorem ch_cut {P : Program} {c : Go.Code} {Q' : Exit → Act → World → Prop} {a : Act} {w : World} (R : Nat → Option Addr → Nat → Nat → World → Prop) (act : Nat → Value → Value → Value → Option Addr → Nat → Nat → Act)
    (h : c.wp P (ChQ R act) a w)
    (hr : ∀ g u3 u5 u7 b m d W', R g b m d W' → Q' .normal (act g u3 u5 u7 b m d) W') : c.wp P Q' a w :=
  Go.Code.wp_mono (fun e a' W' hq => by
    cases e with
    | normal =>
      obtain ⟨g, u3, u5, u7, b, m, d, ha, hR⟩ := hq
      subst ha
      exact hr g u3 u5 u7 b m d W' hR
    | _ => exact hq.elim) h
theorem chR_alloc {pw w : World} {L : Ans} {b : Option Addr} {m d : Nat} (hb : Below pw.heap.size pw w) (ho : OwnAns w.heap.size w pw.heap.size (.agg #[.int .i64 L.ver, .slice b m d]) L) : ChR pw L w.heap.size b m d (w.alloc (.cells #[.int .i64 L.ver, .slice b m d] 43)) :=
  ⟨hb.alloc hb.size _, heap_alloc_new w _, ⟨hb.size, by simp⟩, _, _, ho.same ((Below.refl _ w).alloc (Nat.le_refl _) _), Nat.le_refl _, by simp, Or.inr (Nat.le_refl _)⟩
theorem chR_store {pw w v : World} {L : Ans} {g : Nat} {b : Option Addr} {m d : Nat} (hb : Below pw.heap.size pw v) (hg : pw.heap.size ≤ g) (hz : v.heap[g]? = some (.cells #[.int .i64 0, .slice none 0 0] 43 (0, 0))) (hgw : g < w.heap.size) (hwv : w.heap.size ≤ v.heap.size)
    (ho : OwnAns v.heap.size v w.heap.size (.agg #[.int .i64 L.ver, .slice b m d]) L) : ChR pw L g b m d ((v.setCell ⟨g, 0, none⟩ (.int .i64 L.ver)).setCell ⟨g, 1, none⟩ (.slice b m d)) := by
  obtain ⟨z0, z1, hZ⟩ := two_put hz (.int .i64 L.ver) (.slice b m d)
  have hi : Inside g (g + 1) v ((v.setCell ⟨g, 0, none⟩ (.int .i64 L.ver)).setCell ⟨g, 1, none⟩ (.slice b m d)) :=
    Inside.row (lo := g) (hi := g + 1) ((set_grown v g 0 _).trans (set_grown _ g 1 _)) (fun r e => by cases e; exact ⟨Nat.le_refl _, Nat.lt_succ_self _⟩)
  exact ⟨(hb.setCell hg _).setCell hg _, hZ, ⟨hg, by simp; omega⟩, w.heap.size, v.heap.size, ho.aside hi (Or.inl (by omega)), by have := hb.size; omega, by simp, Or.inl hgw⟩
end Go.Proofs.Ytcmjadfpifpknaa
