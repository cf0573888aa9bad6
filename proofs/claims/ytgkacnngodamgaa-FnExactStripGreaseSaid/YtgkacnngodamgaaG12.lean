/- An extension copied, by the program; the extensions whose tags are asked for. The extensions whose tags are asked for, by the program: what it asks is a function that may have captured a variable. The extensions whose tag is in a list: by the program. The laws' own helpers on lists of integers: whether a number is on a list, whether all are, what is left. What chapter 9's law takes: writing and reading by cases; numbers of what is known and what is left. -/
import Derived.Test.YtgkacnngodamgaaG8
import Derived.Test.YtgkacnngodamgaaG10
import Derived.Test.YtgkacnngodamgaaG2
import Derived.Test.YtgkacnngodamgaaG9
import Derived.Test.YtgkacnngodamgaaG11
import Derived.Test.YtgkacnngodamgaaG6
import Derived.Test.YtgkacnngodamgaaG7
import Derived.RegionTactic
import Derived.Handy
import Derived.Test.YtgkacnngodamgaaG3
namespace Go.Proofs.Ytgkacnngodamgaa
open Go.ChangeShapes Go.WideShapes Go.ChangeAt Go.RowKit
set_option linter.unusedVariables false
set_option linter.unusedSimpArgs false

/-- What a function leaves that makes an extension. -/
def MadeX (tI : TypeId) (k : Int) (y : List Int) (w : World) (e : Ending) (w' : World) : Prop :=
  ∃ q m d, e = .returned (.agg #[.int .i64 k, .slice q m d]) ∧ Own .i64 tI w' w.heap.size q m d y ∧ Below w.heap.size w w'
set_option maxHeartbeats 4000000 in
set_option maxRecDepth 100000 in
theorem copyExt_any (k : Int) (p : Option Addr) (m c : Nat) (y : List Int) (w : World) (h : Nums .i64 w p m y) (hm : m ≤ 1048576000) :
    Calls Try.prog 84 #[.agg #[.int .i64 k, .slice p m c]] w (MadeX 3 k y w) := by
  have HL := Lib.hid h.len
  obtain ⟨hsz, hX, hM, hB⟩ := two w #[.int .i64 k, .slice p m c] #[.int .i64 0, .slice none 0 0] 57 57
  have HN := Lib.hid (h.same hB)
  have HB := Lib.hid hB
  clear h hB
  go_enter Try.func84, Try.ntmps84
  go_wp2_with fail
  generalize (w.alloc (.cells #[.int .i64 k, .slice p m c] 57)).alloc (.cells #[.int .i64 0, .slice none 0 0] 57) = W0 at *
  have C0 := Lib.hid ((block_cell hX 0).trans rfl)
  have C1 := Lib.hid ((block_cell hX 1).trans rfl)
  have HM := Lib.hid hM
  have hszB := HB.out.size
  clear hX hM
  have HN2 : Hid (Nums .i64 W0.drew p m y) := Lib.hid (HN.out.same (Below.refl _ _).drew)
  go_region_held3 (fun w9 => w9.cell? ⟨w.heap.size, 0, none⟩ = some (.int .i64 k) ∧ w9.cell? ⟨w.heap.size, 1, none⟩ = some (.slice p m c)) (first | exact ⟨cell_stay C0.out HB3.out, cell_stay C1.out HB3.out⟩ | exact ⟨cell_off (cell_stay C0.out HB3.out) ((set_grown _ _ _ _).trans (set_grown _ _ _ _)) (by simp), cell_off (cell_stay C1.out HB3.out) ((set_grown _ _ _ _).trans (set_grown _ _ _ _)) (by simp)⟩ | exact ⟨cell_stay C0.out (Below.refl _ _).drew, cell_stay C1.out (Below.refl _ _).drew⟩) ((first | (go_at_call 99; refine (copyList_any HN2.out (by omega)).mono ?_; rintro e w3 ⟨a3, m3, c3, rfl, ho3, hb3⟩; obtain rfl : m = m3 := (by rw [← ho3.len]; exact HL.out.symm); have HO3 : Hid (Own .i64 3 w3 W0.heap.size a3 m c3 y) := Lib.hid ho3; have HB3 : Hid (Below W0.heap.size W0 w3) := Lib.hid ((Below.refl _ _).drew.trans hb3); have hM3 : w3.heap[w.heap.size + 1]? = some (.cells #[.int .i64 0, .slice none 0 0] 57 (0, 0)) := (HB3.out.block _ (by omega)).trans HM.out; obtain ⟨m0, m1, g0, g1⟩ := two_cells hM3; clear ho3 hb3)))
  obtain ⟨z0, z1, hZ⟩ := two_put hM3 (.int .i64 k) (.slice a3 m c3)
  have HS3 := Lib.hid HO3.out.span
  have HG3 : Hid (Below w.heap.size w w3) := Lib.hid (HB.out.trans (HB3.out.mono hszB))
  have hs3 := HB3.out.size
  clear hM3 m0 m1 g0 g1 hZ
  go_wp2_with fail
  (try simp only [Exit.inBlock, Exit.then])
  refine bodyPost_ret (by simp [results, Try.results84, go_sem, z0, z1]; try rfl) rfl ?_
  have hd : ∀ ad, a3 = some ad → ad.block ≠ w.heap.size + 1 := fun ad e => by
    have := (HS3.out ad e).1
    omega
  have h9 := ((HO3.out.lower hszB).set hd 0 (.int .i64 k)).set hd 1 (.slice a3 m c3)
  exact ⟨_, _, _, rfl, h9, (HG3.out.setCell (by dsimp only; omega) _).setCell (by dsimp only; omega) _⟩
/-- The extensions whose tags are asked for. -/
def whX (f : Int → Bool) (l : List Vl) : List Vl := l.filter fun x => f x.num
theorem knownOf_wh (l : List Vl) (ts : List Int) : knownOf l ts = whX (fun k => decide (k ∈ ts)) l := rfl
theorem wh_yes {f : Int → Bool} {l : List Vl} {j : Nat} {x : Vl} (hx : l[j]? = some x) (h : f x.num = true) : whX f (l.take (j + 1)) = whX f (l.take j) ++ [x] := by
  rw [List.take_add_one, hx]
  simp [whX, h]
theorem wh_no {f : Int → Bool} {l : List Vl} {j : Nat} {x : Vl} (hx : l[j]? = some x) (h : f x.num = false) : whX f (l.take (j + 1)) = whX f (l.take j) := by
  rw [List.take_add_one, hx]
  simp [whX, h]
theorem wh_few (f : Int → Bool) (l : List Vl) : (whX f l).length ≤ l.length := List.length_filter_le _ _
theorem wh_items (f : Int → Bool) : ∀ (l : List Vl), itemsOf (whX f l) ≤ itemsOf l
  | [] => Nat.le_refl _
  | x :: t => by
    have := wh_items f t
    unfold whX itemsOf at *
    rw [List.filter_cons]
    split <;> simp <;> omega
theorem known_yes {l : List Vl} {ts : List Int} {j : Nat} {x : Vl} (hx : l[j]? = some x) (h : x.num ∈ ts) : knownOf (l.take (j + 1)) ts = knownOf (l.take j) ts ++ [x] := by
  rw [List.take_add_one, hx]
  simp [knownOf, h]
theorem known_no {l : List Vl} {ts : List Int} {j : Nat} {x : Vl} (hx : l[j]? = some x) (h : ¬ x.num ∈ ts) : knownOf (l.take (j + 1)) ts = knownOf (l.take j) ts := by
  rw [List.take_add_one, hx]
  simp [knownOf, h]
theorem known_few (l : List Vl) (ts : List Int) : (knownOf l ts).length ≤ l.length := List.length_filter_le _ _
theorem known_items : ∀ (l : List Vl) (ts : List Int), itemsOf (knownOf l ts) ≤ itemsOf l
  | [], _ => Nat.le_refl _
  | x :: t, ts => by
    have := known_items t ts
    unfold knownOf itemsOf at *
    rw [List.filter_cons]
    split <;> simp <;> omega
end Go.Proofs.Ytgkacnngodamgaa
namespace Go.Proofs.Ytgkacnngodamgaa
open Go.ChangeShapes Go.WideShapes Go.ChangeAt Go.RowKit
set_option linter.unusedVariables false
set_option linter.unusedSimpArgs false

set_option maxHeartbeats 4000000 in
set_option maxRecDepth 100000 in
theorem extsWhereK_any (f : Int → Bool) (P : Nat) {a : Option Addr} {n c : Nat} {l : List Vl} {w : World} (h : Vals w a n l) (hz : ∀ z ∈ tagsX l, (Lit.int .i64 z).wf = true)
    (hA : ∀ (k : Int) (W : World), (Lit.int .i64 k).wf = true → Below w.heap.size w W → Calls Try.prog 56 #[.int .i64 k, .pointer (some ⟨P, 0, none⟩)] W (Told (.bool (f k)) W)) (hn : n ≤ 1048576) (hit : itemsOf l ≤ 1048576) :
    Calls Try.prog 55 #[.slice a n c, .func (.func 56) #[] #[.pointer (some ⟨P, 0, none⟩)]] w (MadeV 57 3 w.heap.size (whX f l) w) := by
  have H := Lib.hid h
  have hln := Lib.hid h.len
  have HZ := Lib.hid hz
  have HA := Lib.hid hA
  obtain ⟨i0, hi, hz0, hz1, hz2⟩ := info_parts infoExtS
  have HI := Lib.hid (And.intro hi (And.intro hz0 (And.intro hz1 hz2)))
  have HO : Hid (OwnV 57 3 (w.alloc (.cells #[] 57)) w.heap.size (some ⟨w.heap.size, 0, none⟩) 0 0 (whX f (l.take 0))) := Lib.hid (OwnV.empty (Nat.le_refl _))
  clear h hz hA hi hz0 hz1 hz2
  go_enter Try.func55, Try.ntmps55
  go_wp2_with fail
  go_loopw [5, 11] (fun v i wr => ∃ (j : Nat) (q : Option Addr) (r e : Nat), j ≤ n ∧ i = .int .i64 j ∧ v = .slice q r e ∧ OwnV 57 3 wr w.heap.size q r e (whX f (l.take j)) ∧ Below w.heap.size w wr) (fun _ i _ => n - (intOf i).toNat)
  case atStart => exact ⟨0, _, _, _, Nat.zero_le _, rfl, rfl, HO.out, alloc_same _ _⟩
  case round =>
    obtain ⟨j, q, r, e, hj, rfl, rfl, hown, hb⟩ := hrel
    have HO2 := Lib.hid hown
    have HB2 := Lib.hid hb
    clear hown hb
    by_cases hlt : j < n
    · obtain ⟨bb, o, p, pm, pd, k, y, rfl, hx, hc0, hc1, hN, hr⟩ := (H.out.same HB2.out).at_ hlt
      have hsz := HB2.out.size
      have hym := hN.len
      have hyi := itemsOf_mem hx
      dsimp only at hyi
      have hrl : r ≤ 1048576 := by
        have h1 := HO2.out.len
        have h2 := wh_few f (l.take j)
        rw [List.length_take] at h2
        omega
      have HW : Hid (Below wr.heap.size wr (wr.alloc (.cells #[.int .i64 k, .slice p pm pd] 57))) := Lib.hid (alloc_same _ _)
      have HWc : Hid ((wr.alloc (.cells #[.int .i64 k, .slice p pm pd] 57)).cell? ⟨wr.heap.size, 0, none⟩ = some (.int .i64 k) ∧ (wr.alloc (.cells #[.int .i64 k, .slice p pm pd] 57)).cell? ⟨wr.heap.size, 1, none⟩ = some (.slice p pm pd)) := Lib.hid ⟨block_cell (heap_alloc_new wr _) 0, block_cell (heap_alloc_new wr _) 1⟩
      have hs2 : wr.heap.size ≤ (wr.alloc (.cells #[.int .i64 k, .slice p pm pd] 57)).heap.size := HW.out.size
      have HK := Lib.hid (HA.out k (wr.alloc (.cells #[.int .i64 k, .slice p pm pd] 57)) (HZ.out k (tags_mem hx)) (HB2.out.trans (HW.out.mono hsz)))
      have HNp := Lib.hid hN
      cases hk : f k with
      | true =>
        have HF : Hid (whX f (l.take (j + 1)) = whX f (l.take j) ++ [⟨k, y⟩]) := Lib.hid (wh_yes hx hk)
        rw [hk] at HK
        clear hx hN hk
        go_wp2_with fail
        refine HK.out.mono ?_
        rintro e2 w2 ⟨rfl, hb2⟩
        have HB3 : Hid (Below wr.heap.size wr w2) := Lib.hid (HW.out.trans (hb2.mono hs2))
        have c0 := cell_stay HWc.out.1 hb2
        have c1 := cell_stay HWc.out.2 hb2
        have hs3 := HB3.out.size
        have HC := Lib.hid (copyExt_any k p pm pd y w2 (HNp.out.same HB3.out) (by omega))
        unfold MadeX at HC
        clear hb2 HK
        go_wp2_with fail
        refine HC.out.mono ?_
        rintro e3 w3 ⟨q3, m3, d3, rfl, ho3, hb3⟩
        have HO3 := Lib.hid ho3
        have HB4 := Lib.hid (HB3.out.trans (hb3.mono hs3))
        have hs4 := HB4.out.size
        have HNN : Hid (Items Vh.enc 2 (w3.alloc (.cells #[.int .i64 k, .slice q3 m3 d3] 57)) (some ⟨w3.heap.size, 0, none⟩) 1 [⟨k, q3, m3, d3⟩]) := Lib.hid (items_new Vh.enc_len w3 ⟨k, q3, m3, d3⟩ 57)
        clear hb3 hc0 hc1 ho3 c0 c1
        go_wp2_with (at_builtin; refine wpl_appV (S := wr.heap.size) (B := w.heap.size) _ rfl (.tmp 19) (.tmp 22) 24 rfl 57 3 i0 (.agg #[.int .i64 0, .slice none 0 0]) 32 Try.underlying24 HI.out.1 HI.out.2.1 HI.out.2.2.1 HI.out.2.2.2 rfl rfl ((HO2.out.lim.same HB4.out).same (alloc_same _ _)) rfl HNN.out ((HO3.out.lower (by omega)).alloc _) (fun ad e => by have := (HO3.out.span ad e).1; omega) (by omega) ?c4 ?c5 ?_)
        case c4 => omega
        case c5 => simp; omega
        intro a4 c4 w4 ho4 hb4
        have HO4 : Hid (OwnV 57 3 w4 w.heap.size a4 (r + 1) c4 (whX f (l.take (j + 1)))) := Lib.hid (by rw [HF.out]; exact ho4)
        have HB5 : Hid (Below w.heap.size w w4) := Lib.hid ((HB2.out.trans (HB4.out.mono hsz)).trans ((((alloc_same _ _).mono (Nat.le_trans hsz hs4))).trans hb4))
        clear ho4 hb4
        go_wp2_with fail
        go_roundw
        case rel => exact ⟨j + 1, a4, _, c4, by omega, by go_num, rfl, HO4.out, HB5.out⟩
        case measure => simp [intOf]; omega
      | false =>
        have HF : Hid (whX f (l.take (j + 1)) = whX f (l.take j)) := Lib.hid (wh_no hx hk)
        rw [hk] at HK
        clear hx hN hk
        go_wp2_with fail
        refine HK.out.mono ?_
        rintro e2 w2 ⟨rfl, hb2⟩
        have HB3 : Hid (Below wr.heap.size wr w2) := Lib.hid (HW.out.trans (hb2.mono hs2))
        clear hb2 HK
        go_wp2_with fail
        go_roundw
        case rel => exact ⟨j + 1, q, r, e, by omega, by go_num, rfl, by rw [HF.out]; exact HO2.out.same HB3.out, HB2.out.trans (HB3.out.mono hsz)⟩
        case measure => simp [intOf]; omega
    · obtain rfl : j = n := by omega
      go_wp2
      go_ret
      have h1 := HO2.out
      rw [List.take_of_length_le (by rw [hln.out]; omega)] at h1
      exact ⟨_, _, _, rfl, h1, HB2.out⟩
end Go.Proofs.Ytgkacnngodamgaa
namespace Go.Proofs.Ytgkacnngodamgaa
open Go.ChangeShapes Go.WideShapes Go.ChangeAt Go.RowKit
set_option linter.unusedVariables false
set_option linter.unusedSimpArgs false

set_option maxHeartbeats 1000000 in
set_option maxRecDepth 100000 in
theorem knownOf1_told {ts : List Int} {b m P : Nat} (k : Int) (W : World) (hk : (Lit.int .i64 k).wf = true) (hm : W.ownsMap Try.prog 3 (plainElem (H := Unit) Try.prog 3) b m (pl 0 ts)) (hc : W.cell? ⟨P, 0, none⟩ = some (.map (some b))) :
    Calls Try.prog 56 #[.int .i64 k, .pointer (some ⟨P, 0, none⟩)] W (Told (.bool (decide (k ∈ ts))) W) := by
  have hkey := Maps.keyOf_int_mk Try.underlying3 hk
  have HH : Hid (Maps.has (pl 0 ts) (.int .i64 k) = decide (k ∈ ts)) := Lib.hid (pl_has _ _ _)
  have HM := Lib.hid hm
  clear hm
  go_enter Try.func56, Try.ntmps56
  go_wp2_with (at_lookup; refine wpList_lookup_own_ok_int _ rfl _ _ 62 rfl 3 3 .i64 int_keys Try.underlying62 Try.underlying3 (map_zero _) b m (pl 0 ts) rfl HM.out _ _ rfl hkey ?_; intro cc hcc _; rw [HH.out])
  go_ret
  exact ⟨rfl, Below.refl _ _⟩
set_option maxHeartbeats 4000000 in
set_option maxRecDepth 100000 in
theorem knownOf_any {a b : Option Addr} {n c m d : Nat} {l : List Vl} {ts : List Int} {w : World} (h : Vals w a n l) (h' : Nums .i64 w b m ts) (hz : ∀ z ∈ tagsX l, (Lit.int .i64 z).wf = true) (hz' : ∀ z ∈ ts, (Lit.int .i64 z).wf = true) (hn : n ≤ 1048576) (hit : itemsOf l ≤ 1048576) (hm : m ≤ 1048576000) :
    Calls Try.prog 17 #[.slice a n c, .slice b m d] w (MadeV 57 3 w.heap.size (knownOf l ts) w) := by
  have HP := Lib.hid (placesOf_any b m d ts w h' hz' hm)
  have H := Lib.hid h
  clear h h'
  rw [knownOf_wh]
  go_enter Try.func17, Try.ntmps17
  go_wp2_with fail
  refine HP.out.mono ?_
  rintro e w1 ⟨rfl, hown, hb1⟩
  have HM := Lib.hid hown
  have HB1 := Lib.hid hb1
  have hs1 := hb1.size
  have hmlt := hown.lt
  have hal : Below w1.heap.size w1 (w1.alloc (.cells #[.map (some w.heap.size)] 62)) := alloc_same _ _
  have hcl : (w1.alloc (.cells #[.map (some w.heap.size)] 62)).cell? ⟨w1.heap.size, 0, none⟩ = some (.map (some w.heap.size)) := block_cell (heap_alloc_new w1 _) 0
  have HW := Lib.hid (extsWhereK_any (fun k => decide (k ∈ ts)) w1.heap.size (a := a) (n := n) (c := c) (l := l) (w := w1.alloc (.cells #[.map (some w.heap.size)] 62)) ((H.out.same HB1.out).same hal) hz (fun k W hk hb =>
    knownOf1_told k W hk (HM.out.kept (grown_below (hal.trans (hb.mono hal.size)) none) (by simp)) (cell_stay hcl hb)) hn hit)
  have HAL := Lib.hid hal
  clear hown hb1 HP hal hcl
  go_wp2_with fail
  refine HW.out.mono ?_
  rintro e w2 ⟨q, m2, d2, rfl, ho, hb2⟩
  have hs2 := HAL.out.size
  have HR : Hid (MadeV 57 3 w.heap.size (whX (fun k => decide (k ∈ ts)) l) w (.returned (.slice q m2 d2)) w2) := Lib.hid ⟨_, _, _, rfl, ho.lower (by omega), HB1.out.trans ((HAL.out.mono hs1).trans (hb2.mono (by omega)))⟩
  clear ho hb2
  go_wp2_with fail
  go_ret
  exact HR.out
end Go.Proofs.Ytgkacnngodamgaa
namespace Go.Proofs.Ytgkacnngodamgaa
open Go.ChangeShapes Go.WideShapes Go.ChangeAt Go.RowKit
set_option linter.unusedVariables false
set_option linter.unusedSimpArgs false

set_option maxRecDepth 100000 in
theorem contains_any {p : Option Addr} {m c : Nat} {y : List Int} (t : Int) {w : World} (h : Nums .i64 w p m y) :
    Calls Try.prog 57 #[.slice p m c, .int .i64 t] w fun e w' => e = .returned (.bool (decide (t ∈ y))) ∧ w = w' := by
  have H := Lib.hid h
  have hl := h.len
  have hfit := h.fits
  clear h
  go_enter Try.func57, Try.ntmps57
  go_wp2_with fail
  go_loop [5] (fun i => ∃ j : Nat, j ≤ m ∧ i = .int .i64 j ∧ ¬ t ∈ y.take j) (fun i => m - (intOf i).toNat)
  case atStart => exact ⟨0, Nat.zero_le _, rfl, by simp⟩
  case round =>
    obtain ⟨j, hj, rfl, hno⟩ := hrel
    have HN := Lib.hid hno
    clear hno
    by_cases hlt : j < m
    · obtain ⟨ad, z, rfl, hz, hc⟩ := H.out.at_ hlt
      by_cases hk : z = t
      · have HE : Hid (decide (t ∈ y) = true) := Lib.hid (decide_eq_true (by rw [← hk]; exact List.mem_of_getElem? hz))
        have hb : (z == t) = true := by simpa using hk
        clear hz hk
        go_wp2_with fail
        go_ret
        exact ⟨by rw [HE.out]; rfl, rfl⟩
      · have hb : (z == t) = false := by simpa using hk
        have HS : Hid (¬ t ∈ y.take (j + 1)) := Lib.hid (by
          rw [List.take_add_one, hz]
          intro hm
          rcases List.mem_append.1 hm with q | q
          · exact HN.out q
          · have : t = z := by simpa using q
            exact hk this.symm)
        clear hz hk
        go_wp2_with fail
        go_round
        case rel => exact ⟨j + 1, by omega, by go_num, HS.out⟩
        case measure => simp [intOf]; omega
    · obtain rfl : j = m := by omega
      have h1 := HN.out
      rw [List.take_of_length_le (by omega)] at h1
      have HE := Lib.hid (decide_eq_false h1)
      clear h1
      go_wp2_with fail
      go_ret
      exact ⟨by rw [HE.out]; rfl, rfl⟩
set_option maxRecDepth 100000 in
theorem within_yes {p q : Option Addr} {m c n d : Nat} {y z : List Int} {w : World} (h : Nums .i64 w p m y) (h' : Nums .i64 w q n z) (hs : ∀ x ∈ y, x ∈ z) :
    Calls Try.prog 18 #[.slice p m c, .slice q n d] w (Told (.bool true) w) := by
  have H := Lib.hid h
  have hfit := h.fits
  have K := Lib.hid (fun t => contains_any (c := d) t h')
  have HS := Lib.hid hs
  clear h h' hs
  go_enter Try.func18, Try.ntmps18
  go_wp2_with fail
  go_loop [5] (fun i => ∃ j : Nat, j ≤ m ∧ i = .int .i64 j) (fun i => m - (intOf i).toNat)
  case atStart => exact ⟨0, Nat.zero_le _, rfl⟩
  case round =>
    obtain ⟨j, hj, rfl⟩ := hrel
    by_cases hlt : j < m
    · obtain ⟨ad, x, rfl, hx, hc⟩ := H.out.at_ hlt
      have KC := K.out x
      rw [decide_eq_true (HS.out x (List.mem_of_getElem? hx))] at KC
      have KC := Lib.hid KC
      clear hx
      go_wp2_with (go_at_call 57; refine KC.out.mono ?_; rintro e w' ⟨rfl, rfl⟩)
      go_round
      case rel => exact ⟨j + 1, by omega, by go_num⟩
      case measure => simp [intOf]; omega
    · go_wp2_with fail
      go_ret
      exact ⟨rfl, Below.refl _ _⟩
def leftX (y ts : List Int) : List Int := y.filter fun x => !decide (x ∈ ts)
theorem left_yes {y ts : List Int} {j : Nat} {x : Int} (hx : y[j]? = some x) (h : x ∈ ts) : leftX (y.take (j + 1)) ts = leftX (y.take j) ts := by
  rw [List.take_add_one, hx]
  simp [leftX, h]
theorem left_no {y ts : List Int} {j : Nat} {x : Int} (hx : y[j]? = some x) (h : ¬ x ∈ ts) : leftX (y.take (j + 1)) ts = leftX (y.take j) ts ++ [x] := by
  rw [List.take_add_one, hx]
  simp [leftX, h]
theorem left_few (y ts : List Int) : (leftX y ts).length ≤ y.length := List.length_filter_le _ _
set_option maxHeartbeats 2000000 in
set_option maxRecDepth 100000 in
theorem left_any {p q : Option Addr} {m c n d : Nat} {y ts : List Int} {w : World} (h : Nums .i64 w p m y) (h' : Nums .i64 w q n ts) (hm : m ≤ 1048576) :
    Calls Try.prog 20 #[.slice p m c, .slice q n d] w (Made .i64 3 w.heap.size (leftX y ts) w) := by
  have H := Lib.hid h
  have HT := Lib.hid h'
  have hln := Lib.hid h.len
  clear h h'
  obtain ⟨i0, hi, hz0, hz1, hz2⟩ := info_parts infoIntS
  have HI := Lib.hid (And.intro hi (And.intro hz0 (And.intro hz1 hz2)))
  clear hi hz0 hz1 hz2
  have HO : Hid (Own .i64 3 (w.alloc (.cells #[] 3)) w.heap.size (some ⟨w.heap.size, 0, none⟩) 0 0 (leftX (y.take 0) ts)) := Lib.hid (by rw [List.take_zero]; exact Own.empty (Nat.le_refl _))
  go_enter Try.func20, Try.ntmps20
  go_wp2_with fail
  go_loopw [5, 6] (fun v i wr => ∃ (j : Nat) (a : Option Addr) (r e : Nat), j ≤ m ∧ i = .int .i64 j ∧ v = .slice a r e ∧ Own .i64 3 wr w.heap.size a r e (leftX (y.take j) ts) ∧ Below w.heap.size w wr) (fun _ i _ => m - (intOf i).toNat)
  case atStart => exact ⟨0, _, _, _, Nat.zero_le _, rfl, rfl, HO.out, alloc_same _ _⟩
  case round =>
    obtain ⟨j, a, r, e, hj, rfl, rfl, hown, hb⟩ := hrel
    have HO2 := Lib.hid hown
    have HB2 := Lib.hid hb
    have hsz := hb.size
    have hr : r ≤ m := by
      have h1 := hown.len
      have h2 := left_few (y.take j) ts
      rw [List.length_take] at h2
      omega
    clear hown hb
    by_cases hlt : j < m
    · obtain ⟨ad, x, rfl, hx, hd⟩ := H.out.at_ hlt
      have hc := cell_stay hd HB2.out
      have KC := contains_any (c := d) x (HT.out.same HB2.out)
      by_cases hk : x ∈ ts
      · rw [decide_eq_true hk] at KC
        have KC := Lib.hid KC
        have HX := Lib.hid (left_yes hx hk)
        clear hx hk hd
        go_wp2_with (go_at_call 57; refine KC.out.mono ?_; rintro e9 w' ⟨rfl, rfl⟩)
        go_roundw
        case rel => exact ⟨j + 1, a, r, e, by omega, by go_num, rfl, by rw [HX.out]; exact HO2.out, HB2.out⟩
        case measure => simp [intOf]; omega
      · rw [decide_eq_false hk] at KC
        have KC := Lib.hid KC
        have HX := Lib.hid (left_no hx hk)
        clear hx hk hd
        go_wp2_with (first | (go_at_call 57; refine KC.out.mono ?_; rintro e9 w' ⟨rfl, rfl⟩) | (at_builtin; refine wpl_app _ rfl (.tmp 21) (.tmp 26) 26 rfl .i64 3 i0 (.int .i64 0) 8 Try.underlying26 HI.out.1 HI.out.2.1 HI.out.2.2.1 HI.out.2.2.2 rfl rfl (HO2.out.alloc _) rfl (nums_new _ _ _ _) (by omega) ?c1 ?c2 ?_))
        case c1 => omega
        case c2 => simp; omega
        intro a3 c3 w3 ho3 hb3
        have HO3 := Lib.hid ho3
        have HB3 : Hid (Below w.heap.size w w3) := Lib.hid (HB2.out.trans (((alloc_same _ _).mono hsz).trans hb3))
        clear ho3 hb3
        go_wp2_with fail
        go_roundw
        case rel => exact ⟨j + 1, a3, _, c3, by omega, by go_num, rfl, by rw [HX.out]; exact HO3.out, HB3.out⟩
        case measure => simp [intOf]; omega
    · obtain rfl : j = m := by omega
      go_wp2_with fail
      go_ret
      have h1 := HO2.out
      rw [List.take_of_length_le (by rw [hln.out]; omega)] at h1
      exact ⟨_, _, _, rfl, h1, HB2.out⟩
end Go.Proofs.Ytgkacnngodamgaa
namespace Go.Proofs.Ytgkacnngodamgaa
open Go.ChangeShapes Go.WideShapes Go.ChangeAt Go.RowKit
set_option linter.unusedVariables false

theorem encE_yes {a : Option Addr} {n c : Nat} {l : List Vl} {w : World} (ha : areX l = true) (h : Vals w a n l) :
    Calls Try.prog 10 #[.slice a n c] w fun e w' => ∃ q m d, e = .returned (.tuple #[.slice q m d, .bool true]) ∧ Own .i64 3 w' w.heap.size q m d (encX l) ∧ Below w.heap.size w w' := by
  have K := encodeExts_any (c := c) h
  unfold EncXT at K
  rw [encW_yes ha, ha] at K
  exact K
theorem encE_no {a : Option Addr} {n c : Nat} {l : List Vl} {w : World} (ha : areX l = false) (h : Vals w a n l) :
    Calls Try.prog 10 #[.slice a n c] w fun e w' => ∃ q m d, e = .returned (.tuple #[.slice q m d, .bool false]) ∧ Below w.heap.size w w' := by
  have K := encodeExts_any (c := c) h
  unfold EncXT at K
  rw [ha] at K
  exact K.mono fun e w' ⟨q, m, d, e1, _, e3⟩ => ⟨q, m, d, e1, e3⟩
theorem decE_yes {b : Option Addr} {m d : Nat} {y : List Int} {l : List Vl} {w : World} (hy : decX y = some l) (hv : Nums .i64 w b m y) (hd : m ≤ d ∧ (d : Int) ≤ 9223372036854775807) (hm : m ≤ 1000000000) :
    Calls Try.prog 12 #[.slice b m d] w fun e w' => ∃ q n c, e = .returned (.tuple #[.slice q n c, .bool true]) ∧ OwnV 57 3 w' w.heap.size q n c l ∧ Below w.heap.size w w' := by
  have K := decodeExts_any hv hd hm
  unfold DxTold at K
  rw [(dec_some hy).1, (dec_some hy).2] at K
  exact K
theorem decE_no {b : Option Addr} {m d : Nat} {y : List Int} {w : World} (hy : decX y = none) (hv : Nums .i64 w b m y) (hd : m ≤ d ∧ (d : Int) ≤ 9223372036854775807) (hm : m ≤ 1000000000) :
    Calls Try.prog 12 #[.slice b m d] w fun e w' => ∃ q n c, e = .returned (.tuple #[.slice q n c, .bool false]) ∧ Below w.heap.size w w' := by
  have K := decodeExts_any hv hd hm
  unfold DxTold at K
  rw [(dec_none hy).2] at K
  exact K.mono fun e w' ⟨q, n, c, e1, _, e3⟩ => ⟨q, n, c, e1, e3⟩
theorem dec_of_enc {l : List Vl} (h : areX l = true) : decX (encX l) = some l := decX_iff.2 ⟨h, rfl⟩
theorem vok_items : ∀ {v : List Vl} {r : Nat}, Vok r v → itemsOf v ≤ r * v.length
  | [], r, _ => by simp [itemsOf]
  | x :: t, r, h => by
    have h1 := (h x (by simp)).2
    have h2 := vok_items (v := t) (r := r) (fun y hy => h y (by simp [hy]))
    simp only [itemsOf, List.map_cons, List.sum_cons, List.length_cons, Nat.mul_add] at *
    omega
theorem vok_tags {v : List Vl} {r : Nat} (h : Vok r v) : ∀ z ∈ tagsX v, (Lit.int .i64 z).wf = true := by
  intro z hz
  obtain ⟨x, hx, rfl⟩ := List.mem_map.1 hz
  exact WalkArith.wf_i64 (h x hx).1.1
theorem known_in {v : List Vl} {ts : List Int} : ∀ x ∈ tagsX (knownOf v ts), x ∈ ts := by
  intro x hx
  obtain ⟨y, hy, rfl⟩ := List.mem_map.1 hx
  have := (List.mem_filter.1 hy).2
  simpa using this
theorem known_of {v : List Vl} {ts : List Int} : ∀ x ∈ tagsX (knownOf v ts), x ∈ tagsX v := by
  intro x hx
  obtain ⟨y, hy, rfl⟩ := List.mem_map.1 hx
  exact List.mem_map.2 ⟨y, (List.mem_filter.1 hy).1, rfl⟩
theorem left_known : ∀ (v : List Vl) (ts : List Int), (leftX (tagsX v) ts).length + (knownOf v ts).length = v.length
  | [], _ => rfl
  | x :: t, ts => by
    have := left_known t ts
    unfold leftX knownOf tagsX at *
    by_cases h : x.num ∈ ts
    · simp [h] at *
      omega
    · simp [h] at *
      omega
end Go.Proofs.Ytgkacnngodamgaa
