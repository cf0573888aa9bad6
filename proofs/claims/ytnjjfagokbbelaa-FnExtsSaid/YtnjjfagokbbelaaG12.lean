/- The extensions whose tag is in a list: by the program. The laws' own helpers on lists of integers: whether a number is on a list, whether all are, what is left. What chapter 9's law takes: writing and reading by cases; numbers of what is known and what is left. Lists of values are compared: by the program. Lists of extensions are compared: by the program. -/
import Derived.Test.YtnjjfagokbbelaaG11
import Derived.Test.YtnjjfagokbbelaaG6
import Derived.Test.YtnjjfagokbbelaaG7
import Derived.RegionTactic
import Derived.Handy
import Derived.Test.YtnjjfagokbbelaaG10
import Derived.Test.YtnjjfagokbbelaaG3
import Derived.Test.YtnjjfagokbbelaaG5
namespace Go.Proofs.Ytnjjfagokbbelaa
open Go.ChangeShapes Go.WideShapes Go.ChangeAt Go.RowKit
set_option linter.unusedVariables false
set_option linter.unusedSimpArgs false

set_option maxHeartbeats 1000000 in
set_option maxRecDepth 100000 in
theorem knownOf1_told {ts : List Int} {b m P : Nat} (k : Int) (W : World) (hk : (Lit.int .i64 k).wf = true) (hm : W.ownsMap Try.prog 3 (plainElem (H := Unit) Try.prog 3) b m (pl 0 ts)) (hc : W.cell? ⟨P, 0, none⟩ = some (.map (some b))) :
    Calls Try.prog 62 #[.int .i64 k, .pointer (some ⟨P, 0, none⟩)] W (Told (.bool (decide (k ∈ ts))) W) := by
  have hkey := Maps.keyOf_int_mk Try.underlying3 hk
  have HH : Hid (Maps.has (pl 0 ts) (.int .i64 k) = decide (k ∈ ts)) := Lib.hid (pl_has _ _ _)
  have HM := Lib.hid hm
  clear hm
  go_enter Try.func62, Try.ntmps62
  go_wp2_with (at_lookup; refine wpList_lookup_own_ok_int _ rfl _ _ 62 rfl 3 3 .i64 int_keys Try.underlying62 Try.underlying3 (map_zero _) b m (pl 0 ts) rfl HM.out _ _ rfl hkey ?_; intro cc hcc _; rw [HH.out])
  go_ret
  exact ⟨rfl, Below.refl _ _⟩
set_option maxHeartbeats 4000000 in
set_option maxRecDepth 100000 in
theorem knownOf_any {a b : Option Addr} {n c m d : Nat} {l : List Vl} {ts : List Int} {w : World} (h : Vals w a n l) (h' : Nums .i64 w b m ts) (hz : ∀ z ∈ tagsX l, (Lit.int .i64 z).wf = true) (hz' : ∀ z ∈ ts, (Lit.int .i64 z).wf = true) (hn : n ≤ 1048576) (hit : itemsOf l ≤ 1048576) (hm : m ≤ 1048576000) :
    Calls Try.prog 20 #[.slice a n c, .slice b m d] w (MadeV 57 3 w.heap.size (knownOf l ts) w) := by
  have HP := Lib.hid (placesOf_any b m d ts w h' hz' hm)
  have H := Lib.hid h
  clear h h'
  rw [knownOf_wh]
  go_enter Try.func20, Try.ntmps20
  go_wp2_with fail
  refine HP.out.mono ?_
  rintro e w1 ⟨rfl, hown, hb1⟩
  have HM := Lib.hid hown
  have HB1 := Lib.hid hb1
  have hs1 := hb1.size
  have hmlt := hown.lt
  have hal : Below w1.heap.size w1 (w1.alloc (.cells #[.map (some w.heap.size)] 62)) := alloc_same _ _
  have hcl : (w1.alloc (.cells #[.map (some w.heap.size)] 62)).cell? ⟨w1.heap.size, 0, none⟩ = some (.map (some w.heap.size)) := block_cell (heap_alloc_new w1 _) 0
  have HW := Lib.hid (extsWhereK_any (fun k => decide (k ∈ ts)) w1.heap.size (a := a) (n := n) (c := c) (l := l) (w := w1.alloc (.cells #[.map (some w.heap.size)] 62)) ((H.out.same HB1.out).same hal) hz (fun k W hk hb =>
    knownOf1_told k W hk (HM.out.kept (grown_below (hal.trans (hb.mono hal.size)) none) (by simp)) (cell_stay hcl hb)) hn hit)
  have HAL := Lib.hid hal
  clear hown hb1 HP hal hcl
  go_wp2_with fail
  refine HW.out.mono ?_
  rintro e w2 ⟨q, m2, d2, rfl, ho, hb2⟩
  have hs2 := HAL.out.size
  have HR : Hid (MadeV 57 3 w.heap.size (whX (fun k => decide (k ∈ ts)) l) w (.returned (.slice q m2 d2)) w2) := Lib.hid ⟨_, _, _, rfl, ho.lower (by omega), HB1.out.trans ((HAL.out.mono hs1).trans (hb2.mono (by omega)))⟩
  clear ho hb2
  go_wp2_with fail
  go_ret
  exact HR.out
end Go.Proofs.Ytnjjfagokbbelaa
namespace Go.Proofs.Ytnjjfagokbbelaa
open Go.ChangeShapes Go.WideShapes Go.ChangeAt Go.RowKit
set_option linter.unusedVariables false
set_option linter.unusedSimpArgs false

set_option maxRecDepth 100000 in
theorem contains_any {p : Option Addr} {m c : Nat} {y : List Int} (t : Int) {w : World} (h : Nums .i64 w p m y) :
    Calls Try.prog 63 #[.slice p m c, .int .i64 t] w fun e w' => e = .returned (.bool (decide (t ∈ y))) ∧ w = w' := by
  have H := Lib.hid h
  have hl := h.len
  have hfit := h.fits
  clear h
  go_enter Try.func63, Try.ntmps63
  go_wp2_with fail
  go_loop [5] (fun i => ∃ j : Nat, j ≤ m ∧ i = .int .i64 j ∧ ¬ t ∈ y.take j) (fun i => m - (intOf i).toNat)
  case atStart => exact ⟨0, Nat.zero_le _, rfl, by simp⟩
  case round =>
    obtain ⟨j, hj, rfl, hno⟩ := hrel
    have HN := Lib.hid hno
    clear hno
    by_cases hlt : j < m
    · obtain ⟨ad, z, rfl, hz, hc⟩ := H.out.at_ hlt
      by_cases hk : z = t
      · have HE : Hid (decide (t ∈ y) = true) := Lib.hid (decide_eq_true (by rw [← hk]; exact List.mem_of_getElem? hz))
        have hb : (z == t) = true := by simpa using hk
        clear hz hk
        go_wp2_with fail
        go_ret
        exact ⟨by rw [HE.out]; rfl, rfl⟩
      · have hb : (z == t) = false := by simpa using hk
        have HS : Hid (¬ t ∈ y.take (j + 1)) := Lib.hid (by
          rw [List.take_add_one, hz]
          intro hm
          rcases List.mem_append.1 hm with q | q
          · exact HN.out q
          · have : t = z := by simpa using q
            exact hk this.symm)
        clear hz hk
        go_wp2_with fail
        go_round
        case rel => exact ⟨j + 1, by omega, by go_num, HS.out⟩
        case measure => simp [intOf]; omega
    · obtain rfl : j = m := by omega
      have h1 := HN.out
      rw [List.take_of_length_le (by omega)] at h1
      have HE := Lib.hid (decide_eq_false h1)
      clear h1
      go_wp2_with fail
      go_ret
      exact ⟨by rw [HE.out]; rfl, rfl⟩
set_option maxRecDepth 100000 in
theorem within_yes {p q : Option Addr} {m c n d : Nat} {y z : List Int} {w : World} (h : Nums .i64 w p m y) (h' : Nums .i64 w q n z) (hs : ∀ x ∈ y, x ∈ z) :
    Calls Try.prog 21 #[.slice p m c, .slice q n d] w (Told (.bool true) w) := by
  have H := Lib.hid h
  have hfit := h.fits
  have K := Lib.hid (fun t => contains_any (c := d) t h')
  have HS := Lib.hid hs
  clear h h' hs
  go_enter Try.func21, Try.ntmps21
  go_wp2_with fail
  go_loop [5] (fun i => ∃ j : Nat, j ≤ m ∧ i = .int .i64 j) (fun i => m - (intOf i).toNat)
  case atStart => exact ⟨0, Nat.zero_le _, rfl⟩
  case round =>
    obtain ⟨j, hj, rfl⟩ := hrel
    by_cases hlt : j < m
    · obtain ⟨ad, x, rfl, hx, hc⟩ := H.out.at_ hlt
      have KC := K.out x
      rw [decide_eq_true (HS.out x (List.mem_of_getElem? hx))] at KC
      have KC := Lib.hid KC
      clear hx
      go_wp2_with (go_at_call 63; refine KC.out.mono ?_; rintro e w' ⟨rfl, rfl⟩)
      go_round
      case rel => exact ⟨j + 1, by omega, by go_num⟩
      case measure => simp [intOf]; omega
    · go_wp2_with fail
      go_ret
      exact ⟨rfl, Below.refl _ _⟩
def leftX (y ts : List Int) : List Int := y.filter fun x => !decide (x ∈ ts)
theorem left_yes {y ts : List Int} {j : Nat} {x : Int} (hx : y[j]? = some x) (h : x ∈ ts) : leftX (y.take (j + 1)) ts = leftX (y.take j) ts := by
  rw [List.take_add_one, hx]
  simp [leftX, h]
theorem left_no {y ts : List Int} {j : Nat} {x : Int} (hx : y[j]? = some x) (h : ¬ x ∈ ts) : leftX (y.take (j + 1)) ts = leftX (y.take j) ts ++ [x] := by
  rw [List.take_add_one, hx]
  simp [leftX, h]
theorem left_few (y ts : List Int) : (leftX y ts).length ≤ y.length := List.length_filter_le _ _
set_option maxHeartbeats 2000000 in
set_option maxRecDepth 100000 in
theorem left_any {p q : Option Addr} {m c n d : Nat} {y ts : List Int} {w : World} (h : Nums .i64 w p m y) (h' : Nums .i64 w q n ts) (hm : m ≤ 1048576) :
    Calls Try.prog 23 #[.slice p m c, .slice q n d] w (Made .i64 3 w.heap.size (leftX y ts) w) := by
  have H := Lib.hid h
  have HT := Lib.hid h'
  have hln := Lib.hid h.len
  clear h h'
  obtain ⟨i0, hi, hz0, hz1, hz2⟩ := info_parts infoIntS
  have HI := Lib.hid (And.intro hi (And.intro hz0 (And.intro hz1 hz2)))
  clear hi hz0 hz1 hz2
  have HO : Hid (Own .i64 3 (w.alloc (.cells #[] 3)) w.heap.size (some ⟨w.heap.size, 0, none⟩) 0 0 (leftX (y.take 0) ts)) := Lib.hid (by rw [List.take_zero]; exact Own.empty (Nat.le_refl _))
  go_enter Try.func23, Try.ntmps23
  go_wp2_with fail
  go_loopw [5, 6] (fun v i wr => ∃ (j : Nat) (a : Option Addr) (r e : Nat), j ≤ m ∧ i = .int .i64 j ∧ v = .slice a r e ∧ Own .i64 3 wr w.heap.size a r e (leftX (y.take j) ts) ∧ Below w.heap.size w wr) (fun _ i _ => m - (intOf i).toNat)
  case atStart => exact ⟨0, _, _, _, Nat.zero_le _, rfl, rfl, HO.out, alloc_same _ _⟩
  case round =>
    obtain ⟨j, a, r, e, hj, rfl, rfl, hown, hb⟩ := hrel
    have HO2 := Lib.hid hown
    have HB2 := Lib.hid hb
    have hsz := hb.size
    have hr : r ≤ m := by
      have h1 := hown.len
      have h2 := left_few (y.take j) ts
      rw [List.length_take] at h2
      omega
    clear hown hb
    by_cases hlt : j < m
    · obtain ⟨ad, x, rfl, hx, hd⟩ := H.out.at_ hlt
      have hc := cell_stay hd HB2.out
      have KC := contains_any (c := d) x (HT.out.same HB2.out)
      by_cases hk : x ∈ ts
      · rw [decide_eq_true hk] at KC
        have KC := Lib.hid KC
        have HX := Lib.hid (left_yes hx hk)
        clear hx hk hd
        go_wp2_with (go_at_call 63; refine KC.out.mono ?_; rintro e9 w' ⟨rfl, rfl⟩)
        go_roundw
        case rel => exact ⟨j + 1, a, r, e, by omega, by go_num, rfl, by rw [HX.out]; exact HO2.out, HB2.out⟩
        case measure => simp [intOf]; omega
      · rw [decide_eq_false hk] at KC
        have KC := Lib.hid KC
        have HX := Lib.hid (left_no hx hk)
        clear hx hk hd
        go_wp2_with (first | (go_at_call 63; refine KC.out.mono ?_; rintro e9 w' ⟨rfl, rfl⟩) | (at_builtin; refine wpl_app _ rfl (.tmp 21) (.tmp 26) 26 rfl .i64 3 i0 (.int .i64 0) 8 Try.underlying26 HI.out.1 HI.out.2.1 HI.out.2.2.1 HI.out.2.2.2 rfl rfl (HO2.out.alloc _) rfl (nums_new _ _ _ _) (by omega) ?c1 ?c2 ?_))
        case c1 => omega
        case c2 => simp; omega
        intro a3 c3 w3 ho3 hb3
        have HO3 := Lib.hid ho3
        have HB3 : Hid (Below w.heap.size w w3) := Lib.hid (HB2.out.trans (((alloc_same _ _).mono hsz).trans hb3))
        clear ho3 hb3
        go_wp2_with fail
        go_roundw
        case rel => exact ⟨j + 1, a3, _, c3, by omega, by go_num, rfl, by rw [HX.out]; exact HO3.out, HB3.out⟩
        case measure => simp [intOf]; omega
    · obtain rfl : j = m := by omega
      go_wp2_with fail
      go_ret
      have h1 := HO2.out
      rw [List.take_of_length_le (by rw [hln.out]; omega)] at h1
      exact ⟨_, _, _, rfl, h1, HB2.out⟩
end Go.Proofs.Ytnjjfagokbbelaa
namespace Go.Proofs.Ytnjjfagokbbelaa
open Go.ChangeShapes Go.WideShapes Go.ChangeAt Go.RowKit
set_option linter.unusedVariables false

theorem encE_yes {a : Option Addr} {n c : Nat} {l : List Vl} {w : World} (ha : areX l = true) (h : Vals w a n l) :
    Calls Try.prog 13 #[.slice a n c] w fun e w' => ∃ q m d, e = .returned (.tuple #[.slice q m d, .bool true]) ∧ Own .i64 3 w' w.heap.size q m d (encX l) ∧ Below w.heap.size w w' := by
  have K := encodeExts_any (c := c) h
  unfold EncXT at K
  rw [encW_yes ha, ha] at K
  exact K
theorem encE_no {a : Option Addr} {n c : Nat} {l : List Vl} {w : World} (ha : areX l = false) (h : Vals w a n l) :
    Calls Try.prog 13 #[.slice a n c] w fun e w' => ∃ q m d, e = .returned (.tuple #[.slice q m d, .bool false]) ∧ Below w.heap.size w w' := by
  have K := encodeExts_any (c := c) h
  unfold EncXT at K
  rw [ha] at K
  exact K.mono fun e w' ⟨q, m, d, e1, _, e3⟩ => ⟨q, m, d, e1, e3⟩
theorem decE_yes {b : Option Addr} {m d : Nat} {y : List Int} {l : List Vl} {w : World} (hy : decX y = some l) (hv : Nums .i64 w b m y) (hd : m ≤ d ∧ (d : Int) ≤ 9223372036854775807) (hm : m ≤ 1000000000) :
    Calls Try.prog 15 #[.slice b m d] w fun e w' => ∃ q n c, e = .returned (.tuple #[.slice q n c, .bool true]) ∧ OwnV 57 3 w' w.heap.size q n c l ∧ Below w.heap.size w w' := by
  have K := decodeExts_any hv hd hm
  unfold DxTold at K
  rw [(dec_some hy).1, (dec_some hy).2] at K
  exact K
theorem decE_no {b : Option Addr} {m d : Nat} {y : List Int} {w : World} (hy : decX y = none) (hv : Nums .i64 w b m y) (hd : m ≤ d ∧ (d : Int) ≤ 9223372036854775807) (hm : m ≤ 1000000000) :
    Calls Try.prog 15 #[.slice b m d] w fun e w' => ∃ q n c, e = .returned (.tuple #[.slice q n c, .bool false]) ∧ Below w.heap.size w w' := by
  have K := decodeExts_any hv hd hm
  unfold DxTold at K
  rw [(dec_none hy).2] at K
  exact K.mono fun e w' ⟨q, n, c, e1, _, e3⟩ => ⟨q, n, c, e1, e3⟩
theorem dec_of_enc {l : List Vl} (h : areX l = true) : decX (encX l) = some l := decX_iff.2 ⟨h, rfl⟩
theorem vok_items : ∀ {v : List Vl} {r : Nat}, Vok r v → itemsOf v ≤ r * v.length
  | [], r, _ => by simp [itemsOf]
  | x :: t, r, h => by
    have h1 := (h x (by simp)).2
    have h2 := vok_items (v := t) (r := r) (fun y hy => h y (by simp [hy]))
    simp only [itemsOf, List.map_cons, List.sum_cons, List.length_cons, Nat.mul_add] at *
    omega
theorem vok_tags {v : List Vl} {r : Nat} (h : Vok r v) : ∀ z ∈ tagsX v, (Lit.int .i64 z).wf = true := by
  intro z hz
  obtain ⟨x, hx, rfl⟩ := List.mem_map.1 hz
  exact WalkArith.wf_i64 (h x hx).1.1
theorem known_in {v : List Vl} {ts : List Int} : ∀ x ∈ tagsX (knownOf v ts), x ∈ ts := by
  intro x hx
  obtain ⟨y, hy, rfl⟩ := List.mem_map.1 hx
  have := (List.mem_filter.1 hy).2
  simpa using this
theorem known_of {v : List Vl} {ts : List Int} : ∀ x ∈ tagsX (knownOf v ts), x ∈ tagsX v := by
  intro x hx
  obtain ⟨y, hy, rfl⟩ := List.mem_map.1 hx
  exact List.mem_map.2 ⟨y, (List.mem_filter.1 hy).1, rfl⟩
theorem left_known : ∀ (v : List Vl) (ts : List Int), (leftX (tagsX v) ts).length + (knownOf v ts).length = v.length
  | [], _ => rfl
  | x :: t, ts => by
    have := left_known t ts
    unfold leftX knownOf tagsX at *
    by_cases h : x.num ∈ ts
    · simp [h] at *
      omega
    · simp [h] at *
      omega
end Go.Proofs.Ytnjjfagokbbelaa
namespace Go.Proofs.Ytnjjfagokbbelaa
open Go.ChangeShapes Go.WideShapes Go.ChangeAt Go.RowKit
set_option linter.unusedVariables false

theorem vl_ne {x y : Vl} (h : x ≠ y) : ¬ (x.num = y.num ∧ x.items = y.items) := fun e => h (by
  obtain ⟨a, b⟩ := x
  obtain ⟨c, d⟩ := y
  simp only at e
  rw [e.1, e.2])
end Go.Proofs.Ytnjjfagokbbelaa

namespace Go.Proofs.Ytnjjfagokbbelaa
open Go.ChangeShapes Go.WideShapes Go.ChangeAt Go.RowKit
set_option linter.unusedVariables false

set_option maxRecDepth 100000 in
theorem equalExt_yes {k : Int} {a b : Option Addr} {n m c d : Nat} {y : List Int} {w : World} (h : Nums .i64 w a n y) (h' : Nums .i64 w b m y) :
    Calls Try.prog 53 #[.agg #[.int .i64 k, .slice a n c], .agg #[.int .i64 k, .slice b m d]] w (Told (.bool true) w) := by
  have HB : Hid (Below w.heap.size w ((w.alloc (.cells #[.int .i64 k, .slice a n c] 57)).alloc (.cells #[.int .i64 k, .slice b m d] 57))) := Lib.hid (((Below.refl _ w).alloc (Nat.le_refl _) _).alloc (by simp) _)
  have K := Lib.hid (fun (w0 : World) (hb : Below w.heap.size w w0) => slicesEqual_yes (c := c) (d := d) (h.same hb) (h'.same hb))
  clear h h'
  go_enter Try.func53, Try.ntmps53
  go_wp2_with fail
  refine (K.out _ HB.out).mono ?_
  rintro e w1 ⟨rfl, hb⟩
  have HB1 := Lib.hid (HB.out.trans (hb.mono HB.out.size))
  clear hb
  go_wp2_with fail
  go_ret
  exact ⟨rfl, HB1.out⟩
set_option maxRecDepth 100000 in
theorem equalExt_no {k q : Int} {a b : Option Addr} {n m c d : Nat} {y z : List Int} {w : World} (h : Nums .i64 w a n y) (h' : Nums .i64 w b m z) (hne : ¬ (k = q ∧ y = z)) :
    Calls Try.prog 53 #[.agg #[.int .i64 k, .slice a n c], .agg #[.int .i64 q, .slice b m d]] w (Told (.bool false) w) := by
  have HB : Hid (Below w.heap.size w ((w.alloc (.cells #[.int .i64 k, .slice a n c] 57)).alloc (.cells #[.int .i64 q, .slice b m d] 57))) := Lib.hid (((Below.refl _ w).alloc (Nat.le_refl _) _).alloc (by simp) _)
  by_cases hk : k = q
  · subst hk
    have hyz : y ≠ z := fun e => hne ⟨rfl, e⟩
    have K := Lib.hid (fun (w0 : World) (hb : Below w.heap.size w w0) => slicesEqual_no (c := c) (d := d) (h.same hb) (h'.same hb) hyz)
    clear h h' hyz hne
    go_enter Try.func53, Try.ntmps53
    go_wp2_with fail
    refine (K.out _ HB.out).mono ?_
    rintro e w1 ⟨rfl, hb⟩
    have HB1 := Lib.hid (HB.out.trans (hb.mono HB.out.size))
    clear hb
    go_wp2_with fail
    go_ret
    exact ⟨rfl, HB1.out⟩
  · have bk : (k == q) = false := by simpa using hk
    clear h h' hne hk
    go_enter Try.func53, Try.ntmps53
    go_wp2_with fail
    go_ret
    exact ⟨rfl, HB.out⟩
set_option maxHeartbeats 1000000 in
set_option maxRecDepth 100000 in
theorem equalFuncX_yes {a b : Option Addr} {n m c d : Nat} {l : List Vl} {w : World} (h : Vals w a n l) (h' : Vals w b m l) :
    Calls Try.prog 52 #[.slice a n c, .slice b m d, .func (.func 53) #[] #[]] w (Told (.bool true) w) := by
  obtain rfl : n = m := by rw [← h.len, ← h'.len]
  have hn := h.fits
  have H := Lib.hid h
  have H' := Lib.hid h'
  clear h h'
  go_enter Try.func52, Try.ntmps52
  go_wp2_with fail
  go_loopw [17] (fun i wr => ∃ j : Nat, j ≤ n ∧ i = .int .i64 j ∧ Below w.heap.size w wr) (fun i _ => n - (intOf i).toNat)
  case atStart => exact ⟨0, Nat.zero_le _, rfl, Below.refl _ _⟩
  case round =>
    obtain ⟨j, hj, rfl, hb⟩ := hrel
    have HB := Lib.hid hb
    clear hb
    by_cases hlt : j < n
    · obtain ⟨b1, o1, p1, m1, d1, k1, y1, rfl, hx, hc0, hc1, hN1, hr1⟩ := (H.out.same HB.out).at_ hlt
      obtain ⟨b2, o2, p2, m2, d2, k2, y2, rfl, hy, hd0, hd1, hN2, hr2⟩ := (H'.out.same HB.out).at_ hlt
      rw [hx] at hy
      cases hy
      have HW : Hid (Below wr.heap.size wr ((wr.alloc (.cells #[.int .i64 k1, .slice p1 m1 d1] 57)).alloc (.cells #[.int .i64 k1, .slice p2 m2 d2] 57))) := Lib.hid (((Below.refl _ wr).alloc (Nat.le_refl _) _).alloc (by simp) _)
      have hq0 : (wr.alloc (.cells #[.int .i64 k1, .slice p1 m1 d1] 57)).cell? ⟨b2, o2 + j * 2, none⟩ = some (.int .i64 k1) := by rw [(alloc_same wr _).cell (cell_in hd0)]; exact hd0
      have hq1 : (wr.alloc (.cells #[.int .i64 k1, .slice p1 m1 d1] 57)).cell? ⟨b2, o2 + j * 2 + 1, none⟩ = some (.slice p2 m2 d2) := by rw [(alloc_same wr _).cell (cell_in hd1)]; exact hd1
      have K := Lib.hid (equalExt_yes (k := k1) (c := d1) (d := d2) (hN1.same HW.out) (hN2.same HW.out))
      clear hx hN1 hN2
      go_wp2_with fail
      refine K.out.mono ?_
      rintro e w3 ⟨rfl, hb3⟩
      have HB3 := Lib.hid ((HB.out.trans (HW.out.mono HB.out.size)).trans (hb3.mono (Nat.le_trans HB.out.size HW.out.size)))
      clear hb3 hc0 hc1 hd0 hd1 hq0 hq1
      go_wp2_with fail
      go_roundw
      case rel => exact ⟨j + 1, by omega, by go_num, HB3.out⟩
      case measure => simp [intOf]; omega
    · go_wp2_with fail
      go_ret
      exact ⟨rfl, HB.out⟩
set_option maxHeartbeats 1000000 in
set_option maxRecDepth 100000 in
theorem equalFuncX_no {a b : Option Addr} {n m c d : Nat} {l l' : List Vl} {w : World} (h : Vals w a n l) (h' : Vals w b m l') (hne : l ≠ l') :
    Calls Try.prog 52 #[.slice a n c, .slice b m d, .func (.func 53) #[] #[]] w (Told (.bool false) w) := by
  have hn := h.fits
  have hm := h'.fits
  have H := Lib.hid h
  have H' := Lib.hid h'
  have HE := Lib.hid hne
  clear h h' hne
  by_cases hnm : n = m
  · subst hnm
    go_enter Try.func52, Try.ntmps52
    go_wp2_with fail
    go_loopw [17] (fun i wr => ∃ j : Nat, j ≤ n ∧ i = .int .i64 j ∧ l.take j = l'.take j ∧ Below w.heap.size w wr) (fun i _ => n - (intOf i).toNat)
    case atStart => exact ⟨0, Nat.zero_le _, rfl, rfl, Below.refl _ _⟩
    case round =>
      obtain ⟨j, hj, rfl, ht, hb⟩ := hrel
      have HB := Lib.hid hb
      have HT := Lib.hid ht
      clear hb ht
      by_cases hlt : j < n
      · obtain ⟨b1, o1, p1, m1, d1, k1, y1, rfl, hx, hc0, hc1, hN1, hr1⟩ := (H.out.same HB.out).at_ hlt
        obtain ⟨b2, o2, p2, m2, d2, k2, y2, rfl, hy, hd0, hd1, hN2, hr2⟩ := (H'.out.same HB.out).at_ hlt
        have HW : Hid (Below wr.heap.size wr ((wr.alloc (.cells #[.int .i64 k1, .slice p1 m1 d1] 57)).alloc (.cells #[.int .i64 k2, .slice p2 m2 d2] 57))) := Lib.hid (((Below.refl _ wr).alloc (Nat.le_refl _) _).alloc (by simp) _)
        have hq0 : (wr.alloc (.cells #[.int .i64 k1, .slice p1 m1 d1] 57)).cell? ⟨b2, o2 + j * 2, none⟩ = some (.int .i64 k2) := by rw [(alloc_same wr _).cell (cell_in hd0)]; exact hd0
        have hq1 : (wr.alloc (.cells #[.int .i64 k1, .slice p1 m1 d1] 57)).cell? ⟨b2, o2 + j * 2 + 1, none⟩ = some (.slice p2 m2 d2) := by rw [(alloc_same wr _).cell (cell_in hd1)]; exact hd1
        by_cases hxy : k1 = k2 ∧ y1 = y2
        · obtain ⟨rfl, rfl⟩ := hxy
          have HX := Lib.hid hx
          have HY := Lib.hid hy
          have K := Lib.hid (equalExt_yes (k := k1) (c := d1) (d := d2) (hN1.same HW.out) (hN2.same HW.out))
          clear hx hy hN1 hN2
          go_wp2_with fail
          refine K.out.mono ?_
          rintro e w3 ⟨rfl, hb3⟩
          have HB3 := Lib.hid ((HB.out.trans (HW.out.mono HB.out.size)).trans (hb3.mono (Nat.le_trans HB.out.size HW.out.size)))
          clear hb3 hc0 hc1 hd0 hd1 hq0 hq1
          go_wp2_with fail
          go_roundw
          case rel => exact ⟨j + 1, by omega, by go_num, by rw [List.take_add_one, List.take_add_one, HX.out, HY.out, HT.out], HB3.out⟩
          case measure => simp [intOf]; omega
        · have K := Lib.hid (equalExt_no (c := d1) (d := d2) (hN1.same HW.out) (hN2.same HW.out) hxy)
          clear hx hy hN1 hN2 hxy
          go_wp2_with fail
          refine K.out.mono ?_
          rintro e w3 ⟨rfl, hb3⟩
          have HB3 := Lib.hid ((HB.out.trans (HW.out.mono HB.out.size)).trans (hb3.mono (Nat.le_trans HB.out.size HW.out.size)))
          clear hb3 hc0 hc1 hd0 hd1 hq0 hq1
          go_wp2_with fail
          go_ret
          exact ⟨rfl, HB3.out⟩
      · exfalso
        have h1 := HT.out
        rw [List.take_of_length_le (by rw [H.out.len]; omega), List.take_of_length_le (by rw [H'.out.len]; omega)] at h1
        exact HE.out h1
  · have hq : ((n : Int) != (m : Int)) = true := by simp; omega
    clear hnm
    go_enter Try.func52, Try.ntmps52
    go_wp2_with fail
    go_ret
    exact ⟨rfl, Below.refl _ _⟩
set_option maxRecDepth 100000 in
theorem equalExts_yes {a b : Option Addr} {n m c d : Nat} {l : List Vl} {w : World} (h : Vals w a n l) (h' : Vals w b m l) :
    Calls Try.prog 16 #[.slice a n c, .slice b m d] w (Told (.bool true) w) := by
  have K := Lib.hid (equalFuncX_yes (c := c) (d := d) h h')
  clear h h'
  go_enter Try.func16, Try.ntmps16
  go_wp2_with fail
  refine K.out.mono ?_
  rintro e w1 ⟨rfl, hb1⟩
  have HB1 := Lib.hid hb1
  clear hb1
  go_wp2
  go_ret
  exact ⟨rfl, HB1.out⟩
set_option maxRecDepth 100000 in
theorem equalExts_no {a b : Option Addr} {n m c d : Nat} {l l' : List Vl} {w : World} (h : Vals w a n l) (h' : Vals w b m l') (hne : l ≠ l') :
    Calls Try.prog 16 #[.slice a n c, .slice b m d] w (Told (.bool false) w) := by
  have K := Lib.hid (equalFuncX_no (c := c) (d := d) h h' hne)
  clear h h' hne
  go_enter Try.func16, Try.ntmps16
  go_wp2_with fail
  refine K.out.mono ?_
  rintro e w1 ⟨rfl, hb1⟩
  have HB1 := Lib.hid hb1
  clear hb1
  go_wp2
  go_ret
  exact ⟨rfl, HB1.out⟩
end Go.Proofs.Ytnjjfagokbbelaa
