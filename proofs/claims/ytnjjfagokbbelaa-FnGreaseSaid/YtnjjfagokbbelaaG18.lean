/- What chapter 9's law takes: writing and reading by cases; numbers of what is known and what is left. Lists of values are compared: by the program. Lists of extensions are compared: by the program. Lists of integers are compared: by the program. What the law of reserved values asks of its parts. -/
import Derived.Test.YtnjjfagokbbelaaG10
import Derived.Test.YtnjjfagokbbelaaG11
import Derived.Test.YtnjjfagokbbelaaG17
import Derived.Test.YtnjjfagokbbelaaG16
import Derived.Test.YtnjjfagokbbelaaG5
import Derived.Test.YtnjjfagokbbelaaG4
import Derived.Test.YtnjjfagokbbelaaG13
namespace Go.Proofs.Ytnjjfagokbbelaa
open Go.ChangeShapes Go.WideShapes Go.ChangeAt Go.RowKit
set_option linter.unusedVariables false

theorem encE_yes {a : Option Addr} {n c : Nat} {l : List Vl} {w : World} (ha : areX l = true) (h : Vals w a n l) :
    Calls Try.prog 13 #[.slice a n c] w fun e w' => ∃ q m d, e = .returned (.tuple #[.slice q m d, .bool true]) ∧ Own .i64 3 w' w.heap.size q m d (encX l) ∧ Below w.heap.size w w' := by
  have K := encodeExts_any (c := c) h
  unfold EncXT at K
  rw [encW_yes ha, ha] at K
  exact K
theorem encE_no {a : Option Addr} {n c : Nat} {l : List Vl} {w : World} (ha : areX l = false) (h : Vals w a n l) :
    Calls Try.prog 13 #[.slice a n c] w fun e w' => ∃ q m d, e = .returned (.tuple #[.slice q m d, .bool false]) ∧ Below w.heap.size w w' := by
  have K := encodeExts_any (c := c) h
  unfold EncXT at K
  rw [ha] at K
  exact K.mono fun e w' ⟨q, m, d, e1, _, e3⟩ => ⟨q, m, d, e1, e3⟩
theorem decE_yes {b : Option Addr} {m d : Nat} {y : List Int} {l : List Vl} {w : World} (hy : decX y = some l) (hv : Nums .i64 w b m y) (hd : m ≤ d ∧ (d : Int) ≤ 9223372036854775807) (hm : m ≤ 1000000000) :
    Calls Try.prog 15 #[.slice b m d] w fun e w' => ∃ q n c, e = .returned (.tuple #[.slice q n c, .bool true]) ∧ OwnV 57 3 w' w.heap.size q n c l ∧ Below w.heap.size w w' := by
  have K := decodeExts_any hv hd hm
  unfold DxTold at K
  rw [(dec_some hy).1, (dec_some hy).2] at K
  exact K
theorem decE_no {b : Option Addr} {m d : Nat} {y : List Int} {w : World} (hy : decX y = none) (hv : Nums .i64 w b m y) (hd : m ≤ d ∧ (d : Int) ≤ 9223372036854775807) (hm : m ≤ 1000000000) :
    Calls Try.prog 15 #[.slice b m d] w fun e w' => ∃ q n c, e = .returned (.tuple #[.slice q n c, .bool false]) ∧ Below w.heap.size w w' := by
  have K := decodeExts_any hv hd hm
  unfold DxTold at K
  rw [(dec_none hy).2] at K
  exact K.mono fun e w' ⟨q, n, c, e1, _, e3⟩ => ⟨q, n, c, e1, e3⟩
theorem dec_of_enc {l : List Vl} (h : areX l = true) : decX (encX l) = some l := decX_iff.2 ⟨h, rfl⟩
theorem vok_items : ∀ {v : List Vl} {r : Nat}, Vok r v → itemsOf v ≤ r * v.length
  | [], r, _ => by simp [itemsOf]
  | x :: t, r, h => by
    have h1 := (h x (by simp)).2
    have h2 := vok_items (v := t) (r := r) (fun y hy => h y (by simp [hy]))
    simp only [itemsOf, List.map_cons, List.sum_cons, List.length_cons, Nat.mul_add] at *
    omega
theorem vok_tags {v : List Vl} {r : Nat} (h : Vok r v) : ∀ z ∈ tagsX v, (Lit.int .i64 z).wf = true := by
  intro z hz
  obtain ⟨x, hx, rfl⟩ := List.mem_map.1 hz
  exact WalkArith.wf_i64 (h x hx).1.1
theorem known_in {v : List Vl} {ts : List Int} : ∀ x ∈ tagsX (knownOf v ts), x ∈ ts := by
  intro x hx
  obtain ⟨y, hy, rfl⟩ := List.mem_map.1 hx
  have := (List.mem_filter.1 hy).2
  simpa using this
theorem known_of {v : List Vl} {ts : List Int} : ∀ x ∈ tagsX (knownOf v ts), x ∈ tagsX v := by
  intro x hx
  obtain ⟨y, hy, rfl⟩ := List.mem_map.1 hx
  exact List.mem_map.2 ⟨y, (List.mem_filter.1 hy).1, rfl⟩
theorem left_known : ∀ (v : List Vl) (ts : List Int), (leftX (tagsX v) ts).length + (knownOf v ts).length = v.length
  | [], _ => rfl
  | x :: t, ts => by
    have := left_known t ts
    unfold leftX knownOf tagsX at *
    by_cases h : x.num ∈ ts
    · simp [h] at *
      omega
    · simp [h] at *
      omega
end Go.Proofs.Ytnjjfagokbbelaa
namespace Go.Proofs.Ytnjjfagokbbelaa
open Go.ChangeShapes Go.WideShapes Go.ChangeAt Go.RowKit
set_option linter.unusedVariables false

theorem vl_ne {x y : Vl} (h : x ≠ y) : ¬ (x.num = y.num ∧ x.items = y.items) := fun e => h (by
  obtain ⟨a, b⟩ := x
  obtain ⟨c, d⟩ := y
  simp only at e
  rw [e.1, e.2])
end Go.Proofs.Ytnjjfagokbbelaa

namespace Go.Proofs.Ytnjjfagokbbelaa
open Go.ChangeShapes Go.WideShapes Go.ChangeAt Go.RowKit
set_option linter.unusedVariables false

set_option maxRecDepth 100000 in
theorem equalExt_yes {k : Int} {a b : Option Addr} {n m c d : Nat} {y : List Int} {w : World} (h : Nums .i64 w a n y) (h' : Nums .i64 w b m y) :
    Calls Try.prog 53 #[.agg #[.int .i64 k, .slice a n c], .agg #[.int .i64 k, .slice b m d]] w (Told (.bool true) w) := by
  have HB : Hid (Below w.heap.size w ((w.alloc (.cells #[.int .i64 k, .slice a n c] 57)).alloc (.cells #[.int .i64 k, .slice b m d] 57))) := Lib.hid (((Below.refl _ w).alloc (Nat.le_refl _) _).alloc (by simp) _)
  have K := Lib.hid (fun (w0 : World) (hb : Below w.heap.size w w0) => slicesEqual_yes (c := c) (d := d) (h.same hb) (h'.same hb))
  clear h h'
  go_enter Try.func53, Try.ntmps53
  go_wp2_with fail
  refine (K.out _ HB.out).mono ?_
  rintro e w1 ⟨rfl, hb⟩
  have HB1 := Lib.hid (HB.out.trans (hb.mono HB.out.size))
  clear hb
  go_wp2_with fail
  go_ret
  exact ⟨rfl, HB1.out⟩
set_option maxRecDepth 100000 in
theorem equalExt_no {k q : Int} {a b : Option Addr} {n m c d : Nat} {y z : List Int} {w : World} (h : Nums .i64 w a n y) (h' : Nums .i64 w b m z) (hne : ¬ (k = q ∧ y = z)) :
    Calls Try.prog 53 #[.agg #[.int .i64 k, .slice a n c], .agg #[.int .i64 q, .slice b m d]] w (Told (.bool false) w) := by
  have HB : Hid (Below w.heap.size w ((w.alloc (.cells #[.int .i64 k, .slice a n c] 57)).alloc (.cells #[.int .i64 q, .slice b m d] 57))) := Lib.hid (((Below.refl _ w).alloc (Nat.le_refl _) _).alloc (by simp) _)
  by_cases hk : k = q
  · subst hk
    have hyz : y ≠ z := fun e => hne ⟨rfl, e⟩
    have K := Lib.hid (fun (w0 : World) (hb : Below w.heap.size w w0) => slicesEqual_no (c := c) (d := d) (h.same hb) (h'.same hb) hyz)
    clear h h' hyz hne
    go_enter Try.func53, Try.ntmps53
    go_wp2_with fail
    refine (K.out _ HB.out).mono ?_
    rintro e w1 ⟨rfl, hb⟩
    have HB1 := Lib.hid (HB.out.trans (hb.mono HB.out.size))
    clear hb
    go_wp2_with fail
    go_ret
    exact ⟨rfl, HB1.out⟩
  · have bk : (k == q) = false := by simpa using hk
    clear h h' hne hk
    go_enter Try.func53, Try.ntmps53
    go_wp2_with fail
    go_ret
    exact ⟨rfl, HB.out⟩
set_option maxHeartbeats 1000000 in
set_option maxRecDepth 100000 in
theorem equalFuncX_yes {a b : Option Addr} {n m c d : Nat} {l : List Vl} {w : World} (h : Vals w a n l) (h' : Vals w b m l) :
    Calls Try.prog 52 #[.slice a n c, .slice b m d, .func (.func 53) #[] #[]] w (Told (.bool true) w) := by
  obtain rfl : n = m := by rw [← h.len, ← h'.len]
  have hn := h.fits
  have H := Lib.hid h
  have H' := Lib.hid h'
  clear h h'
  go_enter Try.func52, Try.ntmps52
  go_wp2_with fail
  go_loopw [17] (fun i wr => ∃ j : Nat, j ≤ n ∧ i = .int .i64 j ∧ Below w.heap.size w wr) (fun i _ => n - (intOf i).toNat)
  case atStart => exact ⟨0, Nat.zero_le _, rfl, Below.refl _ _⟩
  case round =>
    obtain ⟨j, hj, rfl, hb⟩ := hrel
    have HB := Lib.hid hb
    clear hb
    by_cases hlt : j < n
    · obtain ⟨b1, o1, p1, m1, d1, k1, y1, rfl, hx, hc0, hc1, hN1, hr1⟩ := (H.out.same HB.out).at_ hlt
      obtain ⟨b2, o2, p2, m2, d2, k2, y2, rfl, hy, hd0, hd1, hN2, hr2⟩ := (H'.out.same HB.out).at_ hlt
      rw [hx] at hy
      cases hy
      have HW : Hid (Below wr.heap.size wr ((wr.alloc (.cells #[.int .i64 k1, .slice p1 m1 d1] 57)).alloc (.cells #[.int .i64 k1, .slice p2 m2 d2] 57))) := Lib.hid (((Below.refl _ wr).alloc (Nat.le_refl _) _).alloc (by simp) _)
      have hq0 : (wr.alloc (.cells #[.int .i64 k1, .slice p1 m1 d1] 57)).cell? ⟨b2, o2 + j * 2, none⟩ = some (.int .i64 k1) := by rw [(alloc_same wr _).cell (cell_in hd0)]; exact hd0
      have hq1 : (wr.alloc (.cells #[.int .i64 k1, .slice p1 m1 d1] 57)).cell? ⟨b2, o2 + j * 2 + 1, none⟩ = some (.slice p2 m2 d2) := by rw [(alloc_same wr _).cell (cell_in hd1)]; exact hd1
      have K := Lib.hid (equalExt_yes (k := k1) (c := d1) (d := d2) (hN1.same HW.out) (hN2.same HW.out))
      clear hx hN1 hN2
      go_wp2_with fail
      refine K.out.mono ?_
      rintro e w3 ⟨rfl, hb3⟩
      have HB3 := Lib.hid ((HB.out.trans (HW.out.mono HB.out.size)).trans (hb3.mono (Nat.le_trans HB.out.size HW.out.size)))
      clear hb3 hc0 hc1 hd0 hd1 hq0 hq1
      go_wp2_with fail
      go_roundw
      case rel => exact ⟨j + 1, by omega, by go_num, HB3.out⟩
      case measure => simp [intOf]; omega
    · go_wp2_with fail
      go_ret
      exact ⟨rfl, HB.out⟩
set_option maxHeartbeats 1000000 in
set_option maxRecDepth 100000 in
theorem equalFuncX_no {a b : Option Addr} {n m c d : Nat} {l l' : List Vl} {w : World} (h : Vals w a n l) (h' : Vals w b m l') (hne : l ≠ l') :
    Calls Try.prog 52 #[.slice a n c, .slice b m d, .func (.func 53) #[] #[]] w (Told (.bool false) w) := by
  have hn := h.fits
  have hm := h'.fits
  have H := Lib.hid h
  have H' := Lib.hid h'
  have HE := Lib.hid hne
  clear h h' hne
  by_cases hnm : n = m
  · subst hnm
    go_enter Try.func52, Try.ntmps52
    go_wp2_with fail
    go_loopw [17] (fun i wr => ∃ j : Nat, j ≤ n ∧ i = .int .i64 j ∧ l.take j = l'.take j ∧ Below w.heap.size w wr) (fun i _ => n - (intOf i).toNat)
    case atStart => exact ⟨0, Nat.zero_le _, rfl, rfl, Below.refl _ _⟩
    case round =>
      obtain ⟨j, hj, rfl, ht, hb⟩ := hrel
      have HB := Lib.hid hb
      have HT := Lib.hid ht
      clear hb ht
      by_cases hlt : j < n
      · obtain ⟨b1, o1, p1, m1, d1, k1, y1, rfl, hx, hc0, hc1, hN1, hr1⟩ := (H.out.same HB.out).at_ hlt
        obtain ⟨b2, o2, p2, m2, d2, k2, y2, rfl, hy, hd0, hd1, hN2, hr2⟩ := (H'.out.same HB.out).at_ hlt
        have HW : Hid (Below wr.heap.size wr ((wr.alloc (.cells #[.int .i64 k1, .slice p1 m1 d1] 57)).alloc (.cells #[.int .i64 k2, .slice p2 m2 d2] 57))) := Lib.hid (((Below.refl _ wr).alloc (Nat.le_refl _) _).alloc (by simp) _)
        have hq0 : (wr.alloc (.cells #[.int .i64 k1, .slice p1 m1 d1] 57)).cell? ⟨b2, o2 + j * 2, none⟩ = some (.int .i64 k2) := by rw [(alloc_same wr _).cell (cell_in hd0)]; exact hd0
        have hq1 : (wr.alloc (.cells #[.int .i64 k1, .slice p1 m1 d1] 57)).cell? ⟨b2, o2 + j * 2 + 1, none⟩ = some (.slice p2 m2 d2) := by rw [(alloc_same wr _).cell (cell_in hd1)]; exact hd1
        by_cases hxy : k1 = k2 ∧ y1 = y2
        · obtain ⟨rfl, rfl⟩ := hxy
          have HX := Lib.hid hx
          have HY := Lib.hid hy
          have K := Lib.hid (equalExt_yes (k := k1) (c := d1) (d := d2) (hN1.same HW.out) (hN2.same HW.out))
          clear hx hy hN1 hN2
          go_wp2_with fail
          refine K.out.mono ?_
          rintro e w3 ⟨rfl, hb3⟩
          have HB3 := Lib.hid ((HB.out.trans (HW.out.mono HB.out.size)).trans (hb3.mono (Nat.le_trans HB.out.size HW.out.size)))
          clear hb3 hc0 hc1 hd0 hd1 hq0 hq1
          go_wp2_with fail
          go_roundw
          case rel => exact ⟨j + 1, by omega, by go_num, by rw [List.take_add_one, List.take_add_one, HX.out, HY.out, HT.out], HB3.out⟩
          case measure => simp [intOf]; omega
        · have K := Lib.hid (equalExt_no (c := d1) (d := d2) (hN1.same HW.out) (hN2.same HW.out) hxy)
          clear hx hy hN1 hN2 hxy
          go_wp2_with fail
          refine K.out.mono ?_
          rintro e w3 ⟨rfl, hb3⟩
          have HB3 := Lib.hid ((HB.out.trans (HW.out.mono HB.out.size)).trans (hb3.mono (Nat.le_trans HB.out.size HW.out.size)))
          clear hb3 hc0 hc1 hd0 hd1 hq0 hq1
          go_wp2_with fail
          go_ret
          exact ⟨rfl, HB3.out⟩
      · exfalso
        have h1 := HT.out
        rw [List.take_of_length_le (by rw [H.out.len]; omega), List.take_of_length_le (by rw [H'.out.len]; omega)] at h1
        exact HE.out h1
  · have hq : ((n : Int) != (m : Int)) = true := by simp; omega
    clear hnm
    go_enter Try.func52, Try.ntmps52
    go_wp2_with fail
    go_ret
    exact ⟨rfl, Below.refl _ _⟩
set_option maxRecDepth 100000 in
theorem equalExts_yes {a b : Option Addr} {n m c d : Nat} {l : List Vl} {w : World} (h : Vals w a n l) (h' : Vals w b m l) :
    Calls Try.prog 16 #[.slice a n c, .slice b m d] w (Told (.bool true) w) := by
  have K := Lib.hid (equalFuncX_yes (c := c) (d := d) h h')
  clear h h'
  go_enter Try.func16, Try.ntmps16
  go_wp2_with fail
  refine K.out.mono ?_
  rintro e w1 ⟨rfl, hb1⟩
  have HB1 := Lib.hid hb1
  clear hb1
  go_wp2
  go_ret
  exact ⟨rfl, HB1.out⟩
set_option maxRecDepth 100000 in
theorem equalExts_no {a b : Option Addr} {n m c d : Nat} {l l' : List Vl} {w : World} (h : Vals w a n l) (h' : Vals w b m l') (hne : l ≠ l') :
    Calls Try.prog 16 #[.slice a n c, .slice b m d] w (Told (.bool false) w) := by
  have K := Lib.hid (equalFuncX_no (c := c) (d := d) h h' hne)
  clear h h' hne
  go_enter Try.func16, Try.ntmps16
  go_wp2_with fail
  refine K.out.mono ?_
  rintro e w1 ⟨rfl, hb1⟩
  have HB1 := Lib.hid hb1
  clear hb1
  go_wp2
  go_ret
  exact ⟨rfl, HB1.out⟩
end Go.Proofs.Ytnjjfagokbbelaa
namespace Go.Proofs.Ytnjjfagokbbelaa
open Go.ChangeShapes Go.WideShapes Go.ChangeAt Go.RowKit
set_option linter.unusedVariables false

set_option maxRecDepth 100000 in
theorem equalInts_yes {a b : Option Addr} {n m c d : Nat} {l : List Int} {w : World} (h : Nums .i64 w a n l) (h' : Nums .i64 w b m l) :
    Calls Try.prog 18 #[.slice a n c, .slice b m d] w (Told (.bool true) w) := by
  have H := Lib.hid h
  have H' := Lib.hid h'
  clear h h'
  go_enter Try.func18, Try.ntmps18
  go_wp2_with fail
  refine (slicesEqual_yes H.out H'.out).mono ?_
  rintro e w1 ⟨rfl, hb1⟩
  have HB1 := Lib.hid hb1
  clear hb1
  go_wp2
  go_ret
  exact ⟨rfl, HB1.out⟩
set_option maxRecDepth 100000 in
theorem equalInts_no {a b : Option Addr} {n m c d : Nat} {l l' : List Int} {w : World} (h : Nums .i64 w a n l) (h' : Nums .i64 w b m l') (hne : l ≠ l') :
    Calls Try.prog 18 #[.slice a n c, .slice b m d] w (Told (.bool false) w) := by
  have H := Lib.hid h
  have H' := Lib.hid h'
  have HE := Lib.hid hne
  clear h h' hne
  go_enter Try.func18, Try.ntmps18
  go_wp2_with fail
  refine (slicesEqual_no H.out H'.out HE.out).mono ?_
  rintro e w1 ⟨rfl, hb1⟩
  have HB1 := Lib.hid hb1
  clear hb1
  go_wp2
  go_ret
  exact ⟨rfl, HB1.out⟩
end Go.Proofs.Ytnjjfagokbbelaa
namespace Go.Proofs.Ytnjjfagokbbelaa
open Go.ChangeShapes Go.WideShapes Go.ChangeAt Go.RowKit
set_option linter.unusedVariables false

theorem told_resv (t : Int) (w : World) : Calls Try.prog 27 #[.int .i64 t] w (Told (.bool (resv t)) w) :=
  (isReserved_any t w).mono fun e w' ⟨h1, h2⟩ => ⟨h1, by rw [h2]; exact Below.refl _ _⟩
theorem str_mem {l : List Vl} {t : Int} (h : t ∈ tagsX (strX l)) : t ∈ tagsX l := by
  rw [strX_tags] at h
  exact (List.mem_filter.1 h).1
theorem five_wf : ∀ z ∈ ([1, 2, 3, 40, 200] : List Int), (Lit.int .i64 z).wf = true := by
  intro z hz
  simp only [List.mem_cons, List.not_mem_nil, or_false] at hz
  rcases hz with rfl | rfl | rfl | rfl | rfl <;> rfl
end Go.Proofs.Ytnjjfagokbbelaa
