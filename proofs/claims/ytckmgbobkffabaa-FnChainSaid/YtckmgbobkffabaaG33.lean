/- Whether a newer machine follows an older one, and chains of machines: by the model. Machines are compared: by the program. -/
import Derived.Test.YtckmgbobkffabaaG29
import Derived.Test.YtckmgbobkffabaaG32
import Derived.Test.YtckmgbobkffabaaG3
import Derived.Deep.QuietTactic
import Derived.BigQuiet
import Derived.RegionTactic
import Derived.StillTailTactics
import Derived.Handy
import Derived.Test.YtckmgbobkffabaaG1
namespace Go.Proofs.Ytckmgbobkffabaa
open Go.ChangeShapes Go.WideShapes Go.ChangeAt Go.RowKit
set_option linter.unusedVariables false
set_option linter.unusedSimpArgs false

theorem take_allG {α : Type} {p : α → Bool} {l : List α} {j : Nat} {x : α} (hx : l[j]? = some x) (h : (l.take j).all p = true) (hp : p x = true) : (l.take (j + 1)).all p = true := by
 rw [List.take_add_one, hx, List.all_append, h]
 simp [hp]
set_option maxHeartbeats 8000000 in
set_option maxRecDepth 100000 in
theorem specFollows_any {va vb : Value} {a b : Mac} {w : World} (ha : MacW w va a) (hb : MacW w vb b) (hn : a.parts ≤ 10000000) (hn' : b.parts ≤ 10000000) :
  Calls Try.prog 44 #[va, vb] w (Told (.bool (followsP a b)) w) := by
 obtain ⟨p, np, cp, q, n, c, rfl⟩ := ha.shape
 obtain ⟨p', np', cp', q', n', c', rfl⟩ := hb.shape
 obtain ⟨hB, hX, hY, hS⟩ := twice w #[.int .i64 a.st, .slice p np cp, .slice q n c] #[.int .i64 b.st, .slice p' np' cp', .slice q' n' c'] 27 27
 have HB := Lib.hid hB
 have HX := Lib.hid hX
 have HY := Lib.hid hY
 have HMA := Lib.hid (ha.same hB)
 have HMB := Lib.hid (hb.same hB)
 have hxl : w.heap.size < ((w.alloc (.cells #[.int .i64 a.st, .slice p np cp, .slice q n c] 27)).alloc (.cells #[.int .i64 b.st, .slice p' np' cp', .slice q' n' c'] 27)).heap.size := (Array.getElem?_eq_some_iff.1 hX).1
 have hyl : w.heap.size + 1 < ((w.alloc (.cells #[.int .i64 a.st, .slice p np cp, .slice q n c] 27)).alloc (.cells #[.int .i64 b.st, .slice p' np' cp', .slice q' n' c'] 27)).heap.size := (Array.getElem?_eq_some_iff.1 hY).1
 clear hB hX hY hS ha hb
 have HIA := Lib.hid (fun W' hb' => specIsMachine_any (HMA.out.same (w' := W') hb'))
 have HIB := Lib.hid (fun W' hb' => specIsMachine_any (HMB.out.same (w' := W') hb'))
 obtain ⟨x0, x1, x2, -⟩ := three_cells HX.out
 go_enter Try.func44, Try.ntmps44
 go_wp2_with fail
 clear x0 x1 x2
 generalize (w.alloc (.cells #[.int .i64 a.st, .slice p np cp, .slice q n c] 27)).alloc (.cells #[.int .i64 b.st, .slice p' np' cp', .slice q' n' c'] 27) = W0 at *
 refine (HIA.out W0 (Below.refl _ _)).mono ?_
 rintro e w1 ⟨rfl, hb1⟩
 have HD1 : Hid (Below W0.heap.size W0 w1) := Lib.hid hb1
 clear hb1
 cases qa : isMac a with
 | false =>
  have HR : Hid (followsP a b = false) := Lib.hid (by unfold followsP; rw [qa]; rfl)
  clear qa
  go_wp2_with fail
  go_ret
  exact ⟨by rw [HR.out]; try rfl, HB.out.trans (HD1.out.mono HB.out.size)⟩
 | true =>
  obtain ⟨y0, y1, y2, -⟩ := three_cells ((HD1.out.block _ hyl).trans HY.out)
  go_wp2_with fail
  clear y0 y1 y2
  refine (HIB.out w1 HD1.out).mono ?_
  rintro e w2 ⟨rfl, hb2⟩
  have HD2 : Hid (Below W0.heap.size W0 w2) := Lib.hid (HD1.out.trans (hb2.mono HD1.out.size))
  clear hb2
  cases qb : isMac b with
  | false =>
   have HR : Hid (followsP a b = false) := Lib.hid (by unfold followsP; rw [qb, Bool.false_and, Bool.and_false])
   clear qa qb
   go_wp2_with fail
   go_ret
   exact ⟨by rw [HR.out]; try rfl, HB.out.trans (HD2.out.mono HB.out.size)⟩
  | true =>
   have HR : Hid (followsP a b = (followP a b).all fun p => followsAtP a b p.1 p.2) := Lib.hid (by unfold followsP; rw [qa, qb, Bool.true_and, Bool.true_and])
   have HEN := Lib.hid (And.intro (fun x => endP_stop qa x) (fun x => endP_stop qb x))
   clear qa qb
   obtain ⟨x0, x1, x2, -⟩ := three_cells ((HD2.out.block _ hxl).trans HX.out)
   obtain ⟨y0, y1, y2, -⟩ := three_cells ((HD2.out.block _ hyl).trans HY.out)
   go_wp2_with fail
   clear x0 x1 x2 y0 y1 y2
   refine (specFollowPairs_any (HMA.out.same HD2.out) (HMB.out.same HD2.out) hn hn').mono ?_
   rintro e w3 ⟨g, m, d, rfl, ho, hb3⟩
   have hml := ho.count
   have hm36 := followP_len a b
   have hroom := ho.room
   have HO := Lib.hid ho
   have HD3 : Hid (Below W0.heap.size W0 w3) := Lib.hid (HD2.out.trans (hb3.mono HD2.out.size))
   clear ho hb3
   go_wp2_with fail
   go_loopw [6] (fun i wr => ∃ j : Nat, j ≤ m ∧ i = .int .i64 j ∧ ((followP a b).take j).all (fun p => followsAtP a b p.1 p.2) = true ∧ Below w3.heap.size w3 wr) (fun i _ => m - (intOf i).toNat)
   case atStart => exact ⟨0, Nat.zero_le _, rfl, by simp, Below.refl _ _⟩
   case round =>
    obtain ⟨j, hj, rfl, hno, hb⟩ := hrel
    have HNO := Lib.hid hno
    have HRR := Lib.hid hb
    have HRD : Hid (Below W0.heap.size W0 wr) := Lib.hid (HD3.out.trans (hb.mono HD3.out.size))
    clear hno hb
    by_cases hlt : j < m
    ·obtain ⟨r, k, hk, hc0, hrow, o1, o2, o3⟩ := (HO.out.same HRR.out).at_ hlt
     obtain ⟨d0, d1⟩ := two_cells hrow
     obtain ⟨x0, x1, x2, -⟩ := three_cells ((HRD.out.block _ hxl).trans HX.out)
     obtain ⟨y0, y1, y2, -⟩ := three_cells ((HRD.out.block _ hyl).trans HY.out)
     have HK := Lib.hid hk
     clear hk hrow
     go_wp2_with fail
     go_still_tail 14, (by kernel_rfl)
     have H2 : Hid (Below wr.heap.size wr wr.drew) := Lib.hid (Below.refl _ _).drew
     change wpList _ _ _ _ _ wr.drew
     generalize wr.drew = w4 at H2 ⊢
     have HRD2 : Hid (Below W0.heap.size W0 w4) := Lib.hid (HRD.out.trans (H2.out.mono HRD.out.size))
     have HR2 := Lib.hid (HRR.out.trans (H2.out.mono HRR.out.size))
     clear x0 x1 x2 y0 y1 y2 d0 d1 hc0
     have HTR := Lib.hid (specFollowsAt_any k.1 k.2 (HMA.out.same HRD2.out) (HMB.out.same HRD2.out) hn hn' (HEN.out.1 k.1) (HEN.out.2 k.2))
     cases ht : followsAtP a b k.1 k.2 with
     | false =>
      have HF : Hid (followsP a b = false) := Lib.hid (by
       rw [HR.out, List.all_eq_false]
       exact ⟨k, List.mem_of_getElem? HK.out, by simp [ht]⟩)
      rw [ht] at HTR
      clear ht
      go_wp2_with fail
      refine HTR.out.mono ?_
      rintro e w5 ⟨rfl, hb5⟩
      have HB5 : Hid (Below W0.heap.size W0 w5) := Lib.hid (HRD2.out.trans (hb5.mono HRD2.out.size))
      clear hb5
      go_wp2_with fail
      go_ret
      exact ⟨by rw [HF.out]; try rfl, HB.out.trans (HB5.out.mono HB.out.size)⟩
     | true =>
      have HN := Lib.hid (take_allG (p := fun p => followsAtP a b p.1 p.2) HK.out HNO.out ht)
      rw [ht] at HTR
      clear ht
      go_wp2_with fail
      refine HTR.out.mono ?_
      rintro e w5 ⟨rfl, hb5⟩
      have HB5 := Lib.hid (HR2.out.trans (hb5.mono HR2.out.size))
      clear hb5
      go_wp2_with fail
      go_roundw
      case rel => exact ⟨j + 1, by omega, by go_num, HN.out, HB5.out⟩
      case measure => simp [intOf]; omega
    ·obtain rfl : j = m := by omega
     have hno := HNO.out
     rw [List.take_of_length_le (by omega)] at hno
     have HF : Hid (followsP a b = true) := Lib.hid (HR.out.trans hno)
     clear hno
     go_wp2_with fail
     go_ret
     exact ⟨by rw [HF.out]; try rfl, HB.out.trans (HRD.out.mono HB.out.size)⟩
/-- What the model says of a list. -/
theorem chain_model {l : List Mac} : chainP l = true ↔ (∃ x, l[0]? = some x ∧ isMac x = true) ∧ ChainTo l (l.length - 1) := by
 rw [chainP_iff]
 constructor
 ·rintro ⟨x, h1, h2, h3⟩
  exact ⟨⟨x, h1, h2⟩, fun j _ y z hy hz => h3 j y z hy hz⟩
 ·rintro ⟨⟨x, h1, h2⟩, h3⟩
  exact ⟨x, h1, h2, fun j y z hy hz => h3 j (by have := at_lt hz; omega) y z hy hz⟩
set_option maxRecDepth 100000 in
set_option maxHeartbeats 4000000 in
theorem specChainFollows_any {a : Option Addr} {n c : Nat} {l : List Mac} {w : World} (h : Macs w a n l) (hp : ∀ x ∈ l, x.parts ≤ 10000000) (hn : n ≤ 100000000) (hnc : n ≤ c) (hc : (c : Int) ≤ 9223372036854775807) :
  Calls Try.prog 25 #[.slice a n c] w (Told (.bool (chainP l)) w) := by
 have HL := Lib.hid h.len
 have HS := Lib.hid h
 have HP := Lib.hid hp
 clear h hp
 go_enter Try.func25, Try.ntmps25
 go_wp2_with fail
 go_loopw [3] (fun i wr => ∃ j k : Nat, k = j + 1 ∧ j ≤ n - 1 ∧ i = .int .i64 (k : Int) ∧ ChainTo l j ∧ Below w.heap.size w wr) (fun i _ => n - (intOf i).toNat)
 case atStart => exact ⟨0, 1, rfl, Nat.zero_le _, rfl, ChainTo.start l, Below.refl _ _⟩
 case round =>
  obtain ⟨j, k, hk, hj, rfl, hct, hb⟩ := hrel
  have HCT := Lib.hid hct
  have HB := Lib.hid hb
  have hsr := hb.size
  clear hct hb
  by_cases hlt : k < n
  ·obtain ⟨u, b1, o1, p1, m1, d1, q1, k1, e1, hu, hee, c0, c1, c2, hmu⟩ := (HS.out.same HB.out).at_ (j := k) hlt
   obtain ⟨v, b2, o2, p2, m2, d2, q2, k2, e2, hv, hee2, y0, y1, y2, hmv⟩ := (HS.out.same HB.out).at_ (j := j) (by omega)
   subst hee
   cases hee2
   have hjn : j < n := by omega
   have hkj : (k : Int) - 1 = (j : Int) := by omega
   have hwj : IntKind.i64.wrap (j : Int) = (j : Int) := by rw [IntKind.wrap_i64]; omega
   rw [hk] at hu
   clear hk
   have HU := Lib.hid hu
   have HV := Lib.hid hv
   have huz := List.mem_of_getElem? hu
   have hvz := List.mem_of_getElem? hv
   have HMU := Lib.hid hmu
   have HMV := Lib.hid hmv
   clear hu hv hmu hmv
   go_wp2_with fail
   go_still_tail 9, (by kernel_rfl)
   have H2 : Hid (Below wr.heap.size wr wr.drew) := Lib.hid (Below.refl _ _).drew
   change wpList _ _ _ _ _ wr.drew
   generalize wr.drew = w3 at H2 ⊢
   clear c0 c1 c2 y0 y1 y2
   have HC := Lib.hid (specFollows_any (HMU.out.same H2.out) (HMV.out.same H2.out) (HP.out u huz) (HP.out v hvz))
   cases hf : followsP u v with
   | false =>
    have HD := Lib.hid (chain_bad HV.out HU.out hf)
    rw [hf] at HC
    clear hf
    go_wp2_with fail
    refine HC.out.mono ?_
    rintro e w4 ⟨rfl, hb4⟩
    have HB4 := Lib.hid (HB.out.trans ((H2.out.trans (hb4.mono H2.out.size)).mono hsr))
    clear hb4
    go_wp2_with fail
    go_ret
    exact ⟨by rw [HD.out]; try rfl, HB4.out⟩
   | true =>
    have HD := Lib.hid (HCT.out.step HV.out HU.out hf)
    rw [hf] at HC
    clear hf
    go_wp2_with fail
    refine HC.out.mono ?_
    rintro e w4 ⟨rfl, hb4⟩
    have HB4 := Lib.hid (HB.out.trans ((H2.out.trans (hb4.mono H2.out.size)).mono hsr))
    clear hb4
    go_wp2_with fail
    go_roundw
    case rel => exact ⟨j + 1, k + 1, by omega, by omega, by go_num, HD.out, HB4.out⟩
    case measure => simp [intOf]; omega
  ·by_cases h0 : n = 0
   ·subst h0
    obtain rfl : l = [] := List.eq_nil_of_length_eq_zero HL.out
    go_wp2_with fail
    go_ret
    exact ⟨rfl, HB.out⟩
   ·obtain ⟨x, b1, o1, p1, m1, d1, q1, k1, e1, hx, hee, c0, c1, c2, hmx⟩ := (HS.out.same HB.out).at_ (j := 0) (by omega)
    subst hee
    rw [Nat.zero_mul, Nat.add_zero] at c0 c1 c2
    have hpos : 0 < n := by omega
    have HX := Lib.hid hx
    have HM := Lib.hid (specIsMachine_any hmx)
    have HV : Hid (chainP l = isMac x) := Lib.hid (by
     rw [Bool.eq_iff_iff, chain_model]
     constructor
     ·rintro ⟨⟨y, e1, e2⟩, _⟩
      rw [hx] at e1
      rw [Option.some.inj e1]
      exact e2
     ·intro e
      refine ⟨⟨x, hx, e⟩, ?_⟩
      rw [HL.out, show n - 1 = j by omega]
      exact HCT.out)
    clear hx hmx
    go_wp2_with fail
    refine HM.out.mono ?_
    rintro e w4 ⟨rfl, hb4⟩
    have HB4 := Lib.hid (HB.out.trans (hb4.mono hsr))
    clear hb4 c0 c1 c2
    go_wp2_with fail
    go_ret
    exact ⟨by rw [HV.out]; try rfl, HB4.out⟩
end Go.Proofs.Ytckmgbobkffabaa
namespace Go.Proofs.Ytckmgbobkffabaa
open Go.ChangeShapes Go.WideShapes Go.ChangeAt Go.RowKit
set_option linter.unusedVariables false

theorem neMv {x y : Mv} (h : x ≠ y) : (x.frm == y.frm) = false ∨ (x.frm = y.frm ∧ (x.send == y.send) = false) ∨ (x.frm = y.frm ∧ x.send = y.send ∧ (x.msg == y.msg) = false) ∨ (x.frm = y.frm ∧ x.send = y.send ∧ x.msg = y.msg ∧ (x.to == y.to) = false) := by
 obtain ⟨a1, a2, a3, a4⟩ := x
 obtain ⟨b1, b2, b3, b4⟩ := y
 simp only [ne_eq, Mv.mk.injEq, not_and] at h
 simp only [beq_eq_false_iff_ne, ne_eq]
 by_cases h1 : a1 = b1
 ·by_cases h2 : a2 = b2
  ·by_cases h3 : a3 = b3
   ·exact Or.inr (Or.inr (Or.inr ⟨h1, h2, h3, h h1 h2 h3⟩))
   ·exact Or.inr (Or.inr (Or.inl ⟨h1, h2, h3⟩))
  ·exact Or.inr (Or.inl ⟨h1, h2⟩)
 ·exact Or.inl h1
/-- The two boxes of machines that are compared. -/
theorem two_boxes (w : World) (c1 c2 : Array Value) (t : TypeId) : Below w.heap.size w ((w.alloc (.cells c1 t)).alloc (.cells c2 t)) ∧ ((w.alloc (.cells c1 t)).alloc (.cells c2 t)).heap[w.heap.size]? = some (.cells c1 t (0, 0)) ∧
  ((w.alloc (.cells c1 t)).alloc (.cells c2 t)).heap[w.heap.size + 1]? = some (.cells c2 t (0, 0)) ∧ ((w.alloc (.cells c1 t)).alloc (.cells c2 t)).heap.size = w.heap.size + 2 := by
 refine ⟨((Below.refl _ w).alloc (Nat.le_refl _) _).alloc (by simp) _, ?_, ?_, by simp⟩
 ·rw [Below.heap_alloc _ _ _ (by simp)]
  exact heap_alloc_new w (.cells c1 t (0, 0))
 ·have := heap_alloc_new (w.alloc (.cells c1 t)) (.cells c2 t (0, 0))
  simpa using this

end Go.Proofs.Ytckmgbobkffabaa
