/- Lists of machines, each a number and two lists: what a walk is told of one that is read; chains of machines. Whether a newer machine follows an older one, and chains of machines: by the model. -/
import Derived.Test.YtckmgbobkffabaaGreatG33
import Derived.Test.YtckmgbobkffabaaGreatG36
import Derived.Test.YtckmgbobkffabaaGreatG37
import Derived.Test.YtckmgbobkffabaaGreatG1
namespace Go.Proofs.YtckmgbobkffabaaGreat
open Go.ChangeShapes Go.WideShapes Go.ChangeAt Go.RowKit
set_option linter.unusedVariables false
set_option linter.unusedSimpArgs false

/-- From a on lie n machines: the list l. -/
structure Macs (w : World) (a : Option Addr) (n : Nat) (l : List Mac) : Prop where
 len : l.length = n
 fits : (n : Int) ≤ 9223372036854775807
 cell : ∀ j x, l[j]? = some x → ∃ b o p m c q k d, a = some ⟨b, o, none⟩ ∧ w.cell? ⟨b, o + j * 3, none⟩ = some (.int .i64 x.st) ∧ w.cell? ⟨b, o + j * 3 + 1, none⟩ = some (.slice p m c) ∧ w.cell? ⟨b, o + j * 3 + 2, none⟩ = some (.slice q k d) ∧ MacW w (.agg #[.int .i64 x.st, .slice p m c, .slice q k d]) x
theorem Macs.nothing {w : World} : Macs w none 0 [] := ⟨rfl, by omega, fun j x h => by simp at h⟩
theorem Macs.same {w w' : World} {a : Option Addr} {n : Nat} {l : List Mac} (h : Macs w a n l) (hb : Below w.heap.size w w') : Macs w' a n l :=
 ⟨h.len, h.fits, fun j x hj => by
  obtain ⟨b, o, p, m, c, q, k, d, e, h0, h1, h2, h3⟩ := h.cell j x hj
  exact ⟨b, o, p, m, c, q, k, d, e, cell_stay h0 hb, cell_stay h1 hb, cell_stay h2 hb, h3.same hb⟩⟩
theorem Macs.at_ {w : World} {a : Option Addr} {n : Nat} {l : List Mac} (h : Macs w a n l) {j : Nat} (hj : j < n) : ∃ x b o p m c q k d, l[j]? = some x ∧ a = some ⟨b, o, none⟩ ∧ w.cell? ⟨b, o + j * 3, none⟩ = some (.int .i64 x.st) ∧ w.cell? ⟨b, o + j * 3 + 1, none⟩ = some (.slice p m c) ∧ w.cell? ⟨b, o + j * 3 + 2, none⟩ = some (.slice q k d) ∧ MacW w (.agg #[.int .i64 x.st, .slice p m c, .slice q k d]) x := by
 have hl : j < l.length := by rw [h.len]; exact hj
 obtain ⟨b, o, p, m, c, q, k, d, e, h1⟩ := h.cell j _ (List.getElem?_eq_getElem hl)
 exact ⟨_, b, o, p, m, c, q, k, d, List.getElem?_eq_getElem hl, e, h1⟩
theorem chainFrom_iff : ∀ {t : List Mac} {x : Mac}, chainFrom x t = true ↔ ∀ j y z, (x :: t)[j]? = some y → (x :: t)[j + 1]? = some z → followsP z y = true
 | [], x => by
  refine ⟨fun _ j y z _ h => ?_, fun _ => rfl⟩
  simp at h
 | u :: t, x => by
  unfold chainFrom
  rw [Bool.and_eq_true, chainFrom_iff (t := t) (x := u)]
  constructor
  ·rintro ⟨h1, h2⟩ j y z hy hz
   cases j with
   | zero =>
    simp only [List.getElem?_cons_zero, List.getElem?_cons_succ, Option.some.injEq] at hy hz
    rw [← hy, ← hz]
    exact h1
   | succ j =>
    simp only [List.getElem?_cons_succ] at hy hz
    exact h2 j y z hy (by simpa using hz)
  ·intro h
   exact ⟨h 0 x u rfl rfl, fun j y z hy hz => h (j + 1) y z (by simpa using hy) (by simpa using hz)⟩
theorem chainP_iff {l : List Mac} : chainP l = true ↔ ∃ x, l[0]? = some x ∧ isMac x = true ∧ ∀ j y z, l[j]? = some y → l[j + 1]? = some z → followsP z y = true := by
 cases l with
 | nil => simp [chainP]
 | cons x t =>
  unfold chainP
  rw [Bool.and_eq_true, chainFrom_iff]
  simp
/-- Each of the first i machines behind the first one follows the one before it. -/
def ChainTo (l : List Mac) (i : Nat) : Prop := ∀ j, j < i → ∀ y z, l[j]? = some y → l[j + 1]? = some z → followsP z y = true
theorem ChainTo.start (l : List Mac) : ChainTo l 0 := fun j h => absurd h (by omega)
theorem ChainTo.step {l : List Mac} {i : Nat} {x u : Mac} (h : ChainTo l i) (hx : l[i]? = some x) (hu : l[i + 1]? = some u) (hf : followsP u x = true) : ChainTo l (i + 1) := fun j hj y z hy hz => by
 by_cases e : j = i
 ·subst e
  rw [hx] at hy
  rw [hu] at hz
  rw [← Option.some.inj hy, ← Option.some.inj hz]
  exact hf
 ·exact h j (by omega) y z hy hz
theorem ChainTo.done {l : List Mac} {i : Nat} {x : Mac} (h : ChainTo l i) (h0 : l[0]? = some x) (hm : isMac x = true) (hi : l.length ≤ i + 1) : chainP l = true :=
 chainP_iff.2 ⟨x, h0, hm, fun j y z hy hz => h j (by have := at_lt hz; omega) y z hy hz⟩
theorem chain_bad {l : List Mac} {i : Nat} {x u : Mac} (hx : l[i]? = some x) (hu : l[i + 1]? = some u) (hf : followsP u x = false) : chainP l = false := by
 rw [Bool.eq_false_iff]
 intro h
 obtain ⟨_, _, _, h2⟩ := chainP_iff.1 h
 rw [h2 i x u hx hu] at hf
 cases hf
theorem chain_first {l : List Mac} {x : Mac} (h0 : l[0]? = some x) (hm : isMac x = false) : chainP l = false := by
 rw [Bool.eq_false_iff]
 intro h
 obtain ⟨y, h1, h2, _⟩ := chainP_iff.1 h
 rw [h0] at h1
 rw [← Option.some.inj h1, hm] at h2
 cases h2
end Go.Proofs.YtckmgbobkffabaaGreat
namespace Go.Proofs.YtckmgbobkffabaaGreat
open Go.ChangeShapes Go.WideShapes Go.ChangeAt Go.RowKit
set_option linter.unusedVariables false
set_option linter.unusedSimpArgs false

theorem take_allG {α : Type} {p : α → Bool} {l : List α} {j : Nat} {x : α} (hx : l[j]? = some x) (h : (l.take j).all p = true) (hp : p x = true) : (l.take (j + 1)).all p = true := by
 rw [List.take_add_one, hx, List.all_append, h]
 simp [hp]
set_option maxHeartbeats 8000000 in
set_option maxRecDepth 100000 in
theorem specFollows_any {va vb : Value} {a b : Mac} {w : World} (ha : MacW w va a) (hb : MacW w vb b) (hn : a.parts ≤ 10000000) (hn' : b.parts ≤ 10000000) :
  Calls Tryz.prog 8 #[va, vb] w (Told (.bool (followsP a b)) w) := by
 obtain ⟨p, np, cp, q, n, c, rfl⟩ := ha.shape
 obtain ⟨p', np', cp', q', n', c', rfl⟩ := hb.shape
 obtain ⟨hB, hX, hY, hS⟩ := twice w #[.int .i64 a.st, .slice p np cp, .slice q n c] #[.int .i64 b.st, .slice p' np' cp', .slice q' n' c'] 27 27
 have HB := Lib.hid hB
 have HX := Lib.hid hX
 have HY := Lib.hid hY
 have HMA := Lib.hid (ha.same hB)
 have HMB := Lib.hid (hb.same hB)
 have hxl : w.heap.size < ((w.alloc (.cells #[.int .i64 a.st, .slice p np cp, .slice q n c] 27)).alloc (.cells #[.int .i64 b.st, .slice p' np' cp', .slice q' n' c'] 27)).heap.size := (Array.getElem?_eq_some_iff.1 hX).1
 have hyl : w.heap.size + 1 < ((w.alloc (.cells #[.int .i64 a.st, .slice p np cp, .slice q n c] 27)).alloc (.cells #[.int .i64 b.st, .slice p' np' cp', .slice q' n' c'] 27)).heap.size := (Array.getElem?_eq_some_iff.1 hY).1
 clear hB hX hY hS ha hb
 have HIA := Lib.hid (fun W' hb' => specIsMachine_any (HMA.out.same (w' := W') hb'))
 have HIB := Lib.hid (fun W' hb' => specIsMachine_any (HMB.out.same (w' := W') hb'))
 obtain ⟨x0, x1, x2, -⟩ := three_cells HX.out
 go_enter Tryz.func8, Tryz.ntmps8
 go_wp2_with fail
 clear x0 x1 x2
 generalize (w.alloc (.cells #[.int .i64 a.st, .slice p np cp, .slice q n c] 27)).alloc (.cells #[.int .i64 b.st, .slice p' np' cp', .slice q' n' c'] 27) = W0 at *
 refine (HIA.out W0 (Below.refl _ _)).mono ?_
 rintro e w1 ⟨rfl, hb1⟩
 have HD1 : Hid (Below W0.heap.size W0 w1) := Lib.hid hb1
 clear hb1
 cases qa : isMac a with
 | false =>
  have HR : Hid (followsP a b = false) := Lib.hid (by unfold followsP; rw [qa]; rfl)
  clear qa
  go_wp2_with fail
  go_ret
  exact ⟨by rw [HR.out]; try rfl, HB.out.trans (HD1.out.mono HB.out.size)⟩
 | true =>
  obtain ⟨y0, y1, y2, -⟩ := three_cells ((HD1.out.block _ hyl).trans HY.out)
  go_wp2_with fail
  clear y0 y1 y2
  refine (HIB.out w1 HD1.out).mono ?_
  rintro e w2 ⟨rfl, hb2⟩
  have HD2 : Hid (Below W0.heap.size W0 w2) := Lib.hid (HD1.out.trans (hb2.mono HD1.out.size))
  clear hb2
  cases qb : isMac b with
  | false =>
   have HR : Hid (followsP a b = false) := Lib.hid (by unfold followsP; rw [qb, Bool.false_and, Bool.and_false])
   clear qa qb
   go_wp2_with fail
   go_ret
   exact ⟨by rw [HR.out]; try rfl, HB.out.trans (HD2.out.mono HB.out.size)⟩
  | true =>
   have HR : Hid (followsP a b = (followP a b).all fun p => followsAtP a b p.1 p.2) := Lib.hid (by unfold followsP; rw [qa, qb, Bool.true_and, Bool.true_and])
   have HEN := Lib.hid (And.intro (fun x => endP_stop qa x) (fun x => endP_stop qb x))
   clear qa qb
   obtain ⟨x0, x1, x2, -⟩ := three_cells ((HD2.out.block _ hxl).trans HX.out)
   obtain ⟨y0, y1, y2, -⟩ := three_cells ((HD2.out.block _ hyl).trans HY.out)
   go_wp2_with fail
   clear x0 x1 x2 y0 y1 y2
   refine (specFollowPairs_any (HMA.out.same HD2.out) (HMB.out.same HD2.out) hn hn').mono ?_
   rintro e w3 ⟨g, m, d, rfl, ho, hb3⟩
   have hml := ho.count
   have hm36 := followP_len a b
   have hroom := ho.room
   have HO := Lib.hid ho
   have HD3 : Hid (Below W0.heap.size W0 w3) := Lib.hid (HD2.out.trans (hb3.mono HD2.out.size))
   clear ho hb3
   go_wp2_with fail
   go_loopw [6] (fun i wr => ∃ j : Nat, j ≤ m ∧ i = .int .i64 j ∧ ((followP a b).take j).all (fun p => followsAtP a b p.1 p.2) = true ∧ Below w3.heap.size w3 wr) (fun i _ => m - (intOf i).toNat)
   case atStart => exact ⟨0, Nat.zero_le _, rfl, by simp, Below.refl _ _⟩
   case round =>
    obtain ⟨j, hj, rfl, hno, hb⟩ := hrel
    have HNO := Lib.hid hno
    have HRR := Lib.hid hb
    have HRD : Hid (Below W0.heap.size W0 wr) := Lib.hid (HD3.out.trans (hb.mono HD3.out.size))
    clear hno hb
    by_cases hlt : j < m
    ·obtain ⟨r, k, hk, hc0, hrow, o1, o2, o3⟩ := (HO.out.same HRR.out).at_ hlt
     obtain ⟨d0, d1⟩ := two_cells hrow
     obtain ⟨x0, x1, x2, -⟩ := three_cells ((HRD.out.block _ hxl).trans HX.out)
     obtain ⟨y0, y1, y2, -⟩ := three_cells ((HRD.out.block _ hyl).trans HY.out)
     have HK := Lib.hid hk
     clear hk hrow
     go_wp2_with fail
     go_still_tail 14, (by kernel_rfl)
     have H2 : Hid (Below wr.heap.size wr wr.drew) := Lib.hid (Below.refl _ _).drew
     change wpList _ _ _ _ _ wr.drew
     generalize wr.drew = w4 at H2 ⊢
     have HRD2 : Hid (Below W0.heap.size W0 w4) := Lib.hid (HRD.out.trans (H2.out.mono HRD.out.size))
     have HR2 := Lib.hid (HRR.out.trans (H2.out.mono HRR.out.size))
     clear x0 x1 x2 y0 y1 y2 d0 d1 hc0
     have HTR := Lib.hid (specFollowsAt_any k.1 k.2 (HMA.out.same HRD2.out) (HMB.out.same HRD2.out) hn hn' (HEN.out.1 k.1) (HEN.out.2 k.2))
     cases ht : followsAtP a b k.1 k.2 with
     | false =>
      have HF : Hid (followsP a b = false) := Lib.hid (by
       rw [HR.out, List.all_eq_false]
       exact ⟨k, List.mem_of_getElem? HK.out, by simp [ht]⟩)
      rw [ht] at HTR
      clear ht
      go_wp2_with fail
      refine HTR.out.mono ?_
      rintro e w5 ⟨rfl, hb5⟩
      have HB5 : Hid (Below W0.heap.size W0 w5) := Lib.hid (HRD2.out.trans (hb5.mono HRD2.out.size))
      clear hb5
      go_wp2_with fail
      go_ret
      exact ⟨by rw [HF.out]; try rfl, HB.out.trans (HB5.out.mono HB.out.size)⟩
     | true =>
      have HN := Lib.hid (take_allG (p := fun p => followsAtP a b p.1 p.2) HK.out HNO.out ht)
      rw [ht] at HTR
      clear ht
      go_wp2_with fail
      refine HTR.out.mono ?_
      rintro e w5 ⟨rfl, hb5⟩
      have HB5 := Lib.hid (HR2.out.trans (hb5.mono HR2.out.size))
      clear hb5
      go_wp2_with fail
      go_roundw
      case rel => exact ⟨j + 1, by omega, by go_num, HN.out, HB5.out⟩
      case measure => simp [intOf]; omega
    ·obtain rfl : j = m := by omega
     have hno := HNO.out
     rw [List.take_of_length_le (by omega)] at hno
     have HF : Hid (followsP a b = true) := Lib.hid (HR.out.trans hno)
     clear hno
     go_wp2_with fail
     go_ret
     exact ⟨by rw [HF.out]; try rfl, HB.out.trans (HRD.out.mono HB.out.size)⟩
/-- What the model says of a list. -/
theorem chain_model {l : List Mac} : chainP l = true ↔ (∃ x, l[0]? = some x ∧ isMac x = true) ∧ ChainTo l (l.length - 1) := by
 rw [chainP_iff]
 constructor
 ·rintro ⟨x, h1, h2, h3⟩
  exact ⟨⟨x, h1, h2⟩, fun j _ y z hy hz => h3 j y z hy hz⟩
 ·rintro ⟨⟨x, h1, h2⟩, h3⟩
  exact ⟨x, h1, h2, fun j y z hy hz => h3 j (by have := at_lt hz; omega) y z hy hz⟩
end Go.Proofs.YtckmgbobkffabaaGreat
