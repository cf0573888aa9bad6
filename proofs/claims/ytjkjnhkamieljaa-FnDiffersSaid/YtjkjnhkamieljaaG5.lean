/- Values are compared: by the program. Whether a list of values is a message of a format: by the program. The bytes of messages: how they are written and read, and that the two belong together. No function of the program is spoken of. Whether a field is there: by the model. Whether a value fits a field: by the model. -/
import Derived.Test.YtjkjnhkamieljaaG4
import Derived.Deep.RegionHeld3
namespace Go.Proofs.Ytjkjnhkamieljaa
open Go.ChangeShapes Go.WideShapes Go.ChangeAt Go.RowKit
set_option linter.unusedVariables false

set_option maxRecDepth 100000 in
theorem equalValues_yes {k : Int} {a b : Option Addr} {n m c d : Nat} {y : List Int} {w : World} (h : Nums .i64 w a n y) (h' : Nums .i64 w b m y) :
    Calls Try.prog 42 #[.agg #[.int .i64 k, .slice a n c], .agg #[.int .i64 k, .slice b m d]] w (Told (.bool true) w) := by
  have HB : Hid (Below w.heap.size w ((w.alloc (.cells #[.int .i64 k, .slice a n c] 64)).alloc (.cells #[.int .i64 k, .slice b m d] 64))) := Lib.hid (((Below.refl _ w).alloc (Nat.le_refl _) _).alloc (by simp) _)
  have K := Lib.hid (fun (w0 : World) (hb : Below w.heap.size w w0) => slicesEqual_yes (c := c) (d := d) (h.same hb) (h'.same hb))
  clear h h'
  go_enter Try.func42, Try.ntmps42
  go_wp2_with fail
  refine (K.out _ HB.out).mono ?_
  rintro e w1 ⟨rfl, hb⟩
  have HB1 := Lib.hid (HB.out.trans (hb.mono HB.out.size))
  clear hb
  go_wp2_with fail
  go_ret
  exact ⟨rfl, HB1.out⟩
set_option maxRecDepth 100000 in
theorem equalValues_no {k q : Int} {a b : Option Addr} {n m c d : Nat} {y z : List Int} {w : World} (h : Nums .i64 w a n y) (h' : Nums .i64 w b m z) (hne : ¬ (k = q ∧ y = z)) :
    Calls Try.prog 42 #[.agg #[.int .i64 k, .slice a n c], .agg #[.int .i64 q, .slice b m d]] w (Told (.bool false) w) := by
  have HB : Hid (Below w.heap.size w ((w.alloc (.cells #[.int .i64 k, .slice a n c] 64)).alloc (.cells #[.int .i64 q, .slice b m d] 64))) := Lib.hid (((Below.refl _ w).alloc (Nat.le_refl _) _).alloc (by simp) _)
  by_cases hk : k = q
  · subst hk
    have hyz : y ≠ z := fun e => hne ⟨rfl, e⟩
    have K := Lib.hid (fun (w0 : World) (hb : Below w.heap.size w w0) => slicesEqual_no (c := c) (d := d) (h.same hb) (h'.same hb) hyz)
    clear h h' hyz hne
    go_enter Try.func42, Try.ntmps42
    go_wp2_with fail
    refine (K.out _ HB.out).mono ?_
    rintro e w1 ⟨rfl, hb⟩
    have HB1 := Lib.hid (HB.out.trans (hb.mono HB.out.size))
    clear hb
    go_wp2_with fail
    go_ret
    exact ⟨rfl, HB1.out⟩
  · have bk : (k == q) = false := by simpa using hk
    clear h h' hne hk
    go_enter Try.func42, Try.ntmps42
    go_wp2_with fail
    go_ret
    exact ⟨rfl, HB.out⟩
end Go.Proofs.Ytjkjnhkamieljaa
namespace Go.Proofs.Ytjkjnhkamieljaa
open Go.ChangeShapes Go.WideShapes Go.ChangeAt Go.RowKit
set_option linter.unusedVariables false
set_option linter.unusedSimpArgs false

/-- The value is empty. -/
def emptyV (k : Int) (y : List Int) : Bool := decide (k = 0) && decide (y = [])
/-- A field's value is as it must be: it fits if the field is there, and else is empty. -/
def fitsAt (x : Fd) (t : Bool) (k : Int) (y : List Int) : Bool := if t = true then fitsField x k y else emptyV k y
/-- The first j values are as they must be. -/
def fitsTo (l : List Fd) (v : List Vl) (j : Nat) : Prop := ∀ (i : Nat) (x : Fd) (y : Vl), i < j → l[i]? = some x → v[i]? = some y → fitsAt x (isThere l v i) y.num y.items = true
noncomputable def fitsFmt (l : List Fd) (v : List Vl) : Bool := isFmt l && (decide (v.length = l.length) && @decide (fitsTo l v l.length) (Classical.propDecidable _))
theorem fitsTo_zero (l : List Fd) (v : List Vl) : fitsTo l v 0 := fun i x y h => absurd h (by omega)
theorem fitsTo_step {l : List Fd} {v : List Vl} {j : Nat} {x : Fd} {y : Vl} (h : fitsTo l v j) (hx : l[j]? = some x) (hy : v[j]? = some y) (hf : fitsAt x (isThere l v j) y.num y.items = true) : fitsTo l v (j + 1) := by
  intro i x' y' hi hx' hy'
  by_cases e : i = j
  · subst e
    rw [hx] at hx'
    rw [hy] at hy'
    cases hx'
    cases hy'
    exact hf
  · exact h i x' y' (by omega) hx' hy'
theorem fitsFmt_notFmt {l : List Fd} {v : List Vl} (h : isFmt l = false) : fitsFmt l v = false := by unfold fitsFmt; rw [h]; rfl
theorem fitsFmt_len {l : List Fd} {v : List Vl} (h : v.length ≠ l.length) : fitsFmt l v = false := by unfold fitsFmt; rw [decide_eq_false h]; simp
theorem fitsFmt_no {l : List Fd} {v : List Vl} {j : Nat} {x : Fd} {y : Vl} (hx : l[j]? = some x) (hy : v[j]? = some y) (hf : fitsAt x (isThere l v j) y.num y.items = false) : fitsFmt l v = false := by
  have hn : ¬ fitsTo l v l.length := fun h => by
    have := h j x y (lt_of_some hx) hx hy
    rw [hf] at this
    cases this
  unfold fitsFmt
  rw [@decide_eq_false _ (Classical.propDecidable _) hn]
  simp
theorem fitsFmt_yes {l : List Fd} {v : List Vl} (h : isFmt l = true) (hl : v.length = l.length) (ht : fitsTo l v l.length) : fitsFmt l v = true := by
  unfold fitsFmt
  rw [h, decide_eq_true hl, @decide_eq_true _ (Classical.propDecidable _) ht]
  rfl
theorem fitsAt_there {x : Fd} {k : Int} {y : List Int} {t : Bool} (ht : t = true) : fitsAt x t k y = fitsField x k y := by unfold fitsAt; rw [if_pos ht]
theorem fitsAt_not {x : Fd} {k : Int} {y : List Int} {t : Bool} (ht : t = false) : fitsAt x t k y = emptyV k y := by unfold fitsAt; rw [if_neg (by rw [ht]; decide)]
theorem equalValues_zero (k : Int) (p : Option Addr) (m c : Nat) (y : List Int) (w : World) (h : Nums .i64 w p m y) :
    Calls Try.prog 42 #[.agg #[.int .i64 k, .slice p m c], .agg #[.int .i64 0, .slice none 0 0]] w (Told (.bool (emptyV k y)) w) := by
  by_cases hk : k = 0 ∧ y = []
  · obtain ⟨rfl, rfl⟩ := hk
    exact equalValues_yes h Nums.none
  · have e : emptyV k y = false := by
      unfold emptyV
      by_cases h1 : k = 0
      · rw [decide_eq_false (fun h2 => hk ⟨h1, h2⟩)]
        simp
      · rw [decide_eq_false h1]
        rfl
    rw [e]
    exact equalValues_no h Nums.none hk
set_option maxHeartbeats 4000000 in
set_option maxRecDepth 100000 in
theorem fitsFormat_any (a : Option Addr) (n c : Nat) (l : List Fd) (b : Option Addr) (m d : Nat) (v : List Vl) (w : World) (h : Fds w a n l) (hv : Vals w b m v) (hc : n ≤ c ∧ (c : Int) ≤ 9223372036854775807) (hn : n ≤ 1000000000) (hm : m ≤ 1000000000) :
    Calls Try.prog 62 #[.slice a n c, .slice b m d] w (Told (.bool (fitsFmt l v)) w) := by
  have H := Lib.hid h
  have HV := Lib.hid hv
  have hl := Lib.hid h.len
  have hvl := Lib.hid hv.len
  have KF := Lib.hid (isFormat_any a n c l w h hc)
  have KT := Lib.hid (fun (i : Int) (w0 : World) (hb : Below w.heap.size w w0) => isThere_any a n c l b m d v i w0 (h.same hb) (hv.same hb) hn hm)
  clear h hv hc
  cases hf : isFmt l with
  | false =>
    rw [hf] at KF
    have HE := Lib.hid (fitsFmt_notFmt (v := v) hf)
    clear hf
    go_enter Try.func62, Try.ntmps62
    go_wp2_with fail
    refine KF.out.mono ?_
    rintro e w1 ⟨rfl, hb1⟩
    have HB1 := Lib.hid hb1
    clear hb1
    go_wp2_with fail
    go_ret
    exact ⟨by rw [HE.out]; rfl, HB1.out⟩
  | true =>
    rw [hf] at KF
    by_cases hnm : m = n
    · subst hnm
      have HF := Lib.hid (fun ht => fitsFmt_yes (l := l) (v := v) hf (by rw [hl.out, hvl.out]) ht)
      clear hf
      go_enter Try.func62, Try.ntmps62
      go_wp2_with fail
      refine KF.out.mono ?_
      rintro e w1 ⟨rfl, hb1⟩
      have HB1 := Lib.hid hb1
      clear hb1
      go_wp2_with fail
      go_loopw [20] (fun i wr => ∃ j : Nat, j ≤ m ∧ i = .int .i64 j ∧ fitsTo l v j ∧ Below w.heap.size w wr) (fun i _ => m - (intOf i).toNat)
      case atStart => exact ⟨0, Nat.zero_le _, rfl, fitsTo_zero _ _, HB1.out⟩
      case round =>
        obtain ⟨j, hj, rfl, hft, hb⟩ := hrel
        have HB := Lib.hid hb
        have HFT := Lib.hid hft
        clear hb hft
        by_cases hlt : j < m
        · obtain ⟨bl, ol, ⟨xk, xm, xt, xi⟩, rfl, hx, hc0, hc1, hc2, hc3⟩ := fds_at (H.out.same HB.out) hlt
          obtain ⟨bv, ov, p, q, g, k, y, rfl, hy, hv0, hv1, hN, hr⟩ := (HV.out.same HB.out).at_ hlt
          dsimp only at hc0 hc1 hc2 hc3
          have HW : Hid (Below wr.heap.size wr (wr.alloc (.cells #[.int .i64 k, .slice p q g] 64))) := Lib.hid ((Below.refl _ wr).alloc (Nat.le_refl _) _)
          have KE := Lib.hid (equalValues_zero k p q g y _ (hN.same HW.out))
          have E0 : Hid ((wr.alloc (.cells #[.int .i64 k, .slice p q g] 64)).cell? ⟨wr.heap.size, 0, none⟩ = some (.int .i64 k)) := Lib.hid (by simp)
          have E1 : Hid ((wr.alloc (.cells #[.int .i64 k, .slice p q g] 64)).cell? ⟨wr.heap.size, 1, none⟩ = some (.slice p q g)) := Lib.hid (by simp)
          have E2 := Lib.hid (cell_stay hc0 HW.out)
          have E3 := Lib.hid (cell_stay hc1 HW.out)
          have E4 := Lib.hid (cell_stay hc2 HW.out)
          have E5 := Lib.hid (cell_stay hc3 HW.out)
          have HN := Lib.hid (hN.same HW.out)
          have hltI : (j : Int) < (m : Int) := by omega
          have HX := Lib.hid hx
          have HY := Lib.hid hy
          clear hx hy hN hc0 hc1 hc2 hc3
          cases ht : isThere l v j with
          | true =>
            have KT1 := Lib.hid (fun w0 hb => KT.out j w0 hb)
            rw [ht] at KT1
            cases hv : fitsField ⟨xk, xm, xt, xi⟩ k y with
            | true =>
              have HST := Lib.hid (fitsTo_step HFT.out HX.out HY.out (by rw [fitsAt_there ht]; exact hv))
              have KV := Lib.hid (fun (w0 : World) (h0 : Nums .i64 w0 p q y) => fitsField_any ⟨xk, xm, xt, xi⟩ k p q g y w0 h0)
              rw [hv] at KV
              unfold Fd.val at KV
              clear ht hv
              go_wp2_with fail
              refine KE.out.mono ?_
              rintro e w1 ⟨rfl, hb1⟩
              have HB1' := Lib.hid ((HB.out.trans (HW.out.mono HB.out.size)).trans (hb1.mono (Nat.le_trans HB.out.size HW.out.size)))
              have G0 := Lib.hid (cell_stay E0.out hb1)
              have G1 := Lib.hid (cell_stay E1.out hb1)
              have G2 := Lib.hid (cell_stay E2.out hb1)
              have G3 := Lib.hid (cell_stay E3.out hb1)
              have G4 := Lib.hid (cell_stay E4.out hb1)
              have G5 := Lib.hid (cell_stay E5.out hb1)
              have HN1 := Lib.hid (HN.out.same hb1)
              clear hb1 E0 E1 E2 E3 E4 E5 HN
              go_wp2_with fail
              refine (KT1.out _ HB1'.out).mono ?_
              rintro e w2 ⟨rfl, hb2⟩
              have HB2' := Lib.hid (HB1'.out.trans (hb2.mono HB1'.out.size))
              have F0 := Lib.hid (cell_stay G0.out hb2)
              have F1 := Lib.hid (cell_stay G1.out hb2)
              have F2 := Lib.hid (cell_stay G2.out hb2)
              have F3 := Lib.hid (cell_stay G3.out hb2)
              have F4 := Lib.hid (cell_stay G4.out hb2)
              have F5 := Lib.hid (cell_stay G5.out hb2)
              have HN2 := Lib.hid (HN1.out.same hb2)
              clear hb2 G0 G1 G2 G3 G4 G5 HN1
              go_wp2_with fail
              have HBd : Hid (Below w2.heap.size w2 w2.drew) := Lib.hid (Below.refl _ _).drew
              refine wp_region_held_drew (S := (fun w' => w'.cell? ⟨wr.heap.size, 0, none⟩ = some (.int .i64 k) ∧ w'.cell? ⟨wr.heap.size, 1, none⟩ = some (.slice p q g) ∧ w'.cell? ⟨bl, ol + j * 4, none⟩ = some (.int .i64 xk) ∧ w'.cell? ⟨bl, ol + j * 4 + 1, none⟩ = some (.int .i64 xm) ∧ w'.cell? ⟨bl, ol + j * 4 + 2, none⟩ = some (.int .i64 xt) ∧ w'.cell? ⟨bl, ol + j * 4 + 3, none⟩ = some (.int .i64 xi))) (by kernel_rfl) ⟨cell_stay F0.out HBd.out, cell_stay F1.out HBd.out, cell_stay F2.out HBd.out, cell_stay F3.out HBd.out, cell_stay F4.out HBd.out, cell_stay F5.out HBd.out⟩ (fun hHeld => ?_)
              refine wpAnyH_take (i := 0) (v := ?v1) (by simp only [List.getElem?_toArray, List.getElem?_cons_succ, List.getElem?_cons_zero]; rfl) (by kernel_rfl) (by kernel_rfl) (by kernel_rfl) (by exact fun _ _ _ h => h) (Or.inl ⟨by rfl, fun w9 hS9 => ?hy1⟩) hHeld ?rest1
              case hy1 =>
                dsimp only at hS9
                obtain ⟨s0, s1, s2, s3, s4, s5⟩ := hS9
                go_simp
                try with_reducible rfl
              try simp only [Act.put, List.setIfInBounds_toArray, List.set_cons_zero, List.set_cons_succ]
              refine wpAnyH_take (i := 1) (v := ?v2) (by simp only [List.getElem?_toArray, List.getElem?_cons_succ, List.getElem?_cons_zero]; rfl) (by kernel_rfl) (by kernel_rfl) (by kernel_rfl) (by exact fun _ _ _ h => h) (Or.inl ⟨by rfl, fun w9 hS9 => ?hy2⟩) hHeld ?rest2
              case hy2 =>
                dsimp only at hS9
                obtain ⟨s0, s1, s2, s3, s4, s5⟩ := hS9
                go_simp
                try with_reducible rfl
              try simp only [Act.put, List.setIfInBounds_toArray, List.set_cons_zero, List.set_cons_succ]
              refine wpAnyH_take (i := 2) (v := ?v3) (by simp only [List.getElem?_toArray, List.getElem?_cons_succ, List.getElem?_cons_zero]; rfl) (by kernel_rfl) (by kernel_rfl) (by kernel_rfl) (by exact fun _ _ _ h => h) (Or.inl ⟨by rfl, fun w9 hS9 => ?hy3⟩) hHeld ?rest3
              case hy3 =>
                dsimp only at hS9
                obtain ⟨s0, s1, s2, s3, s4, s5⟩ := hS9
                go_simp
                try with_reducible rfl
              try simp only [Act.put, List.setIfInBounds_toArray, List.set_cons_zero, List.set_cons_succ]
              refine wpAnyH_take (i := 3) (v := ?v4) (by simp only [List.getElem?_toArray, List.getElem?_cons_succ, List.getElem?_cons_zero]; rfl) (by kernel_rfl) (by kernel_rfl) (by kernel_rfl) (by exact fun _ _ _ h => h) (Or.inl ⟨by rfl, fun w9 hS9 => ?hy4⟩) hHeld ?rest4
              case hy4 =>
                dsimp only at hS9
                obtain ⟨s0, s1, s2, s3, s4, s5⟩ := hS9
                go_simp
                try with_reducible rfl
              try simp only [Act.put, List.setIfInBounds_toArray, List.set_cons_zero, List.set_cons_succ]
              refine wpAnyH_take (i := 4) (v := ?v5) (by simp only [List.getElem?_toArray, List.getElem?_cons_succ, List.getElem?_cons_zero]; rfl) (by kernel_rfl) (by kernel_rfl) (by kernel_rfl) (by exact fun _ _ _ h => h) (Or.inl ⟨by rfl, fun w9 hS9 => ?hy5⟩) hHeld ?rest5
              case hy5 =>
                dsimp only at hS9
                obtain ⟨s0, s1, s2, s3, s4, s5⟩ := hS9
                go_simp
                try with_reducible rfl
              try simp only [Act.put, List.setIfInBounds_toArray, List.set_cons_zero, List.set_cons_succ]
              refine wpAnyH_ready (rs := [5]) (by kernel_rfl) (by simp) (AllReadyH.cons (by simp only [List.getElem?_toArray, List.getElem?_cons_succ, List.getElem?_cons_zero]; rfl) (fun K hK => ?_) AllReadyH.nil)
              go_simp
              refine (KV.out _ (HN2.out.same HBd.out)).mono ?_
              rintro e w3 ⟨rfl, hb3⟩
              have HB3 : Hid (Below w2.heap.size w2 w3) := Lib.hid (HBd.out.trans (hb3.mono HBd.out.size))
              clear hb3
              go_wp2_with fail
              refine hK.out _ _ ⟨cell_stay F0.out HB3.out, cell_stay F1.out HB3.out, cell_stay F2.out HB3.out, cell_stay F3.out HB3.out, cell_stay F4.out HB3.out, cell_stay F5.out HB3.out⟩ (fun hHeld => ?_)
              clear hK K
              try simp only [Act.put, List.setIfInBounds_toArray, List.set_cons_zero, List.set_cons_succ]
              refine wpAnyH_take (i := 6) (v := ?v6) (by simp only [List.getElem?_toArray, List.getElem?_cons_succ, List.getElem?_cons_zero]; rfl) (by kernel_rfl) (by kernel_rfl) (by kernel_rfl) (by exact fun _ _ _ h => h) (Or.inl ⟨by rfl, fun w9 hS9 => ?hy6⟩) hHeld ?rest6
              case hy6 =>
                dsimp only at hS9
                obtain ⟨s0, s1, s2, s3, s4, s5⟩ := hS9
                go_simp
                try with_reducible rfl
              try simp only [Act.put, List.setIfInBounds_toArray, List.set_cons_zero, List.set_cons_succ]
              refine wpAnyH_done (by kernel_rfl) ?_ _
              have HBX := Lib.hid (HB2'.out.trans (HB3.out.mono HB2'.out.size))
              go_wp2_with fail
              go_roundw
              case rel => exact ⟨j + 1, by omega, by go_num, HST.out, HBX.out⟩
              case measure => simp [intOf]; omega
            | false =>
              have HE := Lib.hid (fitsFmt_no HX.out HY.out (by rw [fitsAt_there ht]; exact hv))
              have KV := Lib.hid (fun (w0 : World) (h0 : Nums .i64 w0 p q y) => fitsField_any ⟨xk, xm, xt, xi⟩ k p q g y w0 h0)
              rw [hv] at KV
              unfold Fd.val at KV
              clear ht hv
              go_wp2_with fail
              refine KE.out.mono ?_
              rintro e w1 ⟨rfl, hb1⟩
              have HB1' := Lib.hid ((HB.out.trans (HW.out.mono HB.out.size)).trans (hb1.mono (Nat.le_trans HB.out.size HW.out.size)))
              have G0 := Lib.hid (cell_stay E0.out hb1)
              have G1 := Lib.hid (cell_stay E1.out hb1)
              have G2 := Lib.hid (cell_stay E2.out hb1)
              have G3 := Lib.hid (cell_stay E3.out hb1)
              have G4 := Lib.hid (cell_stay E4.out hb1)
              have G5 := Lib.hid (cell_stay E5.out hb1)
              have HN1 := Lib.hid (HN.out.same hb1)
              clear hb1 E0 E1 E2 E3 E4 E5 HN
              go_wp2_with fail
              refine (KT1.out _ HB1'.out).mono ?_
              rintro e w2 ⟨rfl, hb2⟩
              have HB2' := Lib.hid (HB1'.out.trans (hb2.mono HB1'.out.size))
              have F0 := Lib.hid (cell_stay G0.out hb2)
              have F1 := Lib.hid (cell_stay G1.out hb2)
              have F2 := Lib.hid (cell_stay G2.out hb2)
              have F3 := Lib.hid (cell_stay G3.out hb2)
              have F4 := Lib.hid (cell_stay G4.out hb2)
              have F5 := Lib.hid (cell_stay G5.out hb2)
              have HN2 := Lib.hid (HN1.out.same hb2)
              clear hb2 G0 G1 G2 G3 G4 G5 HN1
              go_wp2_with fail
              have HBd : Hid (Below w2.heap.size w2 w2.drew) := Lib.hid (Below.refl _ _).drew
              refine wp_region_held_drew (S := (fun w' => w'.cell? ⟨wr.heap.size, 0, none⟩ = some (.int .i64 k) ∧ w'.cell? ⟨wr.heap.size, 1, none⟩ = some (.slice p q g) ∧ w'.cell? ⟨bl, ol + j * 4, none⟩ = some (.int .i64 xk) ∧ w'.cell? ⟨bl, ol + j * 4 + 1, none⟩ = some (.int .i64 xm) ∧ w'.cell? ⟨bl, ol + j * 4 + 2, none⟩ = some (.int .i64 xt) ∧ w'.cell? ⟨bl, ol + j * 4 + 3, none⟩ = some (.int .i64 xi))) (by kernel_rfl) ⟨cell_stay F0.out HBd.out, cell_stay F1.out HBd.out, cell_stay F2.out HBd.out, cell_stay F3.out HBd.out, cell_stay F4.out HBd.out, cell_stay F5.out HBd.out⟩ (fun hHeld => ?_)
              refine wpAnyH_take (i := 0) (v := ?v7) (by simp only [List.getElem?_toArray, List.getElem?_cons_succ, List.getElem?_cons_zero]; rfl) (by kernel_rfl) (by kernel_rfl) (by kernel_rfl) (by exact fun _ _ _ h => h) (Or.inl ⟨by rfl, fun w9 hS9 => ?hy7⟩) hHeld ?rest7
              case hy7 =>
                dsimp only at hS9
                obtain ⟨s0, s1, s2, s3, s4, s5⟩ := hS9
                go_simp
                try with_reducible rfl
              try simp only [Act.put, List.setIfInBounds_toArray, List.set_cons_zero, List.set_cons_succ]
              refine wpAnyH_take (i := 1) (v := ?v8) (by simp only [List.getElem?_toArray, List.getElem?_cons_succ, List.getElem?_cons_zero]; rfl) (by kernel_rfl) (by kernel_rfl) (by kernel_rfl) (by exact fun _ _ _ h => h) (Or.inl ⟨by rfl, fun w9 hS9 => ?hy8⟩) hHeld ?rest8
              case hy8 =>
                dsimp only at hS9
                obtain ⟨s0, s1, s2, s3, s4, s5⟩ := hS9
                go_simp
                try with_reducible rfl
              try simp only [Act.put, List.setIfInBounds_toArray, List.set_cons_zero, List.set_cons_succ]
              refine wpAnyH_take (i := 2) (v := ?v9) (by simp only [List.getElem?_toArray, List.getElem?_cons_succ, List.getElem?_cons_zero]; rfl) (by kernel_rfl) (by kernel_rfl) (by kernel_rfl) (by exact fun _ _ _ h => h) (Or.inl ⟨by rfl, fun w9 hS9 => ?hy9⟩) hHeld ?rest9
              case hy9 =>
                dsimp only at hS9
                obtain ⟨s0, s1, s2, s3, s4, s5⟩ := hS9
                go_simp
                try with_reducible rfl
              try simp only [Act.put, List.setIfInBounds_toArray, List.set_cons_zero, List.set_cons_succ]
              refine wpAnyH_take (i := 3) (v := ?v10) (by simp only [List.getElem?_toArray, List.getElem?_cons_succ, List.getElem?_cons_zero]; rfl) (by kernel_rfl) (by kernel_rfl) (by kernel_rfl) (by exact fun _ _ _ h => h) (Or.inl ⟨by rfl, fun w9 hS9 => ?hy10⟩) hHeld ?rest10
              case hy10 =>
                dsimp only at hS9
                obtain ⟨s0, s1, s2, s3, s4, s5⟩ := hS9
                go_simp
                try with_reducible rfl
              try simp only [Act.put, List.setIfInBounds_toArray, List.set_cons_zero, List.set_cons_succ]
              refine wpAnyH_take (i := 4) (v := ?v11) (by simp only [List.getElem?_toArray, List.getElem?_cons_succ, List.getElem?_cons_zero]; rfl) (by kernel_rfl) (by kernel_rfl) (by kernel_rfl) (by exact fun _ _ _ h => h) (Or.inl ⟨by rfl, fun w9 hS9 => ?hy11⟩) hHeld ?rest11
              case hy11 =>
                dsimp only at hS9
                obtain ⟨s0, s1, s2, s3, s4, s5⟩ := hS9
                go_simp
                try with_reducible rfl
              try simp only [Act.put, List.setIfInBounds_toArray, List.set_cons_zero, List.set_cons_succ]
              refine wpAnyH_ready (rs := [5]) (by kernel_rfl) (by simp) (AllReadyH.cons (by simp only [List.getElem?_toArray, List.getElem?_cons_succ, List.getElem?_cons_zero]; rfl) (fun K hK => ?_) AllReadyH.nil)
              go_simp
              refine (KV.out _ (HN2.out.same HBd.out)).mono ?_
              rintro e w3 ⟨rfl, hb3⟩
              have HB3 : Hid (Below w2.heap.size w2 w3) := Lib.hid (HBd.out.trans (hb3.mono HBd.out.size))
              clear hb3
              go_wp2_with fail
              refine hK.out _ _ ⟨cell_stay F0.out HB3.out, cell_stay F1.out HB3.out, cell_stay F2.out HB3.out, cell_stay F3.out HB3.out, cell_stay F4.out HB3.out, cell_stay F5.out HB3.out⟩ (fun hHeld => ?_)
              clear hK K
              try simp only [Act.put, List.setIfInBounds_toArray, List.set_cons_zero, List.set_cons_succ]
              refine wpAnyH_take (i := 6) (v := ?v12) (by simp only [List.getElem?_toArray, List.getElem?_cons_succ, List.getElem?_cons_zero]; rfl) (by kernel_rfl) (by kernel_rfl) (by kernel_rfl) (by exact fun _ _ _ h => h) (Or.inl ⟨by rfl, fun w9 hS9 => ?hy12⟩) hHeld ?rest12
              case hy12 =>
                dsimp only at hS9
                obtain ⟨s0, s1, s2, s3, s4, s5⟩ := hS9
                go_simp
                try with_reducible rfl
              try simp only [Act.put, List.setIfInBounds_toArray, List.set_cons_zero, List.set_cons_succ]
              refine wpAnyH_done (by kernel_rfl) ?_ _
              have HBX := Lib.hid (HB2'.out.trans (HB3.out.mono HB2'.out.size))
              go_wp2_with fail
              go_ret
              exact ⟨by rw [HE.out]; rfl, HBX.out⟩
          | false =>
            have KT1 := Lib.hid (fun w0 hb => KT.out j w0 hb)
            rw [ht] at KT1
            cases hv : emptyV k y with
            | true =>
              have HST := Lib.hid (fitsTo_step HFT.out HX.out HY.out (by rw [fitsAt_not ht]; exact hv))
              rw [hv] at KE
              clear ht hv
              go_wp2_with fail
              refine KE.out.mono ?_
              rintro e w1 ⟨rfl, hb1⟩
              have HB1' := Lib.hid ((HB.out.trans (HW.out.mono HB.out.size)).trans (hb1.mono (Nat.le_trans HB.out.size HW.out.size)))
              have G0 := Lib.hid (cell_stay E0.out hb1)
              have G1 := Lib.hid (cell_stay E1.out hb1)
              have G2 := Lib.hid (cell_stay E2.out hb1)
              have G3 := Lib.hid (cell_stay E3.out hb1)
              have G4 := Lib.hid (cell_stay E4.out hb1)
              have G5 := Lib.hid (cell_stay E5.out hb1)
              have HN1 := Lib.hid (HN.out.same hb1)
              clear hb1 E0 E1 E2 E3 E4 E5 HN
              go_wp2_with fail
              refine (KT1.out _ HB1'.out).mono ?_
              rintro e w2 ⟨rfl, hb2⟩
              have HB2' := Lib.hid (HB1'.out.trans (hb2.mono HB1'.out.size))
              have F0 := Lib.hid (cell_stay G0.out hb2)
              have F1 := Lib.hid (cell_stay G1.out hb2)
              have F2 := Lib.hid (cell_stay G2.out hb2)
              have F3 := Lib.hid (cell_stay G3.out hb2)
              have F4 := Lib.hid (cell_stay G4.out hb2)
              have F5 := Lib.hid (cell_stay G5.out hb2)
              have HN2 := Lib.hid (HN1.out.same hb2)
              clear hb2 G0 G1 G2 G3 G4 G5 HN1
              go_wp2_with fail
              go_roundw
              case rel => exact ⟨j + 1, by omega, by go_num, HST.out, HB2'.out⟩
              case measure => simp [intOf]; omega
            | false =>
              have HE := Lib.hid (fitsFmt_no HX.out HY.out (by rw [fitsAt_not ht]; exact hv))
              rw [hv] at KE
              clear ht hv
              go_wp2_with fail
              refine KE.out.mono ?_
              rintro e w1 ⟨rfl, hb1⟩
              have HB1' := Lib.hid ((HB.out.trans (HW.out.mono HB.out.size)).trans (hb1.mono (Nat.le_trans HB.out.size HW.out.size)))
              have G0 := Lib.hid (cell_stay E0.out hb1)
              have G1 := Lib.hid (cell_stay E1.out hb1)
              have G2 := Lib.hid (cell_stay E2.out hb1)
              have G3 := Lib.hid (cell_stay E3.out hb1)
              have G4 := Lib.hid (cell_stay E4.out hb1)
              have G5 := Lib.hid (cell_stay E5.out hb1)
              have HN1 := Lib.hid (HN.out.same hb1)
              clear hb1 E0 E1 E2 E3 E4 E5 HN
              go_wp2_with fail
              refine (KT1.out _ HB1'.out).mono ?_
              rintro e w2 ⟨rfl, hb2⟩
              have HB2' := Lib.hid (HB1'.out.trans (hb2.mono HB1'.out.size))
              have F0 := Lib.hid (cell_stay G0.out hb2)
              have F1 := Lib.hid (cell_stay G1.out hb2)
              have F2 := Lib.hid (cell_stay G2.out hb2)
              have F3 := Lib.hid (cell_stay G3.out hb2)
              have F4 := Lib.hid (cell_stay G4.out hb2)
              have F5 := Lib.hid (cell_stay G5.out hb2)
              have HN2 := Lib.hid (HN1.out.same hb2)
              clear hb2 G0 G1 G2 G3 G4 G5 HN1
              go_wp2_with fail
              go_ret
              exact ⟨by rw [HE.out]; rfl, HB2'.out⟩
        · obtain rfl : j = m := by omega
          have HE := Lib.hid (HF.out (by rw [hl.out]; exact HFT.out))
          go_wp2_with fail
          go_ret
          exact ⟨by rw [HE.out]; rfl, HB.out⟩
    · have HE := Lib.hid (fitsFmt_len (l := l) (v := v) (by rw [hl.out, hvl.out]; exact hnm))
      have hq : ((m : Int) != (n : Int)) = true := by simp; omega
      clear hf hnm
      go_enter Try.func62, Try.ntmps62
      go_wp2_with fail
      refine KF.out.mono ?_
      rintro e w1 ⟨rfl, hb1⟩
      have HB1 := Lib.hid hb1
      clear hb1
      go_wp2_with fail
      go_ret
      exact ⟨by rw [HE.out]; rfl, HB1.out⟩
end Go.Proofs.Ytjkjnhkamieljaa
namespace Go.Proofs.Ytjkjnhkamieljaa
open Go.ChangeShapes Go.WideShapes Go.ChangeAt Go.RowKit
set_option linter.unusedVariables false

/-- The bytes of the value of a field that is there. -/
def codeV (x : Fd) (y : Vl) : List Int := if x.kind = 1 then [y.num] else (y.items.length : Int) :: y.items
/-- The bytes of field j. -/
def codeAt (l : List Fd) (v : List Vl) (j : Nat) : List Int :=
  match l[j]?, v[j]? with
  | some x, some y => if isThere l v j = true then codeV x y else []
  | _, _ => []
/-- The bytes of the first j fields. -/
def codeTo (l : List Fd) (v : List Vl) : Nat → List Int
  | 0 => []
  | j + 1 => codeTo l v j ++ codeAt l v j
theorem codeAt_yes {l : List Fd} {v : List Vl} {j : Nat} {x : Fd} {y : Vl} (hx : l[j]? = some x) (hy : v[j]? = some y) (h : isThere l v j = true) : codeAt l v j = codeV x y := by unfold codeAt; rw [hx, hy]; exact if_pos h
theorem codeAt_no {l : List Fd} {v : List Vl} {j : Nat} (h : isThere l v j = false) : codeAt l v j = [] := by
  unfold codeAt
  split
  · rw [h]; rfl
  · rfl
theorem codeTo_yes {l : List Fd} {v : List Vl} {j : Nat} {x : Fd} {y : Vl} (hx : l[j]? = some x) (hy : v[j]? = some y) (h : isThere l v j = true) : codeTo l v (j + 1) = codeTo l v j ++ codeV x y := by rw [codeTo, codeAt_yes hx hy h]
theorem codeTo_no {l : List Fd} {v : List Vl} {j : Nat} (h : isThere l v j = false) : codeTo l v (j + 1) = codeTo l v j := by rw [codeTo, codeAt_no h, List.append_nil]

/-- A field's value read from b at place k, and the place behind it. -/
def rdF (x : Fd) (b : List Int) (k : Nat) : Option (Vl × Nat) :=
  match b[k]? with
  | none => none
  | some z =>
    if x.kind = 1 then (if fitsField x z [] = true then some (⟨z, []⟩, k + 1) else none)
    else if 0 ≤ z ∧ z ≤ (b.length : Int) - k - 1 then (if fitsField x 0 ((b.drop (k + 1)).take z.toNat) = true then some (⟨0, (b.drop (k + 1)).take z.toNat⟩, k + 1 + z.toNat) else none)
    else none
/-- One field more: read, or not there. -/
def rdStep (l : List Fd) (b : List Int) (j : Nat) (s : List Vl × Nat) : Option (List Vl × Nat) :=
  match l[j]? with
  | none => none
  | some x => if isThere l s.1 j = true then (rdF x b s.2).map fun p => (s.1 ++ [p.1], p.2) else some (s.1 ++ [⟨0, []⟩], s.2)
/-- The first j fields are read. -/
def rdTo (l : List Fd) (b : List Int) : Nat → Option (List Vl × Nat)
  | 0 => some ([], 0)
  | j + 1 => (rdTo l b j).bind (rdStep l b j)
/-- The message that b begins with, and how many bytes it has. -/
noncomputable def rdP (l : List Fd) (b : List Int) : Option (List Vl × Nat) := if isFmt l = true then rdTo l b l.length else none

theorem rdStep_not {l : List Fd} {b : List Int} {j : Nat} {x : Fd} {v : List Vl} {k : Nat} (hx : l[j]? = some x) (h : isThere l v j = false) : rdStep l b j (v, k) = some (v ++ [⟨0, []⟩], k) := by unfold rdStep; rw [hx]; dsimp only; rw [h]; rfl
theorem rdStep_there {l : List Fd} {b : List Int} {j : Nat} {x : Fd} {v : List Vl} {k : Nat} (hx : l[j]? = some x) (h : isThere l v j = true) : rdStep l b j (v, k) = (rdF x b k).map fun p => (v ++ [p.1], p.2) := by unfold rdStep; rw [hx]; dsimp only; rw [h]; rfl
theorem rdTo_step {l : List Fd} {b : List Int} {j : Nat} {s : List Vl × Nat} (h : rdTo l b j = some s) : rdTo l b (j + 1) = rdStep l b j s := by rw [rdTo, h]; rfl
theorem rdTo_stop {l : List Fd} {b : List Int} {j : Nat} (h : rdTo l b j = none) : ∀ q, j ≤ q → rdTo l b q = none := by
  intro q hq
  induction q with
  | zero => obtain rfl : j = 0 := by omega
            exact h
  | succ q ih =>
    rcases Nat.eq_or_lt_of_le hq with e | e
    · rw [← e]; exact h
    · rw [rdTo, ih (by omega)]; rfl
theorem rdP_stop {l : List Fd} {b : List Int} {j : Nat} (h : rdTo l b j = none) (hj : j ≤ l.length) : rdP l b = none := by
  unfold rdP
  rw [rdTo_stop h _ hj]
  split <;> rfl
theorem rdP_not {l : List Fd} {b : List Int} (h : isFmt l = false) : rdP l b = none := by unfold rdP; rw [h]; rfl
theorem rdP_all {l : List Fd} {b : List Int} {s : List Vl × Nat} (hf : isFmt l = true) (h : rdTo l b l.length = some s) : rdP l b = some s := by unfold rdP; rw [hf, h]; rfl

/-- Whether a field is there depends on what comes before it alone. -/
theorem isThere_part {l : List Fd} {v v' : List Vl} {j : Nat} {x : Fd} (hx : l[j]? = some x) (hok : condOk (l.take j) x = true) (hv : ∀ q, q < j → v[q]? = v'[q]?) : isThere l v j = isThere l v' j := by
  by_cases h1 : x.cond = -1
  · rw [isThere_always hx h1, isThere_always hx h1]
  · unfold condOk at hok
    rw [if_neg h1, Bool.and_eq_true, decide_eq_true_eq] at hok
    have hlen := lt_of_some hx
    have h2 := hok.1
    rw [List.length_take] at h2
    obtain ⟨q, hq⟩ : ∃ q : Nat, x.cond = q := ⟨x.cond.toNat, by omega⟩
    have hqj : q < j := by omega
    have e := hv q hqj
    cases hy : v[q]? with
    | none =>
      rw [hy] at e
      have n1 := List.getElem?_eq_none_iff.1 hy
      have n2 := List.getElem?_eq_none_iff.1 e.symm
      rw [isThere_far hx h1 (by omega), isThere_far hx h1 (by omega)]
    | some y =>
      rw [hy] at e
      rw [isThere_when hx hq hy, isThere_when hx hq e.symm]
theorem okTo_cond {l : List Fd} {n j : Nat} {x : Fd} (h : okTo l n) (hj : j < n) (hx : l[j]? = some x) : condOk (l.take j) x = true := by
  have := h j x hj hx
  unfold fieldOk at this
  rw [Bool.and_eq_true] at this
  exact this.2
theorem codeAt_part {l : List Fd} {v v' : List Vl} {n j : Nat} (hok : okTo l n) (hj : j < n) (hv : ∀ q, q ≤ j → v[q]? = v'[q]?) : codeAt l v j = codeAt l v' j := by
  unfold codeAt
  rw [hv j (Nat.le_refl _)]
  cases hx : l[j]? with
  | none => rfl
  | some x => rw [isThere_part hx (okTo_cond hok hj hx) fun q hq => hv q (by omega)]
theorem codeTo_part {l : List Fd} {v v' : List Vl} {n : Nat} (hok : okTo l n) : ∀ j, j ≤ n → (∀ q, q < j → v[q]? = v'[q]?) → codeTo l v j = codeTo l v' j
  | 0, _, _ => rfl
  | j + 1, hj, hv => by rw [codeTo, codeTo, codeTo_part hok j (by omega) (fun q hq => hv q (by omega)), codeAt_part hok (by omega) fun q hq => hv q (by omega)]
theorem fitsTo_part {l : List Fd} {v v' : List Vl} {n j : Nat} (hok : okTo l n) (hj : j ≤ n) (hv : ∀ q, q < j → v[q]? = v'[q]?) (h : fitsTo l v j) : fitsTo l v' j := by
  intro i x y hi hx hy
  rw [← isThere_part hx (okTo_cond hok (by omega) hx) fun q hq => hv q (by omega)]
  exact h i x y hi hx (by rw [hv i hi]; exact hy)

/-- What is written of a value is read. -/
theorem rdF_code {x : Fd} {y : Vl} (h : fitsField x y.num y.items = true) (p r : List Int) : rdF x (p ++ codeV x y ++ r) p.length = some (y, (p ++ codeV x y).length) := by
  obtain ⟨k, it⟩ := y
  dsimp only at h
  unfold codeV
  by_cases h1 : x.kind = 1
  · rw [if_pos h1]
    have e : (p ++ [k] ++ r)[p.length]? = some k := by simp
    have h0 : it = [] := by
      unfold fitsField at h
      rw [if_pos h1, Bool.and_eq_true, decide_eq_true_eq, decide_eq_true_eq] at h
      exact List.eq_nil_of_length_eq_zero h.2
    subst h0
    unfold rdF
    dsimp only
    rw [e]
    dsimp only
    rw [if_pos h1, if_pos h]
    simp
  · rw [if_neg h1]
    have e : (p ++ (it.length : Int) :: it ++ r)[p.length]? = some (it.length : Int) := by simp
    have e2 : ((p ++ (it.length : Int) :: it ++ r).drop (p.length + 1)).take it.length = it := by
      rw [show p ++ (it.length : Int) :: it ++ r = (p ++ [(it.length : Int)]) ++ (it ++ r) by simp, List.drop_left' (by simp), List.take_left' rfl]
    have h0 : k = 0 := by
      unfold fitsField at h
      rw [if_neg h1] at h
      split at h
      · rw [Bool.and_eq_true, decide_eq_true_eq] at h; exact h.1
      · split at h
        · rw [Bool.and_eq_true, decide_eq_true_eq] at h; exact h.1
        · cases h
    subst h0
    unfold rdF
    dsimp only
    rw [e]
    dsimp only
    rw [if_neg h1, if_pos ⟨by omega, by simp only [List.length_append, List.length_cons]; omega⟩, Int.toNat_natCast, e2, if_pos h]
    simp only [List.length_append, List.length_cons, Option.some.injEq, Prod.mk.injEq, true_and]
    omega
/-- What is read was written. -/
theorem rdF_form {x : Fd} {b : List Int} {k k' : Nat} {y : Vl} (h : rdF x b k = some (y, k')) : k ≤ k' ∧ k' ≤ b.length ∧ b.take k' = b.take k ++ codeV x y ∧ fitsField x y.num y.items = true := by
  unfold rdF at h
  cases hz : b[k]? with
  | none => rw [hz] at h; cases h
  | some z =>
    have hk := lt_of_some hz
    rw [hz] at h
    dsimp only at h
    unfold codeV
    by_cases h1 : x.kind = 1
    · rw [if_pos h1] at h ⊢
      split at h
      · cases h
        exact ⟨by omega, by omega, by rw [List.take_add_one, hz]; rfl, by assumption⟩
      · cases h
    · rw [if_neg h1] at h ⊢
      split at h
      · rename_i h2
        split at h
        · cases h
          have hl : ((b.drop (k + 1)).take z.toNat).length = z.toNat := by rw [List.length_take, List.length_drop]; omega
          refine ⟨by omega, by omega, ?_, by assumption⟩
          dsimp only
          rw [hl, show ((z.toNat : Nat) : Int) = z by omega, List.take_add, List.take_add_one, hz]
          simp
        · cases h
      · cases h
theorem rdTo_code {l : List Fd} {v : List Vl} (hok : okTo l l.length) (hl : v.length = l.length) (hf : fitsTo l v l.length) (b r : List Int) (hb : b = codeTo l v l.length ++ r) : ∀ j, j ≤ l.length → rdTo l b j = some (v.take j, (codeTo l v j).length)
  | 0, _ => by simp [rdTo, codeTo]
  | j + 1, hj => by
    obtain ⟨x, hx⟩ : ∃ x, l[j]? = some x := ⟨_, List.getElem?_eq_getElem (by omega)⟩
    obtain ⟨y, hy⟩ : ∃ y, v[j]? = some y := ⟨_, List.getElem?_eq_getElem (by omega)⟩
    have ht : isThere l (v.take j) j = isThere l v j := isThere_part hx (okTo_cond hok (by omega) hx) fun q hq => by rw [List.getElem?_take]; simp [hq]
    have hfit := hf j x y (by omega) hx hy
    rw [rdTo_step (rdTo_code hok hl hf b r hb j (by omega)), List.take_add_one, hy]
    cases hd : isThere l v j with
    | false =>
      rw [hd] at ht
      rw [rdStep_not hx ht, codeTo_no hd]
      have : y = ⟨0, []⟩ := by
        rw [fitsAt_not hd] at hfit
        unfold emptyV at hfit
        rw [Bool.and_eq_true, decide_eq_true_eq, decide_eq_true_eq] at hfit
        obtain ⟨k, it⟩ := y
        dsimp only at hfit
        rw [hfit.1, hfit.2]
      rw [this]
      rfl
    | true =>
      rw [hd] at ht
      rw [fitsAt_there hd] at hfit
      have hp : ∃ r', b = codeTo l v j ++ codeV x y ++ r' := by
        have hsp : ∀ q, j + 1 + q ≤ l.length → ∃ r', codeTo l v (j + 1 + q) = codeTo l v (j + 1) ++ r' := by
          intro q
          induction q with
          | zero => intro _; exact ⟨[], by simp⟩
          | succ q ih =>
            intro h
            obtain ⟨r', e⟩ := ih (by omega)
            exact ⟨r' ++ codeAt l v (j + 1 + q), by rw [← Nat.add_assoc, codeTo, e, List.append_assoc]⟩
        obtain ⟨r', e⟩ := hsp (l.length - (j + 1)) (by omega)
        rw [show j + 1 + (l.length - (j + 1)) = l.length by omega, codeTo_yes hx hy hd] at e
        exact ⟨r' ++ r, by rw [hb, e, List.append_assoc]⟩
      obtain ⟨r', e⟩ := hp
      rw [rdStep_there hx ht, e, rdF_code hfit, codeTo_yes hx hy hd]
      rfl
theorem rdTo_form {l : List Fd} {b : List Int} (hok : okTo l l.length) : ∀ j v k, j ≤ l.length → rdTo l b j = some (v, k) → v.length = j ∧ k ≤ b.length ∧ b.take k = codeTo l v j ∧ fitsTo l v j
  | 0, v, k, _, h => by
    cases h
    exact ⟨rfl, by omega, rfl, fitsTo_zero _ _⟩
  | j + 1, v, k, hj, h => by
    obtain ⟨x, hx⟩ : ∃ x, l[j]? = some x := ⟨_, List.getElem?_eq_getElem (by omega)⟩
    cases hs : rdTo l b j with
    | none => rw [rdTo, hs] at h; cases h
    | some s =>
      obtain ⟨v0, k0⟩ := s
      obtain ⟨h1, h2, h3, h4⟩ := rdTo_form hok j v0 k0 (by omega) hs
      rw [rdTo_step hs] at h
      have hag : ∀ (z : Vl) q, q < j → v0[q]? = (v0 ++ [z])[q]? := fun z q hq => by rw [List.getElem?_append_left (by omega)]
      have hlast : ∀ z : Vl, (v0 ++ [z])[j]? = some z := fun z => by rw [List.getElem?_append_right (by omega), h1, Nat.sub_self]; rfl
      have ht : ∀ z : Vl, isThere l (v0 ++ [z]) j = isThere l v0 j := fun z => (isThere_part hx (okTo_cond hok (by omega) hx) (hag z)).symm
      have hc : ∀ z : Vl, codeTo l (v0 ++ [z]) j = codeTo l v0 j := fun z => (codeTo_part hok j (by omega) (hag z)).symm
      have hf : ∀ z : Vl, fitsTo l (v0 ++ [z]) j := fun z => fitsTo_part hok (by omega) (hag z) h4
      cases hd : isThere l v0 j with
      | false =>
        rw [rdStep_not hx hd] at h
        cases h
        refine ⟨by rw [List.length_append, h1]; rfl, h2, by rw [codeTo_no (by rw [ht]; exact hd), hc]; exact h3, fitsTo_step (hf _) hx (hlast _) ?_⟩
        rw [fitsAt_not (by rw [ht]; exact hd)]
        rfl
      | true =>
        rw [rdStep_there hx hd] at h
        cases hr : rdF x b k0 with
        | none => rw [hr] at h; cases h
        | some p =>
          obtain ⟨y, k1⟩ := p
          rw [hr] at h
          cases h
          obtain ⟨q1, q2, q3, q4⟩ := rdF_form hr
          refine ⟨by rw [List.length_append, h1]; rfl, q2, by rw [codeTo_yes hx (hlast _) (by rw [ht]; exact hd), hc, q3, h3], fitsTo_step (hf _) hx (hlast _) ?_⟩
          rw [fitsAt_there (by rw [ht]; exact hd)]
          exact q4
theorem fitsFmt_parts {l : List Fd} {v : List Vl} (h : fitsFmt l v = true) : isFmt l = true ∧ v.length = l.length ∧ fitsTo l v l.length := by
  unfold fitsFmt at h
  rw [Bool.and_eq_true, Bool.and_eq_true, decide_eq_true_eq] at h
  exact ⟨h.1, h.2.1, @of_decide_eq_true _ (Classical.propDecidable _) h.2.2⟩
/-- The bytes of a message. -/
def codeOf (l : List Fd) (v : List Vl) : List Int := codeTo l v l.length
/-- A message is read as it was written, whatever follows. -/
theorem rdP_code {l : List Fd} {v : List Vl} (h : fitsFmt l v = true) (r : List Int) : rdP l (codeOf l v ++ r) = some (v, (codeOf l v).length) := by
  obtain ⟨h1, h2, h3⟩ := fitsFmt_parts h
  have := rdTo_code (isFmt_iff.1 h1).2 h2 h3 _ r rfl l.length (Nat.le_refl _)
  rw [List.take_of_length_le (by omega)] at this
  exact rdP_all h1 this
/-- What is read as a message was written. -/
theorem rdP_form {l : List Fd} {b : List Int} {v : List Vl} {k : Nat} (h : rdP l b = some (v, k)) : fitsFmt l v = true ∧ k ≤ b.length ∧ b.take k = codeOf l v := by
  cases hf : isFmt l with
  | false => rw [rdP_not hf] at h; cases h
  | true =>
    unfold rdP at h
    rw [if_pos hf] at h
    obtain ⟨h1, h2, h3, h4⟩ := rdTo_form (isFmt_iff.1 hf).2 l.length v k (Nat.le_refl _) h
    exact ⟨fitsFmt_yes hf h1 h4, h2, h3⟩
/-- The greatest number of bytes of a field. -/
def roomF (x : Fd) : Int := if x.kind = 1 then 1 else 1 + x.max
theorem roomF_num {x : Fd} (h : x.kind = 1) : roomF x = 1 := if_pos h
theorem roomF_more {x : Fd} (h : x.kind ≠ 1) : roomF x = 1 + x.max := if_neg h
/-- The greatest number of bytes of the first j fields. -/
def longTo (l : List Fd) : Nat → Int
  | 0 => 0
  | j + 1 => longTo l j + (l[j]?.elim 0 roomF)
theorem longTo_step {l : List Fd} {j : Nat} {x : Fd} (hx : l[j]? = some x) : longTo l (j + 1) = longTo l j + roomF x := by rw [longTo, hx]; rfl
noncomputable def longOf (l : List Fd) : Int := if isFmt l = true then longTo l l.length else 0
theorem codeV_len {x : Fd} {y : Vl} (h : fitsField x y.num y.items = true) : ((codeV x y).length : Int) ≤ roomF x := by
  unfold codeV
  by_cases h1 : x.kind = 1
  · rw [if_pos h1, roomF_num h1]
    simp
  · rw [if_neg h1, roomF_more h1]
    have : (y.items.length : Int) ≤ x.max := by
      unfold fitsField fitIts at h
      rw [if_neg h1] at h
      split at h
      · rw [Bool.and_eq_true, Bool.and_eq_true, decide_eq_true_eq, decide_eq_true_eq] at h; exact h.2.1
      · split at h
        · rw [Bool.and_eq_true, Bool.and_eq_true, decide_eq_true_eq, decide_eq_true_eq] at h; exact h.2.1
        · cases h
    simp only [List.length_cons]
    omega
theorem roomF_pos {x : Fd} (h : 1 ≤ x.max) : 0 ≤ roomF x := by
  by_cases h1 : x.kind = 1
  · rw [roomF_num h1]; omega
  · rw [roomF_more h1]; omega
theorem codeTo_long {l : List Fd} {v : List Vl} (hok : okTo l l.length) (hl : v.length = l.length) (hf : fitsTo l v l.length) : ∀ j, j ≤ l.length → ((codeTo l v j).length : Int) ≤ longTo l j
  | 0, _ => by simp [codeTo, longTo]
  | j + 1, hj => by
    obtain ⟨x, hx⟩ : ∃ x, l[j]? = some x := ⟨_, List.getElem?_eq_getElem (by omega)⟩
    obtain ⟨y, hy⟩ : ∃ y, v[j]? = some y := ⟨_, List.getElem?_eq_getElem (by omega)⟩
    have ih := codeTo_long hok hl hf j (by omega)
    have hmax : 1 ≤ x.max := by
      have := hok j x (by omega) hx
      unfold fieldOk at this
      rw [Bool.and_eq_true, decide_eq_true_eq] at this
      exact this.1.1
    have hfit := hf j x y (by omega) hx hy
    have hpos := roomF_pos hmax
    rw [longTo_step hx]
    cases hd : isThere l v j with
    | false =>
      rw [codeTo_no hd]
      omega
    | true =>
      rw [fitsAt_there hd] at hfit
      have := codeV_len hfit
      rw [codeTo_yes hx hy hd, List.length_append]
      omega
theorem codeOf_long {l : List Fd} {v : List Vl} (h : fitsFmt l v = true) : ((codeOf l v).length : Int) ≤ longOf l := by
  obtain ⟨h1, h2, h3⟩ := fitsFmt_parts h
  unfold longOf
  rw [if_pos h1]
  exact codeTo_long (isFmt_iff.1 h1).2 h2 h3 l.length (Nat.le_refl _)
end Go.Proofs.Ytjkjnhkamieljaa
namespace Go.Proofs.Ytjkjnhkamieljaa
open Go.ChangeShapes Go.WideShapes Go.ChangeAt Go.RowKit
set_option linter.unusedVariables false

theorem l1R_t {n l h : Int} {x : Bool} (e : decide (l ≤ n ∧ n ≤ h) = x) (w : World) :
    Calls Try.prog 50 #[.int .i64 n, .int .i64 l, .int .i64 h] w fun e w' => e = .returned (.bool x) ∧ w' = w := (l1R_any n l h w).mono fun e' w' ⟨h1, h2⟩ => ⟨by rw [h1, e], h2.symm⟩
set_option maxHeartbeats 2000000 in
set_option maxRecDepth 100000 in
theorem specIsThere_any (a : Option Addr) (n c : Nat) (l : List Fd) (b : Option Addr) (m d : Nat) (v : List Vl) (i : Int) (w : World) (h : Fds w a n l) (hv : Vals w b m v) (hn : n ≤ 1000000000) (hm : m ≤ 1000000000) :
    Calls Try.prog 70 #[.slice a n c, .slice b m d, .int .i64 i] w (Told (.bool (isThere l v i)) w) := by
  have H := Lib.hid h
  have HV := Lib.hid hv
  have hl := h.len
  have hvl := hv.len
  clear h hv
  by_cases h1 : 0 ≤ i ∧ i ≤ (n : Int) - 1
  · obtain ⟨k, rfl⟩ : ∃ k : Nat, i = k := ⟨i.toNat, by omega⟩
    have hkn : k < n := by omega
    have e1 : decide ((0 : Int) ≤ (k : Int) ∧ (k : Int) ≤ (n : Int) - 1) = true := decide_eq_true h1
    clear h1
    obtain ⟨bb, o, ⟨xk, xm, xt, xi⟩, rfl, hx, hc0, hc1, hc2, hc3⟩ := fds_at H.out hkn
    dsimp only at hc0 hc1 hc2 hc3
    by_cases h2 : xt = -1
    · have e2 : (xt == -1) = true := by simpa using h2
      rw [isThere_always hx h2]
      clear hx h2
      go_enter Try.func70, Try.ntmps70
      go_wp2_with (go_at_call 50; refine (l1R_any _ _ _ _).mono ?_; rw [e1]; rintro e w' ⟨rfl, rfl⟩)
      go_quiet (fail)
      go_wp2_with fail
      go_ret
      exact ⟨rfl, drewN_same _ _⟩
    · have e2 : (xt == -1) = false := by simpa using h2
      by_cases h3 : 0 ≤ xt ∧ xt ≤ (m : Int) - 1
      · have e3 : decide ((0 : Int) ≤ xt ∧ xt ≤ (m : Int) - 1) = true := decide_eq_true h3
        obtain ⟨q, rfl⟩ : ∃ q : Nat, xt = q := ⟨xt.toNat, by omega⟩
        have hqm : q < m := by omega
        clear h2 h3
        obtain ⟨b2, o2, p2, m2, d2, yk, yl, rfl, hy, hd0, hd1, hN, hr⟩ := HV.out.at_ hqm
        rw [isThere_when hx rfl hy]
        clear hx hy hN
        go_enter Try.func70, Try.ntmps70
        go_wp2_with (go_at_call 50; refine (l1R_any _ _ _ _).mono ?_; (first | rw [e1] | rw [e3]); rintro e w' ⟨rfl, rfl⟩)
        go_quiet ((go_at_call 50; exact Calls.quiet_of_same (l1R_t e3 _)))
        go_wp2_with fail
        go_ret
        exact ⟨rfl, drewN_same _ _⟩
      · have e3 : decide ((0 : Int) ≤ xt ∧ xt ≤ (m : Int) - 1) = false := decide_eq_false h3
        rw [isThere_far hx h2 (by rw [hvl]; exact h3)]
        clear hx h2 h3
        go_enter Try.func70, Try.ntmps70
        go_wp2_with (go_at_call 50; refine (l1R_any _ _ _ _).mono ?_; (first | rw [e1] | rw [e3]); rintro e w' ⟨rfl, rfl⟩)
        go_quiet ((go_at_call 50; exact Calls.quiet_of_same (l1R_t e3 _)))
        go_wp2_with fail
        go_ret
        exact ⟨rfl, drewN_same _ _⟩
  · have e1 : decide ((0 : Int) ≤ i ∧ i ≤ (n : Int) - 1) = false := decide_eq_false h1
    rw [isThere_out (by rw [hl]; exact h1)]
    clear h1
    go_enter Try.func70, Try.ntmps70
    go_wp2_with (go_at_call 50; refine (l1R_any _ _ _ _).mono ?_; rw [e1]; rintro e w' ⟨rfl, rfl⟩)
    go_ret
    exact ⟨rfl, Below.refl _ _⟩
end Go.Proofs.Ytjkjnhkamieljaa
namespace Go.Proofs.Ytjkjnhkamieljaa
open Go.ChangeShapes Go.WideShapes Go.ChangeAt Go.RowKit
set_option linter.unusedVariables false

theorem fits_items {x : Fd} {k : Int} {y : List Int} {g : Int} (h : (x.kind = 2 ∧ g = 255) ∨ (x.kind = 3 ∧ g = 99)) : fitsField x k y = (decide (k = 0) && (decide ((y.length : Int) ≤ x.max) && allIn y g)) := by
  unfold fitsField fitIts
  rcases h with ⟨h, rfl⟩ | ⟨h, rfl⟩
  · rw [if_neg (by omega), if_pos h]
  · rw [if_neg (by omega), if_neg (by omega), if_pos h]
set_option maxHeartbeats 4000000 in
set_option maxRecDepth 100000 in
theorem specFitsField_any (x : Fd) (k : Int) (p : Option Addr) (m c : Nat) (y : List Int) (w : World) (h : Nums .i64 w p m y) :
    Calls Try.prog 91 #[x.val, .agg #[.int .i64 k, .slice p m c]] w (Told (.bool (fitsField x k y)) w) := by
  obtain ⟨xk, xm, xt, xi⟩ := x
  unfold Fd.val
  have hl := h.len
  have hfit := h.fits
  have HB : Hid (Below w.heap.size w ((w.alloc (.cells #[.int .i64 xk, .int .i64 xm, .int .i64 xt, .int .i64 xi] 50)).alloc (.cells #[.int .i64 k, .slice p m c] 64))) := Lib.hid (((Below.refl _ w).alloc (Nat.le_refl _) _).alloc (by simp) _)
  have H := Lib.hid (h.same HB.out)
  clear h
  by_cases h1 : xk = 1
  · have b1 : (xk == 1) = true := by simpa using h1
    have ef : fitsField ⟨xk, xm, xt, xi⟩ k y = (decide (0 ≤ k ∧ k ≤ xm) && decide (y.length = 0)) := by unfold fitsField; dsimp only; rw [if_pos h1]
    rw [ef]
    clear ef h1
    by_cases h2 : 0 ≤ k ∧ k ≤ xm
    · have KR := Lib.hid (fun w0 => l1R_t (decide_eq_true h2) w0)
      rw [decide_eq_true h2]
      clear h2
      go_enter Try.func91, Try.ntmps91
      go_wp2_with (go_at_call 50; refine (KR.out _).mono ?_; rintro e w' ⟨rfl, rfl⟩)
      go_ret
      exact ⟨by rw [hl]; by_cases e : m = 0 <;> simp [e], HB.out⟩
    · have KR := Lib.hid (fun w0 => l1R_t (decide_eq_false h2) w0)
      rw [decide_eq_false h2]
      clear h2
      go_enter Try.func91, Try.ntmps91
      go_wp2_with (go_at_call 50; refine (KR.out _).mono ?_; rintro e w' ⟨rfl, rfl⟩)
      go_ret
      exact ⟨rfl, HB.out⟩
  · have b1 : (xk == 1) = false := by simpa using h1
    by_cases h2 : xk = 3
    · have b2 : (xk == 3) = true := by simpa using h2
      rw [fits_items (x := ⟨xk, xm, xt, xi⟩) (g := 99) (Or.inr ⟨h2, rfl⟩)]
      clear h1 h2
      go_enter Try.func91, Try.ntmps91
      go_wp2_with fail
      go_loop [6] (fun i => ∃ j : Nat, j ≤ m ∧ i = .int .i64 j ∧ allIn (y.take j) 99 = true) (fun i => m - (intOf i).toNat)
      case atStart => exact ⟨0, Nat.zero_le _, rfl, allIn_zero _ _⟩
      case round =>
        obtain ⟨j, hj, rfl, hall⟩ := hrel
        have HA := Lib.hid hall
        clear hall
        by_cases hlt : j < m
        · obtain ⟨ad, z, rfl, hz, hc⟩ := H.out.at_ hlt
          by_cases hi : 0 ≤ z ∧ z ≤ 99
          · have HS := Lib.hid (allIn_step HA.out hz hi)
            have K := Lib.hid (fun w0 => l1R_t (decide_eq_true hi) w0)
            clear hz hi
            go_wp2_with (go_at_call 50; refine (K.out _).mono ?_; rintro e w' ⟨rfl, rfl⟩)
            go_round
            case rel => exact ⟨j + 1, by omega, by go_num, HS.out⟩
            case measure => simp [intOf]; omega
          · have HE := Lib.hid (allIn_no hz hi)
            have K := Lib.hid (fun w0 => l1R_t (decide_eq_false hi) w0)
            clear hz hi
            go_wp2_with (go_at_call 50; refine (K.out _).mono ?_; rintro e w' ⟨rfl, rfl⟩)
            go_ret
            exact ⟨by rw [HE.out, Bool.and_false, Bool.and_false]; rfl, HB.out⟩
        · obtain rfl : j = m := by omega
          have h2 := HA.out
          rw [List.take_of_length_le (by omega)] at h2
          have HE := Lib.hid h2
          clear h2
          by_cases hk : k = 0
          · have bk : (k == 0) = true := by simpa using hk
            have HK := Lib.hid (decide_eq_true hk)
            clear hk
            go_wp2_with fail
            go_ret
            exact ⟨by rw [HE.out, HK.out]; simp, HB.out⟩
          · have bk : (k == 0) = false := by simpa using hk
            have HK := Lib.hid (decide_eq_false hk)
            clear hk
            go_wp2_with fail
            go_ret
            exact ⟨by rw [HK.out]; rfl, HB.out⟩
    · have b2 : (xk == 3) = false := by simpa using h2
      by_cases h3 : xk = 2
      · have b3 : (xk == 2) = true := by simpa using h3
        rw [fits_items (x := ⟨xk, xm, xt, xi⟩) (g := 255) (Or.inl ⟨h3, rfl⟩)]
        clear h1 h2 h3
        go_enter Try.func91, Try.ntmps91
        go_wp2_with fail
        go_loop [6] (fun i => ∃ j : Nat, j ≤ m ∧ i = .int .i64 j ∧ allIn (y.take j) 255 = true) (fun i => m - (intOf i).toNat)
        case atStart => exact ⟨0, Nat.zero_le _, rfl, allIn_zero _ _⟩
        case round =>
          obtain ⟨j, hj, rfl, hall⟩ := hrel
          have HA := Lib.hid hall
          clear hall
          by_cases hlt : j < m
          · obtain ⟨ad, z, rfl, hz, hc⟩ := H.out.at_ hlt
            by_cases hi : 0 ≤ z ∧ z ≤ 255
            · have HS := Lib.hid (allIn_step HA.out hz hi)
              have K := Lib.hid (fun w0 => l1R_t (decide_eq_true hi) w0)
              clear hz hi
              go_wp2_with (go_at_call 50; refine (K.out _).mono ?_; rintro e w' ⟨rfl, rfl⟩)
              go_round
              case rel => exact ⟨j + 1, by omega, by go_num, HS.out⟩
              case measure => simp [intOf]; omega
            · have HE := Lib.hid (allIn_no hz hi)
              have K := Lib.hid (fun w0 => l1R_t (decide_eq_false hi) w0)
              clear hz hi
              go_wp2_with (go_at_call 50; refine (K.out _).mono ?_; rintro e w' ⟨rfl, rfl⟩)
              go_ret
              exact ⟨by rw [HE.out, Bool.and_false, Bool.and_false]; rfl, HB.out⟩
          · obtain rfl : j = m := by omega
            have h2 := HA.out
            rw [List.take_of_length_le (by omega)] at h2
            have HE := Lib.hid h2
            clear h2
            by_cases hk : k = 0
            · have bk : (k == 0) = true := by simpa using hk
              have HK := Lib.hid (decide_eq_true hk)
              clear hk
              go_wp2_with fail
              go_ret
              exact ⟨by rw [HE.out, HK.out]; simp, HB.out⟩
            · have bk : (k == 0) = false := by simpa using hk
              have HK := Lib.hid (decide_eq_false hk)
              clear hk
              go_wp2_with fail
              go_ret
              exact ⟨by rw [HK.out]; rfl, HB.out⟩
      · have b3 : (xk == 2) = false := by simpa using h3
        have ef : fitsField ⟨xk, xm, xt, xi⟩ k y = false := by unfold fitsField; dsimp only; rw [if_neg h1, if_neg h3, if_neg h2]
        rw [ef]
        clear ef h1 h2 h3
        go_enter Try.func91, Try.ntmps91
        go_wp2_with fail
        go_ret
        exact ⟨rfl, HB.out⟩
end Go.Proofs.Ytjkjnhkamieljaa
