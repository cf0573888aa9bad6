/- Whether a list of values is a message of a format: by the program. -/
import Derived.Test.YtjmabidahofbbaaIsF3
import Derived.Test.YtjmabidahofbbaaFits
import Derived.Test.YtjmabidahofbbaaEqV
import Derived.Deep.RegionHeld3
namespace Go.Proofs.Ytjmabidahofbbaa
open Go.ChangeShapes Go.WideShapes Go.ChangeAt Go.RowKit
set_option linter.unusedVariables false
set_option linter.unusedSimpArgs false

/-- The value is empty. -/
def emptyV (k : Int) (y : List Int) : Bool := decide (k = 0) && decide (y = [])
/-- A field's value is as it must be: it fits if the field is there, and else is empty. -/
def fitsAt (x : Fd) (t : Bool) (k : Int) (y : List Int) : Bool := if t = true then fitsField x k y else emptyV k y
/-- The first j values are as they must be. -/
def fitsTo (l : List Fd) (v : List Vl) (j : Nat) : Prop := ∀ (i : Nat) (x : Fd) (y : Vl), i < j → l[i]? = some x → v[i]? = some y → fitsAt x (isThere l v i) y.num y.items = true
noncomputable def fitsFmt (l : List Fd) (v : List Vl) : Bool := isFmt l && (decide (v.length = l.length) && @decide (fitsTo l v l.length) (Classical.propDecidable _))
theorem fitsTo_zero (l : List Fd) (v : List Vl) : fitsTo l v 0 := fun i x y h => absurd h (by omega)
theorem fitsTo_step {l : List Fd} {v : List Vl} {j : Nat} {x : Fd} {y : Vl} (h : fitsTo l v j) (hx : l[j]? = some x) (hy : v[j]? = some y) (hf : fitsAt x (isThere l v j) y.num y.items = true) : fitsTo l v (j + 1) := by
  intro i x' y' hi hx' hy'
  by_cases e : i = j
  · subst e
    rw [hx] at hx'
    rw [hy] at hy'
    cases hx'
    cases hy'
    exact hf
  · exact h i x' y' (by omega) hx' hy'
theorem fitsFmt_notFmt {l : List Fd} {v : List Vl} (h : isFmt l = false) : fitsFmt l v = false := by unfold fitsFmt; rw [h]; rfl
theorem fitsFmt_len {l : List Fd} {v : List Vl} (h : v.length ≠ l.length) : fitsFmt l v = false := by unfold fitsFmt; rw [decide_eq_false h]; simp
theorem fitsFmt_no {l : List Fd} {v : List Vl} {j : Nat} {x : Fd} {y : Vl} (hx : l[j]? = some x) (hy : v[j]? = some y) (hf : fitsAt x (isThere l v j) y.num y.items = false) : fitsFmt l v = false := by
  have hn : ¬ fitsTo l v l.length := fun h => by
    have := h j x y (lt_of_some hx) hx hy
    rw [hf] at this
    cases this
  unfold fitsFmt
  rw [@decide_eq_false _ (Classical.propDecidable _) hn]
  simp
theorem fitsFmt_yes {l : List Fd} {v : List Vl} (h : isFmt l = true) (hl : v.length = l.length) (ht : fitsTo l v l.length) : fitsFmt l v = true := by
  unfold fitsFmt
  rw [h, decide_eq_true hl, @decide_eq_true _ (Classical.propDecidable _) ht]
  rfl
theorem fitsAt_there {x : Fd} {k : Int} {y : List Int} {t : Bool} (ht : t = true) : fitsAt x t k y = fitsField x k y := by unfold fitsAt; rw [if_pos ht]
theorem fitsAt_not {x : Fd} {k : Int} {y : List Int} {t : Bool} (ht : t = false) : fitsAt x t k y = emptyV k y := by unfold fitsAt; rw [if_neg (by rw [ht]; decide)]
theorem equalValues_zero (k : Int) (p : Option Addr) (m c : Nat) (y : List Int) (w : World) (h : Nums .i64 w p m y) :
    Calls Try.prog 60 #[.agg #[.int .i64 k, .slice p m c], .agg #[.int .i64 0, .slice none 0 0]] w (Told (.bool (emptyV k y)) w) := by
  by_cases hk : k = 0 ∧ y = []
  · obtain ⟨rfl, rfl⟩ := hk
    exact equalValues_yes h Nums.none
  · have e : emptyV k y = false := by
      unfold emptyV
      by_cases h1 : k = 0
      · rw [decide_eq_false (fun h2 => hk ⟨h1, h2⟩)]
        simp
      · rw [decide_eq_false h1]
        rfl
    rw [e]
    exact equalValues_no h Nums.none hk
set_option maxHeartbeats 4000000 in
set_option maxRecDepth 100000 in
theorem fitsFormat_any (a : Option Addr) (n c : Nat) (l : List Fd) (b : Option Addr) (m d : Nat) (v : List Vl) (w : World) (h : Fds w a n l) (hv : Vals w b m v) (hc : n ≤ c ∧ (c : Int) ≤ 9223372036854775807) (hn : n ≤ 1000000000) (hm : m ≤ 1000000000) :
    Calls Try.prog 17 #[.slice a n c, .slice b m d] w (Told (.bool (fitsFmt l v)) w) := by
  have H := Lib.hid h
  have HV := Lib.hid hv
  have hl := Lib.hid h.len
  have hvl := Lib.hid hv.len
  have KF := Lib.hid (isFormat_any a n c l w h hc)
  have KT := Lib.hid (fun (i : Int) (w0 : World) (hb : Below w.heap.size w w0) => isThere_any a n c l b m d v i w0 (h.same hb) (hv.same hb) hn hm)
  clear h hv hc
  cases hf : isFmt l with
  | false =>
    rw [hf] at KF
    have HE := Lib.hid (fitsFmt_notFmt (v := v) hf)
    clear hf
    go_enter Try.func17, Try.ntmps17
    go_wp2_with fail
    refine KF.out.mono ?_
    rintro e w1 ⟨rfl, hb1⟩
    have HB1 := Lib.hid hb1
    clear hb1
    go_wp2_with fail
    go_ret
    exact ⟨by rw [HE.out]; rfl, HB1.out⟩
  | true =>
    rw [hf] at KF
    by_cases hnm : m = n
    · subst hnm
      have HF := Lib.hid (fun ht => fitsFmt_yes (l := l) (v := v) hf (by rw [hl.out, hvl.out]) ht)
      clear hf
      go_enter Try.func17, Try.ntmps17
      go_wp2_with fail
      refine KF.out.mono ?_
      rintro e w1 ⟨rfl, hb1⟩
      have HB1 := Lib.hid hb1
      clear hb1
      go_wp2_with fail
      go_loopw [20] (fun i wr => ∃ j : Nat, j ≤ m ∧ i = .int .i64 j ∧ fitsTo l v j ∧ Below w.heap.size w wr) (fun i _ => m - (intOf i).toNat)
      case atStart => exact ⟨0, Nat.zero_le _, rfl, fitsTo_zero _ _, HB1.out⟩
      case round =>
        obtain ⟨j, hj, rfl, hft, hb⟩ := hrel
        have HB := Lib.hid hb
        have HFT := Lib.hid hft
        clear hb hft
        by_cases hlt : j < m
        · obtain ⟨bl, ol, ⟨xk, xm, xt, xi⟩, rfl, hx, hc0, hc1, hc2, hc3⟩ := fds_at (H.out.same HB.out) hlt
          obtain ⟨bv, ov, p, q, g, k, y, rfl, hy, hv0, hv1, hN, hr⟩ := (HV.out.same HB.out).at_ hlt
          dsimp only at hc0 hc1 hc2 hc3
          have HW : Hid (Below wr.heap.size wr (wr.alloc (.cells #[.int .i64 k, .slice p q g] 73))) := Lib.hid ((Below.refl _ wr).alloc (Nat.le_refl _) _)
          have KE := Lib.hid (equalValues_zero k p q g y _ (hN.same HW.out))
          have E0 : Hid ((wr.alloc (.cells #[.int .i64 k, .slice p q g] 73)).cell? ⟨wr.heap.size, 0, none⟩ = some (.int .i64 k)) := Lib.hid (by simp)
          have E1 : Hid ((wr.alloc (.cells #[.int .i64 k, .slice p q g] 73)).cell? ⟨wr.heap.size, 1, none⟩ = some (.slice p q g)) := Lib.hid (by simp)
          have E2 := Lib.hid (cell_stay hc0 HW.out)
          have E3 := Lib.hid (cell_stay hc1 HW.out)
          have E4 := Lib.hid (cell_stay hc2 HW.out)
          have E5 := Lib.hid (cell_stay hc3 HW.out)
          have HN := Lib.hid (hN.same HW.out)
          have hltI : (j : Int) < (m : Int) := by omega
          have HX := Lib.hid hx
          have HY := Lib.hid hy
          clear hx hy hN hc0 hc1 hc2 hc3
          cases ht : isThere l v j with
          | true =>
            have KT1 := Lib.hid (fun w0 hb => KT.out j w0 hb)
            rw [ht] at KT1
            cases hv : fitsField ⟨xk, xm, xt, xi⟩ k y with
            | true =>
              have HST := Lib.hid (fitsTo_step HFT.out HX.out HY.out (by rw [fitsAt_there ht]; exact hv))
              have KV := Lib.hid (fun (w0 : World) (h0 : Nums .i64 w0 p q y) => fitsField_any ⟨xk, xm, xt, xi⟩ k p q g y w0 h0)
              rw [hv] at KV
              unfold Fd.val at KV
              clear ht hv
              go_wp2_with fail
              refine KE.out.mono ?_
              rintro e w1 ⟨rfl, hb1⟩
              have HB1' := Lib.hid ((HB.out.trans (HW.out.mono HB.out.size)).trans (hb1.mono (Nat.le_trans HB.out.size HW.out.size)))
              have G0 := Lib.hid (cell_stay E0.out hb1)
              have G1 := Lib.hid (cell_stay E1.out hb1)
              have G2 := Lib.hid (cell_stay E2.out hb1)
              have G3 := Lib.hid (cell_stay E3.out hb1)
              have G4 := Lib.hid (cell_stay E4.out hb1)
              have G5 := Lib.hid (cell_stay E5.out hb1)
              have HN1 := Lib.hid (HN.out.same hb1)
              clear hb1 E0 E1 E2 E3 E4 E5 HN
              go_wp2_with fail
              refine (KT1.out _ HB1'.out).mono ?_
              rintro e w2 ⟨rfl, hb2⟩
              have HB2' := Lib.hid (HB1'.out.trans (hb2.mono HB1'.out.size))
              have F0 := Lib.hid (cell_stay G0.out hb2)
              have F1 := Lib.hid (cell_stay G1.out hb2)
              have F2 := Lib.hid (cell_stay G2.out hb2)
              have F3 := Lib.hid (cell_stay G3.out hb2)
              have F4 := Lib.hid (cell_stay G4.out hb2)
              have F5 := Lib.hid (cell_stay G5.out hb2)
              have HN2 := Lib.hid (HN1.out.same hb2)
              clear hb2 G0 G1 G2 G3 G4 G5 HN1
              go_wp2_with fail
              have HBd : Hid (Below w2.heap.size w2 w2.drew) := Lib.hid (Below.refl _ _).drew
              refine wp_region_held_drew (S := (fun w' => w'.cell? ⟨wr.heap.size, 0, none⟩ = some (.int .i64 k) ∧ w'.cell? ⟨wr.heap.size, 1, none⟩ = some (.slice p q g) ∧ w'.cell? ⟨bl, ol + j * 4, none⟩ = some (.int .i64 xk) ∧ w'.cell? ⟨bl, ol + j * 4 + 1, none⟩ = some (.int .i64 xm) ∧ w'.cell? ⟨bl, ol + j * 4 + 2, none⟩ = some (.int .i64 xt) ∧ w'.cell? ⟨bl, ol + j * 4 + 3, none⟩ = some (.int .i64 xi))) (by kernel_rfl) ⟨cell_stay F0.out HBd.out, cell_stay F1.out HBd.out, cell_stay F2.out HBd.out, cell_stay F3.out HBd.out, cell_stay F4.out HBd.out, cell_stay F5.out HBd.out⟩ (fun hHeld => ?_)
              refine wpAnyH_take (i := 0) (v := ?v1) (by simp only [List.getElem?_toArray, List.getElem?_cons_succ, List.getElem?_cons_zero]; rfl) (by kernel_rfl) (by kernel_rfl) (by kernel_rfl) (by exact fun _ _ _ h => h) (Or.inl ⟨by rfl, fun w9 hS9 => ?hy1⟩) hHeld ?rest1
              case hy1 =>
                dsimp only at hS9
                obtain ⟨s0, s1, s2, s3, s4, s5⟩ := hS9
                go_simp
                try with_reducible rfl
              try simp only [Act.put, List.setIfInBounds_toArray, List.set_cons_zero, List.set_cons_succ]
              refine wpAnyH_take (i := 1) (v := ?v2) (by simp only [List.getElem?_toArray, List.getElem?_cons_succ, List.getElem?_cons_zero]; rfl) (by kernel_rfl) (by kernel_rfl) (by kernel_rfl) (by exact fun _ _ _ h => h) (Or.inl ⟨by rfl, fun w9 hS9 => ?hy2⟩) hHeld ?rest2
              case hy2 =>
                dsimp only at hS9
                obtain ⟨s0, s1, s2, s3, s4, s5⟩ := hS9
                go_simp
                try with_reducible rfl
              try simp only [Act.put, List.setIfInBounds_toArray, List.set_cons_zero, List.set_cons_succ]
              refine wpAnyH_take (i := 2) (v := ?v3) (by simp only [List.getElem?_toArray, List.getElem?_cons_succ, List.getElem?_cons_zero]; rfl) (by kernel_rfl) (by kernel_rfl) (by kernel_rfl) (by exact fun _ _ _ h => h) (Or.inl ⟨by rfl, fun w9 hS9 => ?hy3⟩) hHeld ?rest3
              case hy3 =>
                dsimp only at hS9
                obtain ⟨s0, s1, s2, s3, s4, s5⟩ := hS9
                go_simp
                try with_reducible rfl
              try simp only [Act.put, List.setIfInBounds_toArray, List.set_cons_zero, List.set_cons_succ]
              refine wpAnyH_take (i := 3) (v := ?v4) (by simp only [List.getElem?_toArray, List.getElem?_cons_succ, List.getElem?_cons_zero]; rfl) (by kernel_rfl) (by kernel_rfl) (by kernel_rfl) (by exact fun _ _ _ h => h) (Or.inl ⟨by rfl, fun w9 hS9 => ?hy4⟩) hHeld ?rest4
              case hy4 =>
                dsimp only at hS9
                obtain ⟨s0, s1, s2, s3, s4, s5⟩ := hS9
                go_simp
                try with_reducible rfl
              try simp only [Act.put, List.setIfInBounds_toArray, List.set_cons_zero, List.set_cons_succ]
              refine wpAnyH_take (i := 4) (v := ?v5) (by simp only [List.getElem?_toArray, List.getElem?_cons_succ, List.getElem?_cons_zero]; rfl) (by kernel_rfl) (by kernel_rfl) (by kernel_rfl) (by exact fun _ _ _ h => h) (Or.inl ⟨by rfl, fun w9 hS9 => ?hy5⟩) hHeld ?rest5
              case hy5 =>
                dsimp only at hS9
                obtain ⟨s0, s1, s2, s3, s4, s5⟩ := hS9
                go_simp
                try with_reducible rfl
              try simp only [Act.put, List.setIfInBounds_toArray, List.set_cons_zero, List.set_cons_succ]
              refine wpAnyH_ready (rs := [5]) (by kernel_rfl) (by simp) (AllReadyH.cons (by simp only [List.getElem?_toArray, List.getElem?_cons_succ, List.getElem?_cons_zero]; rfl) (fun K hK => ?_) AllReadyH.nil)
              go_simp
              refine (KV.out _ (HN2.out.same HBd.out)).mono ?_
              rintro e w3 ⟨rfl, hb3⟩
              have HB3 : Hid (Below w2.heap.size w2 w3) := Lib.hid (HBd.out.trans (hb3.mono HBd.out.size))
              clear hb3
              go_wp2_with fail
              refine hK.out _ _ ⟨cell_stay F0.out HB3.out, cell_stay F1.out HB3.out, cell_stay F2.out HB3.out, cell_stay F3.out HB3.out, cell_stay F4.out HB3.out, cell_stay F5.out HB3.out⟩ (fun hHeld => ?_)
              clear hK K
              try simp only [Act.put, List.setIfInBounds_toArray, List.set_cons_zero, List.set_cons_succ]
              refine wpAnyH_take (i := 6) (v := ?v6) (by simp only [List.getElem?_toArray, List.getElem?_cons_succ, List.getElem?_cons_zero]; rfl) (by kernel_rfl) (by kernel_rfl) (by kernel_rfl) (by exact fun _ _ _ h => h) (Or.inl ⟨by rfl, fun w9 hS9 => ?hy6⟩) hHeld ?rest6
              case hy6 =>
                dsimp only at hS9
                obtain ⟨s0, s1, s2, s3, s4, s5⟩ := hS9
                go_simp
                try with_reducible rfl
              try simp only [Act.put, List.setIfInBounds_toArray, List.set_cons_zero, List.set_cons_succ]
              refine wpAnyH_done (by kernel_rfl) ?_ _
              have HBX := Lib.hid (HB2'.out.trans (HB3.out.mono HB2'.out.size))
              go_wp2_with fail
              go_roundw
              case rel => exact ⟨j + 1, by omega, by go_num, HST.out, HBX.out⟩
              case measure => simp [intOf]; omega
            | false =>
              have HE := Lib.hid (fitsFmt_no HX.out HY.out (by rw [fitsAt_there ht]; exact hv))
              have KV := Lib.hid (fun (w0 : World) (h0 : Nums .i64 w0 p q y) => fitsField_any ⟨xk, xm, xt, xi⟩ k p q g y w0 h0)
              rw [hv] at KV
              unfold Fd.val at KV
              clear ht hv
              go_wp2_with fail
              refine KE.out.mono ?_
              rintro e w1 ⟨rfl, hb1⟩
              have HB1' := Lib.hid ((HB.out.trans (HW.out.mono HB.out.size)).trans (hb1.mono (Nat.le_trans HB.out.size HW.out.size)))
              have G0 := Lib.hid (cell_stay E0.out hb1)
              have G1 := Lib.hid (cell_stay E1.out hb1)
              have G2 := Lib.hid (cell_stay E2.out hb1)
              have G3 := Lib.hid (cell_stay E3.out hb1)
              have G4 := Lib.hid (cell_stay E4.out hb1)
              have G5 := Lib.hid (cell_stay E5.out hb1)
              have HN1 := Lib.hid (HN.out.same hb1)
              clear hb1 E0 E1 E2 E3 E4 E5 HN
              go_wp2_with fail
              refine (KT1.out _ HB1'.out).mono ?_
              rintro e w2 ⟨rfl, hb2⟩
              have HB2' := Lib.hid (HB1'.out.trans (hb2.mono HB1'.out.size))
              have F0 := Lib.hid (cell_stay G0.out hb2)
              have F1 := Lib.hid (cell_stay G1.out hb2)
              have F2 := Lib.hid (cell_stay G2.out hb2)
              have F3 := Lib.hid (cell_stay G3.out hb2)
              have F4 := Lib.hid (cell_stay G4.out hb2)
              have F5 := Lib.hid (cell_stay G5.out hb2)
              have HN2 := Lib.hid (HN1.out.same hb2)
              clear hb2 G0 G1 G2 G3 G4 G5 HN1
              go_wp2_with fail
              have HBd : Hid (Below w2.heap.size w2 w2.drew) := Lib.hid (Below.refl _ _).drew
              refine wp_region_held_drew (S := (fun w' => w'.cell? ⟨wr.heap.size, 0, none⟩ = some (.int .i64 k) ∧ w'.cell? ⟨wr.heap.size, 1, none⟩ = some (.slice p q g) ∧ w'.cell? ⟨bl, ol + j * 4, none⟩ = some (.int .i64 xk) ∧ w'.cell? ⟨bl, ol + j * 4 + 1, none⟩ = some (.int .i64 xm) ∧ w'.cell? ⟨bl, ol + j * 4 + 2, none⟩ = some (.int .i64 xt) ∧ w'.cell? ⟨bl, ol + j * 4 + 3, none⟩ = some (.int .i64 xi))) (by kernel_rfl) ⟨cell_stay F0.out HBd.out, cell_stay F1.out HBd.out, cell_stay F2.out HBd.out, cell_stay F3.out HBd.out, cell_stay F4.out HBd.out, cell_stay F5.out HBd.out⟩ (fun hHeld => ?_)
              refine wpAnyH_take (i := 0) (v := ?v7) (by simp only [List.getElem?_toArray, List.getElem?_cons_succ, List.getElem?_cons_zero]; rfl) (by kernel_rfl) (by kernel_rfl) (by kernel_rfl) (by exact fun _ _ _ h => h) (Or.inl ⟨by rfl, fun w9 hS9 => ?hy7⟩) hHeld ?rest7
              case hy7 =>
                dsimp only at hS9
                obtain ⟨s0, s1, s2, s3, s4, s5⟩ := hS9
                go_simp
                try with_reducible rfl
              try simp only [Act.put, List.setIfInBounds_toArray, List.set_cons_zero, List.set_cons_succ]
              refine wpAnyH_take (i := 1) (v := ?v8) (by simp only [List.getElem?_toArray, List.getElem?_cons_succ, List.getElem?_cons_zero]; rfl) (by kernel_rfl) (by kernel_rfl) (by kernel_rfl) (by exact fun _ _ _ h => h) (Or.inl ⟨by rfl, fun w9 hS9 => ?hy8⟩) hHeld ?rest8
              case hy8 =>
                dsimp only at hS9
                obtain ⟨s0, s1, s2, s3, s4, s5⟩ := hS9
                go_simp
                try with_reducible rfl
              try simp only [Act.put, List.setIfInBounds_toArray, List.set_cons_zero, List.set_cons_succ]
              refine wpAnyH_take (i := 2) (v := ?v9) (by simp only [List.getElem?_toArray, List.getElem?_cons_succ, List.getElem?_cons_zero]; rfl) (by kernel_rfl) (by kernel_rfl) (by kernel_rfl) (by exact fun _ _ _ h => h) (Or.inl ⟨by rfl, fun w9 hS9 => ?hy9⟩) hHeld ?rest9
              case hy9 =>
                dsimp only at hS9
                obtain ⟨s0, s1, s2, s3, s4, s5⟩ := hS9
                go_simp
                try with_reducible rfl
              try simp only [Act.put, List.setIfInBounds_toArray, List.set_cons_zero, List.set_cons_succ]
              refine wpAnyH_take (i := 3) (v := ?v10) (by simp only [List.getElem?_toArray, List.getElem?_cons_succ, List.getElem?_cons_zero]; rfl) (by kernel_rfl) (by kernel_rfl) (by kernel_rfl) (by exact fun _ _ _ h => h) (Or.inl ⟨by rfl, fun w9 hS9 => ?hy10⟩) hHeld ?rest10
              case hy10 =>
                dsimp only at hS9
                obtain ⟨s0, s1, s2, s3, s4, s5⟩ := hS9
                go_simp
                try with_reducible rfl
              try simp only [Act.put, List.setIfInBounds_toArray, List.set_cons_zero, List.set_cons_succ]
              refine wpAnyH_take (i := 4) (v := ?v11) (by simp only [List.getElem?_toArray, List.getElem?_cons_succ, List.getElem?_cons_zero]; rfl) (by kernel_rfl) (by kernel_rfl) (by kernel_rfl) (by exact fun _ _ _ h => h) (Or.inl ⟨by rfl, fun w9 hS9 => ?hy11⟩) hHeld ?rest11
              case hy11 =>
                dsimp only at hS9
                obtain ⟨s0, s1, s2, s3, s4, s5⟩ := hS9
                go_simp
                try with_reducible rfl
              try simp only [Act.put, List.setIfInBounds_toArray, List.set_cons_zero, List.set_cons_succ]
              refine wpAnyH_ready (rs := [5]) (by kernel_rfl) (by simp) (AllReadyH.cons (by simp only [List.getElem?_toArray, List.getElem?_cons_succ, List.getElem?_cons_zero]; rfl) (fun K hK => ?_) AllReadyH.nil)
              go_simp
              refine (KV.out _ (HN2.out.same HBd.out)).mono ?_
              rintro e w3 ⟨rfl, hb3⟩
              have HB3 : Hid (Below w2.heap.size w2 w3) := Lib.hid (HBd.out.trans (hb3.mono HBd.out.size))
              clear hb3
              go_wp2_with fail
              refine hK.out _ _ ⟨cell_stay F0.out HB3.out, cell_stay F1.out HB3.out, cell_stay F2.out HB3.out, cell_stay F3.out HB3.out, cell_stay F4.out HB3.out, cell_stay F5.out HB3.out⟩ (fun hHeld => ?_)
              clear hK K
              try simp only [Act.put, List.setIfInBounds_toArray, List.set_cons_zero, List.set_cons_succ]
              refine wpAnyH_take (i := 6) (v := ?v12) (by simp only [List.getElem?_toArray, List.getElem?_cons_succ, List.getElem?_cons_zero]; rfl) (by kernel_rfl) (by kernel_rfl) (by kernel_rfl) (by exact fun _ _ _ h => h) (Or.inl ⟨by rfl, fun w9 hS9 => ?hy12⟩) hHeld ?rest12
              case hy12 =>
                dsimp only at hS9
                obtain ⟨s0, s1, s2, s3, s4, s5⟩ := hS9
                go_simp
                try with_reducible rfl
              try simp only [Act.put, List.setIfInBounds_toArray, List.set_cons_zero, List.set_cons_succ]
              refine wpAnyH_done (by kernel_rfl) ?_ _
              have HBX := Lib.hid (HB2'.out.trans (HB3.out.mono HB2'.out.size))
              go_wp2_with fail
              go_ret
              exact ⟨by rw [HE.out]; rfl, HBX.out⟩
          | false =>
            have KT1 := Lib.hid (fun w0 hb => KT.out j w0 hb)
            rw [ht] at KT1
            cases hv : emptyV k y with
            | true =>
              have HST := Lib.hid (fitsTo_step HFT.out HX.out HY.out (by rw [fitsAt_not ht]; exact hv))
              rw [hv] at KE
              clear ht hv
              go_wp2_with fail
              refine KE.out.mono ?_
              rintro e w1 ⟨rfl, hb1⟩
              have HB1' := Lib.hid ((HB.out.trans (HW.out.mono HB.out.size)).trans (hb1.mono (Nat.le_trans HB.out.size HW.out.size)))
              have G0 := Lib.hid (cell_stay E0.out hb1)
              have G1 := Lib.hid (cell_stay E1.out hb1)
              have G2 := Lib.hid (cell_stay E2.out hb1)
              have G3 := Lib.hid (cell_stay E3.out hb1)
              have G4 := Lib.hid (cell_stay E4.out hb1)
              have G5 := Lib.hid (cell_stay E5.out hb1)
              have HN1 := Lib.hid (HN.out.same hb1)
              clear hb1 E0 E1 E2 E3 E4 E5 HN
              go_wp2_with fail
              refine (KT1.out _ HB1'.out).mono ?_
              rintro e w2 ⟨rfl, hb2⟩
              have HB2' := Lib.hid (HB1'.out.trans (hb2.mono HB1'.out.size))
              have F0 := Lib.hid (cell_stay G0.out hb2)
              have F1 := Lib.hid (cell_stay G1.out hb2)
              have F2 := Lib.hid (cell_stay G2.out hb2)
              have F3 := Lib.hid (cell_stay G3.out hb2)
              have F4 := Lib.hid (cell_stay G4.out hb2)
              have F5 := Lib.hid (cell_stay G5.out hb2)
              have HN2 := Lib.hid (HN1.out.same hb2)
              clear hb2 G0 G1 G2 G3 G4 G5 HN1
              go_wp2_with fail
              go_roundw
              case rel => exact ⟨j + 1, by omega, by go_num, HST.out, HB2'.out⟩
              case measure => simp [intOf]; omega
            | false =>
              have HE := Lib.hid (fitsFmt_no HX.out HY.out (by rw [fitsAt_not ht]; exact hv))
              rw [hv] at KE
              clear ht hv
              go_wp2_with fail
              refine KE.out.mono ?_
              rintro e w1 ⟨rfl, hb1⟩
              have HB1' := Lib.hid ((HB.out.trans (HW.out.mono HB.out.size)).trans (hb1.mono (Nat.le_trans HB.out.size HW.out.size)))
              have G0 := Lib.hid (cell_stay E0.out hb1)
              have G1 := Lib.hid (cell_stay E1.out hb1)
              have G2 := Lib.hid (cell_stay E2.out hb1)
              have G3 := Lib.hid (cell_stay E3.out hb1)
              have G4 := Lib.hid (cell_stay E4.out hb1)
              have G5 := Lib.hid (cell_stay E5.out hb1)
              have HN1 := Lib.hid (HN.out.same hb1)
              clear hb1 E0 E1 E2 E3 E4 E5 HN
              go_wp2_with fail
              refine (KT1.out _ HB1'.out).mono ?_
              rintro e w2 ⟨rfl, hb2⟩
              have HB2' := Lib.hid (HB1'.out.trans (hb2.mono HB1'.out.size))
              have F0 := Lib.hid (cell_stay G0.out hb2)
              have F1 := Lib.hid (cell_stay G1.out hb2)
              have F2 := Lib.hid (cell_stay G2.out hb2)
              have F3 := Lib.hid (cell_stay G3.out hb2)
              have F4 := Lib.hid (cell_stay G4.out hb2)
              have F5 := Lib.hid (cell_stay G5.out hb2)
              have HN2 := Lib.hid (HN1.out.same hb2)
              clear hb2 G0 G1 G2 G3 G4 G5 HN1
              go_wp2_with fail
              go_ret
              exact ⟨by rw [HE.out]; rfl, HB2'.out⟩
        · obtain rfl : j = m := by omega
          have HE := Lib.hid (HF.out (by rw [hl.out]; exact HFT.out))
          go_wp2_with fail
          go_ret
          exact ⟨by rw [HE.out]; rfl, HB.out⟩
    · have HE := Lib.hid (fitsFmt_len (l := l) (v := v) (by rw [hl.out, hvl.out]; exact hnm))
      have hq : ((m : Int) != (n : Int)) = true := by simp; omega
      clear hf hnm
      go_enter Try.func17, Try.ntmps17
      go_wp2_with fail
      refine KF.out.mono ?_
      rintro e w1 ⟨rfl, hb1⟩
      have HB1 := Lib.hid hb1
      clear hb1
      go_wp2_with fail
      go_ret
      exact ⟨by rw [HE.out]; rfl, HB1.out⟩
end Go.Proofs.Ytjmabidahofbbaa
