/- A list of integers is decoded into extensions: by the model. -/
import Derived.Test.YthiamcecjneahaaExM2
import Derived.Test.YthiamcecjneahaaDecE
import Derived.Deep.RegionHeld3
namespace Go.Proofs.Ythiamcecjneahaa
open Go.ChangeShapes Go.WideShapes Go.ChangeAt Go.RowKit
set_option linter.unusedVariables false
set_option linter.unusedSimpArgs false

theorem codesX_pre : ∀ (out l : List Vl) (r : List Int), codesX l = codesX out ++ r → ∃ l', l = out ++ l' ∧ r = codesX l'
  | [], l, r, h => ⟨l, rfl, by simpa [codesX] using h.symm⟩
  | x :: o, [], r, h => by simp [codesX, codeX] at h
  | x :: o, z :: l, r, h => by
    obtain ⟨xn, xi⟩ := x
    obtain ⟨zn, zi⟩ := z
    rw [codesX_cons, codesX_cons] at h
    simp only [codeX, List.cons_append, List.append_assoc, List.cons.injEq] at h
    obtain ⟨rfl, h2, h3⟩ := h
    have hl : zi.length = xi.length := by omega
    obtain ⟨rfl, h4⟩ := List.append_inj h3 hl
    obtain ⟨l', rfl, h5⟩ := codesX_pre o l r h4
    exact ⟨l', rfl, h5⟩
/-- What stands behind what was read decides. -/
theorem decX_behind {y : List Int} {k : Nat} {c : Int} {out : List Vl} (hk : y.take k = c :: codesX out) {l : List Vl} (h : decX y = some l) : c = (l.length : Int) ∧ ∃ l', l = out ++ l' ∧ y.drop k = codesX l' := by
  have h2 := (decX_iff.1 h).2
  have h3 : encX l = (c :: codesX out) ++ y.drop k := by rw [← h2, ← hk, List.take_append_drop]
  unfold encX at h3
  simp only [List.cons_append, List.cons.injEq] at h3
  obtain ⟨l', h4, h5⟩ := codesX_pre out l _ h3.2
  exact ⟨h3.1.symm, l', h4, h5⟩
theorem dec_bad {y : List Int} {k : Nat} {c z : Int} {out : List Vl} (hk : y.take k = c :: codesX out) (h1 : k + 1 < y.length) (hz : y[k + 1]? = some z) (h : ¬ (0 ≤ z ∧ z ≤ (y.length : Int) - k - 2)) : decX y = none := by
  cases e : decX y with
  | none => rfl
  | some l =>
    exfalso
    obtain ⟨_, l', _, h5⟩ := decX_behind hk e
    have hl := congrArg List.length h5
    rw [List.length_drop, codesX_len] at hl
    have hz2 : (y.drop k)[1]? = some z := by rw [List.getElem?_drop]; exact hz
    rw [h5] at hz2
    cases l' with
    | nil => simp [codesX] at hz2
    | cons x t =>
      rw [codesX_cons] at hz2 h5
      have hx : z = (x.items.length : Int) := by
        simp [codeX] at hz2
        exact hz2.symm
      have h6 := congrArg List.length h5
      rw [List.length_drop, List.length_append, codeX_len] at h6
      omega
theorem dec_odd {y : List Int} {k : Nat} {c : Int} {out : List Vl} (hk : y.take k = c :: codesX out) (h1 : k + 1 = y.length) : decX y = none := by
  cases e : decX y with
  | none => rfl
  | some l =>
    exfalso
    obtain ⟨_, l', _, h5⟩ := decX_behind hk e
    have hl := congrArg List.length h5
    rw [List.length_drop, codesX_len] at hl
    cases l' with
    | nil => simp [itemsOf] at hl; omega
    | cons x t => simp at hl; omega
theorem dec_all {y : List Int} {c : Int} {out : List Vl} (hk : y = c :: codesX out) : decX y = if c = (out.length : Int) ∧ areX out = true then some out else none := by
  by_cases h : c = (out.length : Int) ∧ areX out = true
  · rw [if_pos h, decX_iff]
    exact ⟨h.2, by rw [hk, h.1]; rfl⟩
  · rw [if_neg h]
    cases e : decX y with
    | none => rfl
    | some l =>
      exfalso
      obtain ⟨h1, l', h4, h5⟩ := decX_behind (k := y.length) (by rw [List.take_length]; exact hk) e
      rw [List.drop_length] at h5
      have hl' : l' = [] := by
        cases l' with
        | nil => rfl
        | cons x t => rw [codesX_cons] at h5; simp [codeX] at h5
      rw [hl', List.append_nil] at h4
      subst h4
      exact h ⟨h1, (decX_iff.1 e).1⟩
theorem dec_step {y : List Int} {k q : Nat} {c t : Int} {out : List Vl} (hk : y.take k = c :: codesX out) (ht : y[k]? = some t) (hz : y[k + 1]? = some (q : Int)) (h : k + 2 + q ≤ y.length) : y.take (k + 2 + q) = c :: codesX (out ++ [⟨t, (y.drop (k + 2)).take q⟩]) := by
  have h1 : y.take (k + 2) = y.take k ++ [t, (q : Int)] := by
    rw [List.take_add_one, List.take_add_one, ht, hz]
    simp
  have h2 : y.take (k + 2 + q) = y.take (k + 2) ++ (y.drop (k + 2)).take q := by rw [List.take_add]
  rw [h2, h1, hk, codesX_app, codesX_one]
  have hl : ((y.drop (k + 2)).take q).length = q := by rw [List.length_take, List.length_drop]; omega
  simp [codeX, hl]
set_option maxHeartbeats 4000000 in
set_option maxRecDepth 100000 in
theorem specDecodeExts_any {b : Option Addr} {m d : Nat} {y : List Int} {w : World} (hv : Nums .i64 w b m y) (hd : m ≤ d ∧ (d : Int) ≤ 9223372036854775807) (hm : m ≤ 1048576) :
    Calls Try.prog 33 #[.slice b m d] w (DxTold 52 3 y w) := by
  have H := Lib.hid hv
  have hyl := hv.len
  obtain ⟨i0, hi, hz0, hz1, hz2⟩ := info_parts infoExtS
  have HI := Lib.hid (And.intro hi (And.intro hz0 (And.intro hz1 hz2)))
  obtain ⟨i1, ki, kz0, kz1, kz2⟩ := info_parts infoIntS
  have HJ := Lib.hid (And.intro ki (And.intro kz0 (And.intro kz1 kz2)))
  have HD := Lib.hid hd
  clear hv hi hz0 hz1 hz2 ki kz0 kz1 kz2 hd
  have HO : Hid (OwnV 52 3 (w.alloc (.cells #[] 52)) w.heap.size (some ⟨w.heap.size, 0, none⟩) 0 0 []) := Lib.hid (OwnV.empty (Nat.le_refl _))
  unfold DxTold
  by_cases h0 : m = 0
  · subst h0
    obtain rfl : y = [] := List.eq_nil_of_length_eq_zero hyl
    go_enter Try.func33, Try.ntmps33
    go_wp2_with fail
    go_ret2
    exact ⟨_, _, _, rfl, HO.out, alloc_same _ _⟩
  · obtain ⟨ad, c, rfl, hc, hcc⟩ := H.out.at_ (j := 0) (by omega)
    have HC0 := Lib.hid hcc
    have HS : Hid (y.take 1 = c :: codesX []) := Lib.hid (by rw [show (1 : Nat) = 0 + 1 from rfl, List.take_add_one, hc]; simp [codesX])
    have HYL := Lib.hid hyl
    clear hc hcc hyl
    have hm0 : ((m : Int) == 0) = false := by simp; omega
    go_enter Try.func33, Try.ntmps33
    go_wp2_with fail
    go_loopw [4, 5] (fun v i wr => ∃ (k : Nat) (out : List Vl) (q : Option Addr) (r e : Nat), 1 ≤ k ∧ k ≤ m ∧ i = .int .i64 k ∧ v = .slice q r e ∧ y.take k = c :: codesX out ∧ OwnV 52 3 wr w.heap.size q r e out ∧ Below w.heap.size w wr) (fun _ i _ => m - (intOf i).toNat)
    case atStart => exact ⟨1, [], _, _, _, Nat.le_refl _, by omega, rfl, rfl, HS.out, HO.out, alloc_same _ _⟩
    case round =>
      obtain ⟨k, out, q, r, e, h1k, hk, rfl, rfl, hst, hown, hb⟩ := hrel
      have HST := Lib.hid hst
      have HOr := Lib.hid hown
      have HBr := Lib.hid hb
      have hsz := hb.size
      clear hst hown hb
      by_cases hlt : k + 1 < m
      · obtain ⟨ad1, t, e1, ht, hd0⟩ := H.out.at_ (j := k) (by omega)
        cases e1
        obtain ⟨ad2, z, e2, hz, hd1⟩ := H.out.at_ (j := k + 1) (by omega)
        cases e2
        have hc0 := cell_stay hd0 HBr.out
        have ha1 : ad.add (k + 1) = ⟨ad.block, ad.off + (k + 1), none⟩ := by simp [Addr.add]
        rw [ha1] at hd1
        have hc1 := cell_stay hd1 HBr.out
        by_cases hzr : 0 ≤ z ∧ z ≤ (m : Int) - k - 2
        · obtain ⟨s, rfl⟩ : ∃ s : Nat, z = s := ⟨z.toNat, by omega⟩
          have HE : Hid (y.take (k + 2 + s) = c :: codesX (out ++ [⟨t, (y.drop (k + 2)).take s⟩])) := Lib.hid (dec_step HST.out ht hz (by rw [HYL.out]; omega))
          have K := Lib.hid (fun w0 => l1R_t (decide_eq_true hzr) w0)
          have hrl : r ≤ 1048576 := by
            have h1 := congrArg List.length HST.out
            have h2 := HOr.out.len
            rw [List.length_take, List.length_cons, codesX_len] at h1
            omega
          have hks : k + 2 + s ≤ m := by omega
          have hdm := HD.out.1
          have hI0 : (0 : Int) ≤ (k : Int) := by omega
          have hI1 : (k : Int) < (m : Int) := by omega
          have hI2 : (0 : Int) ≤ (k : Int) + 2 := by omega
          have hI3 : (k : Int) + 2 ≤ (k : Int) + 2 + (s : Int) := by omega
          have hI4 : (k : Int) + 2 + (s : Int) ≤ (d : Int) := by omega
          have hI5 : IntKind.i64.wrap ((k : Int) + 2) = (k : Int) + 2 := IntWalk.i64_in _ ⟨by omega, by omega⟩
          have hI6 : IntKind.i64.wrap ((k : Int) + 2 + (s : Int)) = (k : Int) + 2 + (s : Int) := IntWalk.i64_in _ ⟨by omega, by omega⟩
          have HSUB : Hid (∀ w9, Below w.heap.size w w9 → ∀ p, (0 < s → p = some (ad.add (k + 2))) → Nums .i64 w9 p s ((y.drop (k + 2)).take s)) := Lib.hid (fun w9 h9 p hp => (H.out.same h9).sub (k + 2) s hks (fun h ad' e => by
            cases e
            exact hp h))
          have HSK : Hid (∀ w9, Below w.heap.size w w9 → w9.cell? (ad.add k) = some (.int .i64 t)) := Lib.hid (fun w9 h9 => cell_stay hd0 h9)
          clear ht hz hzr hd0 hd1 ha1
          have HBd : Hid (Below w.heap.size w wr.drew) := Lib.hid HBr.out.drew
          have HQ : Hid (Below wr.heap.size wr (wr.alloc (.cells #[] 3)).drew) := Lib.hid (alloc_same _ _).drew
          have HBQ : Hid (Below w.heap.size w (wr.alloc (.cells #[] 3)).drew) := Lib.hid (HBr.out.trans (HQ.out.mono hsz))
          have HOQ : Hid (Own .i64 3 (wr.alloc (.cells #[] 3)).drew wr.heap.size (some ⟨wr.heap.size, 0, none⟩) 0 0 []) := Lib.hid ((Own.empty (Nat.le_refl _)).same (Below.refl _ _).drew)
          have hs2 : wr.heap.size ≤ (wr.alloc (.cells #[] 3)).drew.heap.size := HQ.out.size
          have HE1 : Hid (((k : Int) + 2).toNat = k + 2) := Lib.hid (by omega)
          have HE2 : Hid (((k : Int) + 2 + (s : Int)).toNat - (k + 2) = s) := Lib.hid (by omega)
          have HN : Hid (∀ w9, Below w.heap.size w w9 → Nums .i64 w9 (if d = ((k : Int) + 2).toNat then some ad else some (ad.add ((k : Int) + 2).toNat)) (((k : Int) + 2 + (s : Int)).toNat - ((k : Int) + 2).toNat) ((y.drop (k + 2)).take s)) := Lib.hid (fun w9 h9 => by rw [HE1.out, HE2.out]; exact HSUB.out w9 h9 _ (fun h => if_neg (by omega)))
          go_wp2_with (go_at_call 57; refine (K.out _).mono ?_; rintro e9 w9 ⟨rfl, rfl⟩)
          go_region_held3 (fun w8 => w8.cell? (ad.add k) = some (.int .i64 t)) (first | exact HSK.out _ HBd.out | exact HSK.out _ HBQ.out | exact HSK.out _ HB3.out | exact HSK.out _ HB4.out | exact HSK.out _ HB5.out) ((first | (refine step_app_g _ (by rfl) (.tmp 36) (.tmp 44) 26 (by rfl) .i64 3 i1 (.int .i64 0) 8 Try.underlying26 HJ.out.1 HJ.out.2.1 HJ.out.2.2.1 HJ.out.2.2.2 rfl (by rfl) HOQ.out (by rfl) (HN.out _ HBQ.out) (by omega) (by omega) hs2 ?_; intro a3 c3 w3 ho3 hg3 hl3; have HO3 := Lib.hid ho3; have HQ3 : Hid (Below w9.heap.size w9 w3) := Lib.hid (grown_to hg3 HQ.out HOQ.out.span (Nat.le_refl _) hs2); have HB3 : Hid (Below w.heap.size w w3) := Lib.hid (HBr.out.trans (HQ3.out.mono hsz)); have hs3 := HQ3.out.size; have HB4 : Hid (Below w.heap.size w (w3.alloc (.cells #[.int .i64 t, .slice a3 (((k : Int) + 2 + (s : Int)).toNat - ((k : Int) + 2).toNat) c3] 52))) := Lib.hid (HB3.out.alloc HB3.out.size _); have HNN : Hid (Items Vh.enc 2 (w3.alloc (.cells #[.int .i64 t, .slice a3 (((k : Int) + 2 + (s : Int)).toNat - ((k : Int) + 2).toNat) c3] 52)) (some ⟨w3.heap.size, 0, none⟩) 1 [⟨t, a3, (((k : Int) + 2 + (s : Int)).toNat - ((k : Int) + 2).toNat), c3⟩]) := Lib.hid (items_new Vh.enc_len w3 ⟨t, a3, (((k : Int) + 2 + (s : Int)).toNat - ((k : Int) + 2).toNat), c3⟩ 52); have HO4 : Hid (Own .i64 3 (w3.alloc (.cells #[.int .i64 t, .slice a3 (((k : Int) + 2 + (s : Int)).toNat - ((k : Int) + 2).toNat) c3] 52)) w.heap.size a3 (((k : Int) + 2 + (s : Int)).toNat - ((k : Int) + 2).toNat) c3 ((y.drop (k + 2)).take s)) := Lib.hid (by have h9 := (ho3.lower hsz).alloc (.cells #[.int .i64 t, .slice a3 (((k : Int) + 2 + (s : Int)).toNat - ((k : Int) + 2).toNat) c3] 52); rw [Nat.zero_add] at h9; exact h9); clear ho3 hg3 hl3) | (refine step_appV (S := w9.heap.size) (B := w.heap.size) _ (by rfl) (.tmp 31) (.tmp 47) 24 (by rfl) 52 3 i0 (.agg #[.int .i64 0, .slice none 0 0]) 32 Try.underlying24 HI.out.1 HI.out.2.1 HI.out.2.2.1 HI.out.2.2.2 rfl (by rfl) ((HOr.out.lim.same HQ3.out).same (alloc_same _ _)) (by rfl) HNN.out HO4.out (fun ad e => (HO3.out.span ad e).1) (by omega) (by omega) (by simp; omega) ?_; intro a5 c5 w5 ho5 hb5; have HO5 := Lib.hid ho5; have HB5 : Hid (Below w.heap.size w w5) := Lib.hid (HB4.out.trans hb5); clear ho5 hb5)))
          go_wp2_with fail
          go_roundw
          case rel => exact ⟨k + 2 + s, _, a5, _, c5, by omega, by omega, by go_num, rfl, HE.out, HO5.out, HB5.out⟩
          case measure => simp [intOf]; omega
        · have HE := Lib.hid (dec_none (dec_bad HST.out (by rw [HYL.out]; exact hlt) hz (by rw [HYL.out]; exact hzr)))
          have K := Lib.hid (fun w0 => l1R_t (decide_eq_false hzr) w0)
          clear ht hz hzr hd0 hd1 ha1
          go_wp2_with (go_at_call 57; refine (K.out _).mono ?_; rintro e w' ⟨rfl, rfl⟩)
          go_ret2
          exact ⟨_, _, _, by rw [HE.out.2]; rfl, by rw [HE.out.1]; exact OwnV.empty HBr.out.size, HBr.out.alloc HBr.out.size _⟩
      · by_cases hkm : k = m
        · subst hkm
          have hol := HOr.out.len
          have hal := dec_all (y := y) (c := c) (out := out) (by have := HST.out; rwa [List.take_of_length_le (by rw [HYL.out]; omega)] at this)
          rw [hol] at hal
          have hc0 := cell_stay HC0.out HBr.out
          rw [addr_none] at hc0
          by_cases hcr : (r : Int) = c
          · cases ha : areX out with
            | true =>
              rw [ha, if_pos ⟨hcr.symm, rfl⟩] at hal
              have HE := Lib.hid (dec_some hal)
              have KA := Lib.hid (specAreExts_any (c := e) HOr.out.vals)
              rw [ha] at KA
              have hne : ((r : Int) != c) = false := by simp [hcr]
              clear hal ha hcr hol
              go_wp2_with (go_at_call 25; refine KA.out.mono ?_; rintro e9 w9 ⟨rfl, rfl⟩)
              go_ret2
              exact ⟨_, _, _, by rw [HE.out.2]; rfl, by rw [HE.out.1]; exact HOr.out, HBr.out⟩
            | false =>
              rw [ha, if_neg (fun h => by cases h.2)] at hal
              have HE := Lib.hid (dec_none hal)
              have KA := Lib.hid (specAreExts_any (c := e) HOr.out.vals)
              rw [ha] at KA
              have hne : ((r : Int) != c) = false := by simp [hcr]
              clear hal ha hcr hol
              go_wp2_with (go_at_call 25; refine KA.out.mono ?_; rintro e9 w9 ⟨rfl, rfl⟩)
              go_ret2
              exact ⟨_, _, _, by rw [HE.out.2]; rfl, by rw [HE.out.1]; exact OwnV.empty HBr.out.size, HBr.out.alloc HBr.out.size _⟩
          · rw [if_neg (fun h => hcr h.1.symm)] at hal
            have HE := Lib.hid (dec_none hal)
            have hne : ((r : Int) != c) = true := by simp [hcr]
            clear hal hcr hol
            go_wp2_with fail
            go_ret2
            exact ⟨_, _, _, by rw [HE.out.2]; rfl, by rw [HE.out.1]; exact OwnV.empty HBr.out.size, HBr.out.alloc HBr.out.size _⟩
        · have HE := Lib.hid (dec_none (dec_odd HST.out (by rw [HYL.out]; omega)))
          have hne : ((k : Int) != (m : Int)) = true := by simp; omega
          go_wp2_with fail
          go_ret2
          exact ⟨_, _, _, by rw [HE.out.2]; rfl, by rw [HE.out.1]; exact OwnV.empty HBr.out.size, HBr.out.alloc HBr.out.size _⟩
end Go.Proofs.Ythiamcecjneahaa
