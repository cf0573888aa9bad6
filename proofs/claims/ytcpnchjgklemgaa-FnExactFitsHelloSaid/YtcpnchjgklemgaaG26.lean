/- A list of integers is decoded into extensions: by the model. A hello is read: by the model. The extensions whose tag is in a list: by the model. Extensions without reserved tags, reserved tags in lists, by the model. Out of: The extensions whose tag is in a list: by the model. -/
import Derived.Test.YtcpnchjgklemgaaG13
import Derived.Test.YtcpnchjgklemgaaG22
import Derived.Deep.RegionHeld3
import Derived.Test.YtcpnchjgklemgaaG23
import Derived.Test.YtcpnchjgklemgaaG16
namespace Go.Proofs.Ytcpnchjgklemgaa
open Go.ChangeShapes Go.WideShapes Go.ChangeAt Go.RowKit
set_option linter.unusedVariables false
set_option linter.unusedSimpArgs false

theorem codesX_pre : ∀ (out l : List Vl) (r : List Int), codesX l = codesX out ++ r → ∃ l', l = out ++ l' ∧ r = codesX l'
  | [], l, r, h => ⟨l, rfl, by simpa [codesX] using h.symm⟩
  | x :: o, [], r, h => by simp [codesX, codeX] at h
  | x :: o, z :: l, r, h => by
    obtain ⟨xn, xi⟩ := x
    obtain ⟨zn, zi⟩ := z
    rw [codesX_cons, codesX_cons] at h
    simp only [codeX, List.cons_append, List.append_assoc, List.cons.injEq] at h
    obtain ⟨rfl, h2, h3⟩ := h
    have hl : zi.length = xi.length := by omega
    obtain ⟨rfl, h4⟩ := List.append_inj h3 hl
    obtain ⟨l', rfl, h5⟩ := codesX_pre o l r h4
    exact ⟨l', rfl, h5⟩
/-- What stands behind what was read decides. -/
theorem decX_behind {y : List Int} {k : Nat} {c : Int} {out : List Vl} (hk : y.take k = c :: codesX out) {l : List Vl} (h : decX y = some l) : c = (l.length : Int) ∧ ∃ l', l = out ++ l' ∧ y.drop k = codesX l' := by
  have h2 := (decX_iff.1 h).2
  have h3 : encX l = (c :: codesX out) ++ y.drop k := by rw [← h2, ← hk, List.take_append_drop]
  unfold encX at h3
  simp only [List.cons_append, List.cons.injEq] at h3
  obtain ⟨l', h4, h5⟩ := codesX_pre out l _ h3.2
  exact ⟨h3.1.symm, l', h4, h5⟩
theorem dec_bad {y : List Int} {k : Nat} {c z : Int} {out : List Vl} (hk : y.take k = c :: codesX out) (h1 : k + 1 < y.length) (hz : y[k + 1]? = some z) (h : ¬ (0 ≤ z ∧ z ≤ (y.length : Int) - k - 2)) : decX y = none := by
  cases e : decX y with
  | none => rfl
  | some l =>
    exfalso
    obtain ⟨_, l', _, h5⟩ := decX_behind hk e
    have hl := congrArg List.length h5
    rw [List.length_drop, codesX_len] at hl
    have hz2 : (y.drop k)[1]? = some z := by rw [List.getElem?_drop]; exact hz
    rw [h5] at hz2
    cases l' with
    | nil => simp [codesX] at hz2
    | cons x t =>
      rw [codesX_cons] at hz2 h5
      have hx : z = (x.items.length : Int) := by
        simp [codeX] at hz2
        exact hz2.symm
      have h6 := congrArg List.length h5
      rw [List.length_drop, List.length_append, codeX_len] at h6
      omega
theorem dec_odd {y : List Int} {k : Nat} {c : Int} {out : List Vl} (hk : y.take k = c :: codesX out) (h1 : k + 1 = y.length) : decX y = none := by
  cases e : decX y with
  | none => rfl
  | some l =>
    exfalso
    obtain ⟨_, l', _, h5⟩ := decX_behind hk e
    have hl := congrArg List.length h5
    rw [List.length_drop, codesX_len] at hl
    cases l' with
    | nil => simp [itemsOf] at hl; omega
    | cons x t => simp at hl; omega
theorem dec_all {y : List Int} {c : Int} {out : List Vl} (hk : y = c :: codesX out) : decX y = if c = (out.length : Int) ∧ areX out = true then some out else none := by
  by_cases h : c = (out.length : Int) ∧ areX out = true
  · rw [if_pos h, decX_iff]
    exact ⟨h.2, by rw [hk, h.1]; rfl⟩
  · rw [if_neg h]
    cases e : decX y with
    | none => rfl
    | some l =>
      exfalso
      obtain ⟨h1, l', h4, h5⟩ := decX_behind (k := y.length) (by rw [List.take_length]; exact hk) e
      rw [List.drop_length] at h5
      have hl' : l' = [] := by
        cases l' with
        | nil => rfl
        | cons x t => rw [codesX_cons] at h5; simp [codeX] at h5
      rw [hl', List.append_nil] at h4
      subst h4
      exact h ⟨h1, (decX_iff.1 e).1⟩
theorem dec_step {y : List Int} {k q : Nat} {c t : Int} {out : List Vl} (hk : y.take k = c :: codesX out) (ht : y[k]? = some t) (hz : y[k + 1]? = some (q : Int)) (h : k + 2 + q ≤ y.length) : y.take (k + 2 + q) = c :: codesX (out ++ [⟨t, (y.drop (k + 2)).take q⟩]) := by
  have h1 : y.take (k + 2) = y.take k ++ [t, (q : Int)] := by
    rw [List.take_add_one, List.take_add_one, ht, hz]
    simp
  have h2 : y.take (k + 2 + q) = y.take (k + 2) ++ (y.drop (k + 2)).take q := by rw [List.take_add]
  rw [h2, h1, hk, codesX_app, codesX_one]
  have hl : ((y.drop (k + 2)).take q).length = q := by rw [List.length_take, List.length_drop]; omega
  simp [codeX, hl]
set_option maxHeartbeats 4000000 in
set_option maxRecDepth 100000 in
theorem specDecodeExts_any {b : Option Addr} {m d : Nat} {y : List Int} {w : World} (hv : Nums .i64 w b m y) (hd : m ≤ d ∧ (d : Int) ≤ 9223372036854775807) (hm : m ≤ 1048576) :
    Calls Try.prog 85 #[.slice b m d] w (DxTold 99 3 y w) := by
  have H := Lib.hid hv
  have hyl := hv.len
  obtain ⟨i0, hi, hz0, hz1, hz2⟩ := info_parts infoExtS
  have HI := Lib.hid (And.intro hi (And.intro hz0 (And.intro hz1 hz2)))
  obtain ⟨i1, ki, kz0, kz1, kz2⟩ := info_parts infoIntS
  have HJ := Lib.hid (And.intro ki (And.intro kz0 (And.intro kz1 kz2)))
  have HD := Lib.hid hd
  clear hv hi hz0 hz1 hz2 ki kz0 kz1 kz2 hd
  have HO : Hid (OwnV 99 3 (w.alloc (.cells #[] 99)) w.heap.size (some ⟨w.heap.size, 0, none⟩) 0 0 []) := Lib.hid (OwnV.empty (Nat.le_refl _))
  unfold DxTold
  by_cases h0 : m = 0
  · subst h0
    obtain rfl : y = [] := List.eq_nil_of_length_eq_zero hyl
    go_enter Try.func85, Try.ntmps85
    go_wp2_with fail
    go_ret2
    exact ⟨_, _, _, rfl, HO.out, alloc_same _ _⟩
  · obtain ⟨ad, c, rfl, hc, hcc⟩ := H.out.at_ (j := 0) (by omega)
    have HC0 := Lib.hid hcc
    have HS : Hid (y.take 1 = c :: codesX []) := Lib.hid (by rw [show (1 : Nat) = 0 + 1 from rfl, List.take_add_one, hc]; simp [codesX])
    have HYL := Lib.hid hyl
    clear hc hcc hyl
    have hm0 : ((m : Int) == 0) = false := by simp; omega
    go_enter Try.func85, Try.ntmps85
    go_wp2_with fail
    go_loopw [4, 5] (fun v i wr => ∃ (k : Nat) (out : List Vl) (q : Option Addr) (r e : Nat), 1 ≤ k ∧ k ≤ m ∧ i = .int .i64 k ∧ v = .slice q r e ∧ y.take k = c :: codesX out ∧ OwnV 99 3 wr w.heap.size q r e out ∧ Below w.heap.size w wr) (fun _ i _ => m - (intOf i).toNat)
    case atStart => exact ⟨1, [], _, _, _, Nat.le_refl _, by omega, rfl, rfl, HS.out, HO.out, alloc_same _ _⟩
    case round =>
      obtain ⟨k, out, q, r, e, h1k, hk, rfl, rfl, hst, hown, hb⟩ := hrel
      have HST := Lib.hid hst
      have HOr := Lib.hid hown
      have HBr := Lib.hid hb
      have hsz := hb.size
      clear hst hown hb
      by_cases hlt : k + 1 < m
      · obtain ⟨ad1, t, e1, ht, hd0⟩ := H.out.at_ (j := k) (by omega)
        cases e1
        obtain ⟨ad2, z, e2, hz, hd1⟩ := H.out.at_ (j := k + 1) (by omega)
        cases e2
        have hc0 := cell_stay hd0 HBr.out
        have ha1 : ad.add (k + 1) = ⟨ad.block, ad.off + (k + 1), none⟩ := by simp [Addr.add]
        rw [ha1] at hd1
        have hc1 := cell_stay hd1 HBr.out
        by_cases hzr : 0 ≤ z ∧ z ≤ (m : Int) - k - 2
        · obtain ⟨s, rfl⟩ : ∃ s : Nat, z = s := ⟨z.toNat, by omega⟩
          have HE : Hid (y.take (k + 2 + s) = c :: codesX (out ++ [⟨t, (y.drop (k + 2)).take s⟩])) := Lib.hid (dec_step HST.out ht hz (by rw [HYL.out]; omega))
          have K := Lib.hid (fun w0 => l1R_t (decide_eq_true hzr) w0)
          have hrl : r ≤ 1048576 := by
            have h1 := congrArg List.length HST.out
            have h2 := HOr.out.len
            rw [List.length_take, List.length_cons, codesX_len] at h1
            omega
          have hks : k + 2 + s ≤ m := by omega
          have hdm := HD.out.1
          have hI0 : (0 : Int) ≤ (k : Int) := by omega
          have hI1 : (k : Int) < (m : Int) := by omega
          have hI2 : (0 : Int) ≤ (k : Int) + 2 := by omega
          have hI3 : (k : Int) + 2 ≤ (k : Int) + 2 + (s : Int) := by omega
          have hI4 : (k : Int) + 2 + (s : Int) ≤ (d : Int) := by omega
          have hI5 : IntKind.i64.wrap ((k : Int) + 2) = (k : Int) + 2 := IntWalk.i64_in _ ⟨by omega, by omega⟩
          have hI6 : IntKind.i64.wrap ((k : Int) + 2 + (s : Int)) = (k : Int) + 2 + (s : Int) := IntWalk.i64_in _ ⟨by omega, by omega⟩
          have HSUB : Hid (∀ w9, Below w.heap.size w w9 → ∀ p, (0 < s → p = some (ad.add (k + 2))) → Nums .i64 w9 p s ((y.drop (k + 2)).take s)) := Lib.hid (fun w9 h9 p hp => (H.out.same h9).sub (k + 2) s hks (fun h ad' e => by
            cases e
            exact hp h))
          have HSK : Hid (∀ w9, Below w.heap.size w w9 → w9.cell? (ad.add k) = some (.int .i64 t)) := Lib.hid (fun w9 h9 => cell_stay hd0 h9)
          clear ht hz hzr hd0 hd1 ha1
          have HBd : Hid (Below w.heap.size w wr.drew) := Lib.hid HBr.out.drew
          have HQ : Hid (Below wr.heap.size wr (wr.alloc (.cells #[] 3)).drew) := Lib.hid (alloc_same _ _).drew
          have HBQ : Hid (Below w.heap.size w (wr.alloc (.cells #[] 3)).drew) := Lib.hid (HBr.out.trans (HQ.out.mono hsz))
          have HOQ : Hid (Own .i64 3 (wr.alloc (.cells #[] 3)).drew wr.heap.size (some ⟨wr.heap.size, 0, none⟩) 0 0 []) := Lib.hid ((Own.empty (Nat.le_refl _)).same (Below.refl _ _).drew)
          have hs2 : wr.heap.size ≤ (wr.alloc (.cells #[] 3)).drew.heap.size := HQ.out.size
          have HE1 : Hid (((k : Int) + 2).toNat = k + 2) := Lib.hid (by omega)
          have HE2 : Hid (((k : Int) + 2 + (s : Int)).toNat - (k + 2) = s) := Lib.hid (by omega)
          have HN : Hid (∀ w9, Below w.heap.size w w9 → Nums .i64 w9 (if d = ((k : Int) + 2).toNat then some ad else some (ad.add ((k : Int) + 2).toNat)) (((k : Int) + 2 + (s : Int)).toNat - ((k : Int) + 2).toNat) ((y.drop (k + 2)).take s)) := Lib.hid (fun w9 h9 => by rw [HE1.out, HE2.out]; exact HSUB.out w9 h9 _ (fun h => if_neg (by omega)))
          go_wp2_with (go_at_call 81; refine (K.out _).mono ?_; rintro e9 w9 ⟨rfl, rfl⟩)
          go_region_held3 (fun w8 => w8.cell? (ad.add k) = some (.int .i64 t)) (first | exact HSK.out _ HBd.out | exact HSK.out _ HBQ.out | exact HSK.out _ HB3.out | exact HSK.out _ HB4.out | exact HSK.out _ HB5.out) ((first | (refine step_app_g _ (by rfl) (.tmp 36) (.tmp 44) 24 (by rfl) .i64 3 i1 (.int .i64 0) 8 Try.underlying24 HJ.out.1 HJ.out.2.1 HJ.out.2.2.1 HJ.out.2.2.2 rfl (by rfl) HOQ.out (by rfl) (HN.out _ HBQ.out) (by omega) (by omega) hs2 ?_; intro a3 c3 w3 ho3 hg3 hl3; have HO3 := Lib.hid ho3; have HQ3 : Hid (Below w9.heap.size w9 w3) := Lib.hid (grown_to hg3 HQ.out HOQ.out.span (Nat.le_refl _) hs2); have HB3 : Hid (Below w.heap.size w w3) := Lib.hid (HBr.out.trans (HQ3.out.mono hsz)); have hs3 := HQ3.out.size; have HB4 : Hid (Below w.heap.size w (w3.alloc (.cells #[.int .i64 t, .slice a3 (((k : Int) + 2 + (s : Int)).toNat - ((k : Int) + 2).toNat) c3] 99))) := Lib.hid (HB3.out.alloc HB3.out.size _); have HNN : Hid (Items Vh.enc 2 (w3.alloc (.cells #[.int .i64 t, .slice a3 (((k : Int) + 2 + (s : Int)).toNat - ((k : Int) + 2).toNat) c3] 99)) (some ⟨w3.heap.size, 0, none⟩) 1 [⟨t, a3, (((k : Int) + 2 + (s : Int)).toNat - ((k : Int) + 2).toNat), c3⟩]) := Lib.hid (items_new Vh.enc_len w3 ⟨t, a3, (((k : Int) + 2 + (s : Int)).toNat - ((k : Int) + 2).toNat), c3⟩ 99); have HO4 : Hid (Own .i64 3 (w3.alloc (.cells #[.int .i64 t, .slice a3 (((k : Int) + 2 + (s : Int)).toNat - ((k : Int) + 2).toNat) c3] 99)) w.heap.size a3 (((k : Int) + 2 + (s : Int)).toNat - ((k : Int) + 2).toNat) c3 ((y.drop (k + 2)).take s)) := Lib.hid (by have h9 := (ho3.lower hsz).alloc (.cells #[.int .i64 t, .slice a3 (((k : Int) + 2 + (s : Int)).toNat - ((k : Int) + 2).toNat) c3] 99); rw [Nat.zero_add] at h9; exact h9); clear ho3 hg3 hl3) | (refine step_appV (S := w9.heap.size) (B := w.heap.size) _ (by rfl) (.tmp 31) (.tmp 47) 25 (by rfl) 99 3 i0 (.agg #[.int .i64 0, .slice none 0 0]) 32 Try.underlying25 HI.out.1 HI.out.2.1 HI.out.2.2.1 HI.out.2.2.2 rfl (by rfl) ((HOr.out.lim.same HQ3.out).same (alloc_same _ _)) (by rfl) HNN.out HO4.out (fun ad e => (HO3.out.span ad e).1) (by omega) (by omega) (by simp; omega) ?_; intro a5 c5 w5 ho5 hb5; have HO5 := Lib.hid ho5; have HB5 : Hid (Below w.heap.size w w5) := Lib.hid (HB4.out.trans hb5); clear ho5 hb5)))
          go_wp2_with fail
          go_roundw
          case rel => exact ⟨k + 2 + s, _, a5, _, c5, by omega, by omega, by go_num, rfl, HE.out, HO5.out, HB5.out⟩
          case measure => simp [intOf]; omega
        · have HE := Lib.hid (dec_none (dec_bad HST.out (by rw [HYL.out]; exact hlt) hz (by rw [HYL.out]; exact hzr)))
          have K := Lib.hid (fun w0 => l1R_t (decide_eq_false hzr) w0)
          clear ht hz hzr hd0 hd1 ha1
          go_wp2_with (go_at_call 81; refine (K.out _).mono ?_; rintro e w' ⟨rfl, rfl⟩)
          go_ret2
          exact ⟨_, _, _, by rw [HE.out.2]; rfl, by rw [HE.out.1]; exact OwnV.empty HBr.out.size, HBr.out.alloc HBr.out.size _⟩
      · by_cases hkm : k = m
        · subst hkm
          have hol := HOr.out.len
          have hal := dec_all (y := y) (c := c) (out := out) (by have := HST.out; rwa [List.take_of_length_le (by rw [HYL.out]; omega)] at this)
          rw [hol] at hal
          have hc0 := cell_stay HC0.out HBr.out
          rw [addr_none] at hc0
          by_cases hcr : (r : Int) = c
          · cases ha : areX out with
            | true =>
              rw [ha, if_pos ⟨hcr.symm, rfl⟩] at hal
              have HE := Lib.hid (dec_some hal)
              have KA := Lib.hid (specAreExts_any (c := e) HOr.out.vals)
              rw [ha] at KA
              have hne : ((r : Int) != c) = false := by simp [hcr]
              clear hal ha hcr hol
              go_wp2_with (go_at_call 59; refine KA.out.mono ?_; rintro e9 w9 ⟨rfl, rfl⟩)
              go_ret2
              exact ⟨_, _, _, by rw [HE.out.2]; rfl, by rw [HE.out.1]; exact HOr.out, HBr.out⟩
            | false =>
              rw [ha, if_neg (fun h => by cases h.2)] at hal
              have HE := Lib.hid (dec_none hal)
              have KA := Lib.hid (specAreExts_any (c := e) HOr.out.vals)
              rw [ha] at KA
              have hne : ((r : Int) != c) = false := by simp [hcr]
              clear hal ha hcr hol
              go_wp2_with (go_at_call 59; refine KA.out.mono ?_; rintro e9 w9 ⟨rfl, rfl⟩)
              go_ret2
              exact ⟨_, _, _, by rw [HE.out.2]; rfl, by rw [HE.out.1]; exact OwnV.empty HBr.out.size, HBr.out.alloc HBr.out.size _⟩
          · rw [if_neg (fun h => hcr h.1.symm)] at hal
            have HE := Lib.hid (dec_none hal)
            have hne : ((r : Int) != c) = true := by simp [hcr]
            clear hal hcr hol
            go_wp2_with fail
            go_ret2
            exact ⟨_, _, _, by rw [HE.out.2]; rfl, by rw [HE.out.1]; exact OwnV.empty HBr.out.size, HBr.out.alloc HBr.out.size _⟩
        · have HE := Lib.hid (dec_none (dec_odd HST.out (by rw [HYL.out]; omega)))
          have hne : ((k : Int) != (m : Int)) = true := by simp; omega
          go_wp2_with fail
          go_ret2
          exact ⟨_, _, _, by rw [HE.out.2]; rfl, by rw [HE.out.1]; exact OwnV.empty HBr.out.size, HBr.out.alloc HBr.out.size _⟩
end Go.Proofs.Ytcpnchjgklemgaa
namespace Go.Proofs.Ytcpnchjgklemgaa
open Go.ChangeShapes Go.WideShapes Go.ChangeAt Go.RowKit
set_option linter.unusedVariables false
set_option linter.unusedSimpArgs false

theorem rdH_zero {t : List Int} : rdH (0 :: t) = none := rdH_old (q := 0) (by rw [List.take_zero]; rfl)
set_option maxHeartbeats 1000000 in
set_option maxRecDepth 100000 in
theorem specReadHello_nil {b : Option Addr} {m d : Nat} {y : List Int} {w : World} (hv : Nums .i64 w b m y) (hd : m ≤ d ∧ (d : Int) ≤ 9223372036854775807) (hm : m ≤ 1048576) (h0 : m = 0) :
    Calls Try.prog 41 #[.slice b m d] w (MadeHelB w.heap.size ⟨[], []⟩ false w) := by
  have hb0 := alloc_same w (.cells #[.slice none 0 0, .slice none 0 0] 27)
  have hM : (w.alloc (.cells #[.slice none 0 0, .slice none 0 0] 27)).heap[w.heap.size]? = some (.cells #[.slice none 0 0, .slice none 0 0] 27 (0, 0)) := heap_alloc_new w _
  have hlt : w.heap.size < (w.alloc (.cells #[.slice none 0 0, .slice none 0 0] 27)).heap.size := by simp
  have HB := Lib.hid hb0
  have HM := Lib.hid hM
  obtain ⟨m0, m1, g0, g1⟩ := two_cells hM
  obtain ⟨z0, z1, hZ⟩ := two_put hM (.slice none 0 0) (.slice none 0 0)
  clear hZ
  subst h0
  clear hb0 hM hv
  go_enter Try.func41, Try.ntmps41
  go_wp2_with fail
  (try simp only [Exit.inBlock, Exit.then])
  refine bodyPost_ret (by simp [results, Try.results41, go_sem, z0, z1]; try rfl) rfl ?_
  exact ⟨_, rfl, no_hel (by simp), HB.out⟩
set_option maxHeartbeats 1000000 in
set_option maxRecDepth 100000 in
theorem specReadHello_out {b : Option Addr} {m d : Nat} {y : List Int} {w : World} (hv : Nums .i64 w b m y) (hd : m ≤ d ∧ (d : Int) ≤ 9223372036854775807) (hm : m ≤ 1048576) (h0 : 0 < m) {z : Int} (hz : y[0]? = some z) (ho : ¬ (1 ≤ z ∧ z ≤ (m : Int) - 1)) :
    Calls Try.prog 41 #[.slice b m d] w (MadeHelB w.heap.size ⟨[], []⟩ false w) := by
  have hb0 := alloc_same w (.cells #[.slice none 0 0, .slice none 0 0] 27)
  have hM : (w.alloc (.cells #[.slice none 0 0, .slice none 0 0] 27)).heap[w.heap.size]? = some (.cells #[.slice none 0 0, .slice none 0 0] 27 (0, 0)) := heap_alloc_new w _
  have hlt : w.heap.size < (w.alloc (.cells #[.slice none 0 0, .slice none 0 0] 27)).heap.size := by simp
  have HB := Lib.hid hb0
  have HM := Lib.hid hM
  obtain ⟨m0, m1, g0, g1⟩ := two_cells hM
  obtain ⟨z0, z1, hZ⟩ := two_put hM (.slice none 0 0) (.slice none 0 0)
  clear hZ
  obtain ⟨ad, z', rfl, hy0, hc0⟩ := (hv.same hb0).at_ (j := 0) (by omega)
  obtain rfl : z = z' := by rw [hz] at hy0; cases hy0; rfl
  rw [addr_none] at hc0
  have hm0 : ((m : Int) == 0) = false := by simp; omega
  have hI1 : (0 : Int) < (m : Int) := by omega
  have hI9 : (m : Int) ≤ 1048576 := by omega
  have K := Lib.hid (fun w0 => l1R_t (decide_eq_false ho) w0)
  clear hb0 hM hv hy0 hz ho
  go_enter Try.func41, Try.ntmps41
  go_wp2_with (go_at_call 81; refine (K.out _).mono ?_; rintro e9 w9 ⟨rfl, rfl⟩)
  (try simp only [Exit.inBlock, Exit.then])
  refine bodyPost_ret (by simp [results, Try.results41, go_sem, z0, z1]; try rfl) rfl ?_
  exact ⟨_, rfl, no_hel (by simp), HB.out⟩
set_option maxHeartbeats 1000000 in
set_option maxRecDepth 100000 in
theorem specReadHello_odd {b : Option Addr} {m d : Nat} {y : List Int} {w : World} (hv : Nums .i64 w b m y) (hd : m ≤ d ∧ (d : Int) ≤ 9223372036854775807) (hm : m ≤ 1048576) (h0 : 0 < m) {q : Nat} (hz : y[0]? = some (q : Int)) (hq1 : 1 ≤ q) (hq : 1 + q ≤ m) (hdo : decOk (y.drop (1 + q)) = false) :
    Calls Try.prog 41 #[.slice b m d] w (MadeHelB w.heap.size ⟨[], []⟩ false w) := by
  have hb0 := alloc_same w (.cells #[.slice none 0 0, .slice none 0 0] 27)
  have hM : (w.alloc (.cells #[.slice none 0 0, .slice none 0 0] 27)).heap[w.heap.size]? = some (.cells #[.slice none 0 0, .slice none 0 0] 27 (0, 0)) := heap_alloc_new w _
  have hlt : w.heap.size < (w.alloc (.cells #[.slice none 0 0, .slice none 0 0] 27)).heap.size := by simp
  have HB := Lib.hid hb0
  have HM := Lib.hid hM
  obtain ⟨ad, z', rfl, hy0, hc0⟩ := (hv.same hb0).at_ (j := 0) (by omega)
  obtain rfl : (q : Int) = z' := by rw [hz] at hy0; cases hy0; rfl
  rw [addr_none] at hc0
  have hm0 : ((m : Int) == 0) = false := by simp; omega
  have hI1 : (0 : Int) < (m : Int) := by omega
  have hI9 : (m : Int) ≤ 1048576 := by omega
  have K := Lib.hid (fun w0 => l1R_t (n := (q : Int)) (l := 1) (h := (m : Int) - 1) (x := true) (decide_eq_true (by omega)) w0)
  have hdm := hd.1
  have hI2 : (0 : Int) ≤ 1 + (q : Int) := by omega
  have hI3 : (1 : Int) ≤ 1 + (q : Int) := by omega
  have hI4 : 1 + (q : Int) ≤ (m : Int) := by omega
  have hI6 : 1 + (q : Int) ≤ (d : Int) := by omega
  have hI5 : IntKind.i64.wrap (1 + (q : Int)) = 1 + (q : Int) := IntWalk.i64_in _ ⟨by omega, by omega⟩
  have hE1 : (1 + (q : Int)).toNat = 1 + q := by omega
  have HY := Lib.hid hv
  have KD := Lib.hid (fun (a0 : Option Addr) (d0 : Nat) (h0 : m - (1 + q) ≤ d0 ∧ (d0 : Int) ≤ 9223372036854775807) (ha : 0 < m - (1 + q) → ∀ ad', some ad = some ad' → a0 = some (ad'.add (1 + q))) => specDecodeExts_any (b := a0) (m := m - (1 + q)) (d := d0) (y := y.drop (1 + q)) (w := (w.alloc (.cells #[.slice none 0 0, .slice none 0 0] 27))) ((hv.same hb0).sub_all (1 + q) hq ha) h0 (by omega))
  unfold DxTold at KD
  rw [hdo] at KD
  have HC0 := Lib.hid hc0
  have HCV := Lib.hid (fun (w9 : World) (h9 : Below (w.alloc (.cells #[.slice none 0 0, .slice none 0 0] 27)).heap.size (w.alloc (.cells #[.slice none 0 0, .slice none 0 0] 27)) w9) => cell_stay hc0 h9)
  clear hb0 hM hv hy0 hz
  go_enter Try.func41, Try.ntmps41
  by_cases hcap : d = 1 + q
  · have KE := Lib.hid (KD.out (some ad) 0 (by omega) (fun h => by omega))
    go_wp2_with (go_at_call 81; refine (K.out _).mono ?_; rintro e9 w9 ⟨rfl, rfl⟩)
    have hcl := HCV.out
    generalize (w.alloc (.cells #[.slice none 0 0, .slice none 0 0] 27)) = W1 at *
    refine KE.out.mono ?_
    rintro e w3 ⟨q3, n3, c3, rfl, ho3, hb3⟩
    have HM3 := Lib.hid ((hb3.block w.heap.size hlt).trans HM.out)
    have HB3 := Lib.hid (HB.out.trans (hb3.mono HB.out.size))
    have HO3 := Lib.hid ho3
    have hs3 := hb3.size
    have e0 := cell_stay HC0.out hb3
    have e1 := cell_stay e0 (alloc_same w3 (.cells #[] 3))
    obtain ⟨i0, hi, hz0, hz1, hz2⟩ := info_parts infoIntS
    have HI := Lib.hid (And.intro hi (And.intro hz0 (And.intro hz1 hz2)))
    have HAL := Lib.hid (alloc_same w3 (.cells #[] 3))
    have HOE : Hid (Own .i64 3 (w3.alloc (.cells #[] 3)) w3.heap.size (some ⟨w3.heap.size, 0, none⟩) 0 0 []) := Lib.hid (Own.empty (Nat.le_refl _))
    have HNV : Hid (Nums .i64 (w3.alloc (.cells #[] 3)) (some (ad.add 1)) q ((y.drop 1).take q)) := Lib.hid (((HY.out.same HB3.out).same (alloc_same w3 _ |>.mono (Nat.le_refl _))).sub 1 q (by omega) (fun _ ad2 e => by cases e; rfl))
    have hs4 : w3.heap.size ≤ (w3.alloc (.cells #[] 3)).heap.size := by simp
    have hd1 : ¬ d = 1 := by omega
    clear hi hz0 hz1 hz2 ho3 hb3 hcl KE KD HCV hc0 hcap
    go_wp2_with (at_builtin; refine wpl_app _ rfl (.tmp 31) (.tmp 37) 24 rfl .i64 3 i0 (.int .i64 0) 8 Try.underlying24 HI.out.1 HI.out.2.1 HI.out.2.2.1 HI.out.2.2.2 rfl rfl HOE.out rfl HNV.out (by omega) ?c1 ?c2 ?_)
    case c1 => omega
    case c2 => exact hs4
    intro a4 c4 w4 ho4 hb4
    have HB4 := Lib.hid (HB3.out.trans ((HAL.out.trans hb4).mono HB3.out.size))
    have hb5 := alloc_same w4 (.cells #[.slice a4 q c4, .slice q3 n3 c3] 27)
    have hM5 := (hb5.block w.heap.size (by have := hb4.size; omega)).trans (((HAL.out.trans hb4).block w.heap.size (by omega)).trans HM3.out)
    have hH5 : (w4.alloc (.cells #[.slice a4 q c4, .slice q3 n3 c3] 27)).heap[w4.heap.size]? = some (.cells #[.slice a4 q c4, .slice q3 n3 c3] 27 (0, 0)) := heap_alloc_new w4 _
    have HB5 := Lib.hid (HB4.out.trans (hb5.mono HB4.out.size))
    have HO4 := Lib.hid ho4
    have hs5 : w3.heap.size ≤ w4.heap.size := (HAL.out.trans hb4).size
    obtain ⟨m0, m1, g0, g1⟩ := two_cells hM5
    obtain ⟨z0, z1, hZ⟩ := two_put hM5 (.slice none 0 0) (.slice none 0 0)
    clear hZ
    clear hM5 hH5 hb4 hb5 ho4 e0 e1
    go_wp2_with fail
    (try simp only [Exit.inBlock, Exit.then])
    refine bodyPost_ret (by simp [results, Try.results41, go_sem, z0, z1]; try rfl) rfl ?_
    exact ⟨_, rfl, no_hel (by simp; have := HB5.out.size; omega), (HB5.out.setCell (Nat.le_refl _) _).setCell (Nat.le_refl _) _⟩
  · have KE := Lib.hid (KD.out (some (ad.add (1 + q))) (d - (1 + q)) (by omega) (fun _ ad2 e => by cases e; rfl))
    go_wp2_with (go_at_call 81; refine (K.out _).mono ?_; rintro e9 w9 ⟨rfl, rfl⟩)
    have hcl := HCV.out
    generalize (w.alloc (.cells #[.slice none 0 0, .slice none 0 0] 27)) = W1 at *
    refine KE.out.mono ?_
    rintro e w3 ⟨q3, n3, c3, rfl, ho3, hb3⟩
    have HM3 := Lib.hid ((hb3.block w.heap.size hlt).trans HM.out)
    have HB3 := Lib.hid (HB.out.trans (hb3.mono HB.out.size))
    have HO3 := Lib.hid ho3
    have hs3 := hb3.size
    have e0 := cell_stay HC0.out hb3
    have e1 := cell_stay e0 (alloc_same w3 (.cells #[] 3))
    obtain ⟨i0, hi, hz0, hz1, hz2⟩ := info_parts infoIntS
    have HI := Lib.hid (And.intro hi (And.intro hz0 (And.intro hz1 hz2)))
    have HAL := Lib.hid (alloc_same w3 (.cells #[] 3))
    have HOE : Hid (Own .i64 3 (w3.alloc (.cells #[] 3)) w3.heap.size (some ⟨w3.heap.size, 0, none⟩) 0 0 []) := Lib.hid (Own.empty (Nat.le_refl _))
    have HNV : Hid (Nums .i64 (w3.alloc (.cells #[] 3)) (some (ad.add 1)) q ((y.drop 1).take q)) := Lib.hid (((HY.out.same HB3.out).same (alloc_same w3 _ |>.mono (Nat.le_refl _))).sub 1 q (by omega) (fun _ ad2 e => by cases e; rfl))
    have hs4 : w3.heap.size ≤ (w3.alloc (.cells #[] 3)).heap.size := by simp
    have hd1 : ¬ d = 1 := by omega
    clear hi hz0 hz1 hz2 ho3 hb3 hcl KE KD HCV hc0 hcap
    go_wp2_with (at_builtin; refine wpl_app _ rfl (.tmp 31) (.tmp 37) 24 rfl .i64 3 i0 (.int .i64 0) 8 Try.underlying24 HI.out.1 HI.out.2.1 HI.out.2.2.1 HI.out.2.2.2 rfl rfl HOE.out rfl HNV.out (by omega) ?c1 ?c2 ?_)
    case c1 => omega
    case c2 => exact hs4
    intro a4 c4 w4 ho4 hb4
    have HB4 := Lib.hid (HB3.out.trans ((HAL.out.trans hb4).mono HB3.out.size))
    have hb5 := alloc_same w4 (.cells #[.slice a4 q c4, .slice q3 n3 c3] 27)
    have hM5 := (hb5.block w.heap.size (by have := hb4.size; omega)).trans (((HAL.out.trans hb4).block w.heap.size (by omega)).trans HM3.out)
    have hH5 : (w4.alloc (.cells #[.slice a4 q c4, .slice q3 n3 c3] 27)).heap[w4.heap.size]? = some (.cells #[.slice a4 q c4, .slice q3 n3 c3] 27 (0, 0)) := heap_alloc_new w4 _
    have HB5 := Lib.hid (HB4.out.trans (hb5.mono HB4.out.size))
    have HO4 := Lib.hid ho4
    have hs5 : w3.heap.size ≤ w4.heap.size := (HAL.out.trans hb4).size
    obtain ⟨m0, m1, g0, g1⟩ := two_cells hM5
    obtain ⟨z0, z1, hZ⟩ := two_put hM5 (.slice none 0 0) (.slice none 0 0)
    clear hZ
    clear hM5 hH5 hb4 hb5 ho4 e0 e1
    go_wp2_with fail
    (try simp only [Exit.inBlock, Exit.then])
    refine bodyPost_ret (by simp [results, Try.results41, go_sem, z0, z1]; try rfl) rfl ?_
    exact ⟨_, rfl, no_hel (by simp; have := HB5.out.size; omega), (HB5.out.setCell (Nat.le_refl _) _).setCell (Nat.le_refl _) _⟩
theorem decOk_are {y : List Int} (h : decOk y = true) : areX (decL y) = true := by
  unfold decOk at h
  cases e : decX y with
  | none => rw [e] at h; cases h
  | some l => rw [(dec_some e).1]; exact (decX_iff.1 e).1
set_option maxHeartbeats 1000000 in
set_option maxRecDepth 100000 in
theorem specReadHello_old {b : Option Addr} {m d : Nat} {y : List Int} {w : World} (hv : Nums .i64 w b m y) (hd : m ≤ d ∧ (d : Int) ≤ 9223372036854775807) (hm : m ≤ 1048576) (h0 : 0 < m) {q : Nat} (hz : y[0]? = some (q : Int)) (hq1 : 1 ≤ q) (hq : 1 + q ≤ m) (hdo : decOk (y.drop (1 + q)) = true) (hih : isH ⟨y.tail.take q, decL (y.drop (1 + q))⟩ = false) :
    Calls Try.prog 41 #[.slice b m d] w (MadeHelB w.heap.size ⟨[], []⟩ false w) := by
  have hb0 := alloc_same w (.cells #[.slice none 0 0, .slice none 0 0] 27)
  have hM : (w.alloc (.cells #[.slice none 0 0, .slice none 0 0] 27)).heap[w.heap.size]? = some (.cells #[.slice none 0 0, .slice none 0 0] 27 (0, 0)) := heap_alloc_new w _
  have hlt : w.heap.size < (w.alloc (.cells #[.slice none 0 0, .slice none 0 0] 27)).heap.size := by simp
  have HB := Lib.hid hb0
  have HM := Lib.hid hM
  obtain ⟨ad, z', rfl, hy0, hc0⟩ := (hv.same hb0).at_ (j := 0) (by omega)
  obtain rfl : (q : Int) = z' := by rw [hz] at hy0; cases hy0; rfl
  rw [addr_none] at hc0
  have hm0 : ((m : Int) == 0) = false := by simp; omega
  have hI1 : (0 : Int) < (m : Int) := by omega
  have hI9 : (m : Int) ≤ 1048576 := by omega
  have K := Lib.hid (fun w0 => l1R_t (n := (q : Int)) (l := 1) (h := (m : Int) - 1) (x := true) (decide_eq_true (by omega)) w0)
  have hdm := hd.1
  have hI2 : (0 : Int) ≤ 1 + (q : Int) := by omega
  have hI3 : (1 : Int) ≤ 1 + (q : Int) := by omega
  have hI4 : 1 + (q : Int) ≤ (m : Int) := by omega
  have hI6 : 1 + (q : Int) ≤ (d : Int) := by omega
  have hI5 : IntKind.i64.wrap (1 + (q : Int)) = 1 + (q : Int) := IntWalk.i64_in _ ⟨by omega, by omega⟩
  have hE1 : (1 + (q : Int)).toNat = 1 + q := by omega
  have HY := Lib.hid hv
  have KD := Lib.hid (fun (a0 : Option Addr) (d0 : Nat) (h0 : m - (1 + q) ≤ d0 ∧ (d0 : Int) ≤ 9223372036854775807) (ha : 0 < m - (1 + q) → ∀ ad', some ad = some ad' → a0 = some (ad'.add (1 + q))) => specDecodeExts_any (b := a0) (m := m - (1 + q)) (d := d0) (y := y.drop (1 + q)) (w := (w.alloc (.cells #[.slice none 0 0, .slice none 0 0] 27))) ((hv.same hb0).sub_all (1 + q) hq ha) h0 (by omega))
  unfold DxTold at KD
  rw [hdo] at KD
  have HC0 := Lib.hid hc0
  have HCV := Lib.hid (fun (w9 : World) (h9 : Below (w.alloc (.cells #[.slice none 0 0, .slice none 0 0] 27)).heap.size (w.alloc (.cells #[.slice none 0 0, .slice none 0 0] 27)) w9) => cell_stay hc0 h9)
  clear hb0 hM hv hy0 hz
  go_enter Try.func41, Try.ntmps41
  by_cases hcap : d = 1 + q
  · have KE := Lib.hid (KD.out (some ad) 0 (by omega) (fun h => by omega))
    go_wp2_with (go_at_call 81; refine (K.out _).mono ?_; rintro e9 w9 ⟨rfl, rfl⟩)
    have hcl := HCV.out
    generalize (w.alloc (.cells #[.slice none 0 0, .slice none 0 0] 27)) = W1 at *
    refine KE.out.mono ?_
    rintro e w3 ⟨q3, n3, c3, rfl, ho3, hb3⟩
    have HM3 := Lib.hid ((hb3.block w.heap.size hlt).trans HM.out)
    have HB3 := Lib.hid (HB.out.trans (hb3.mono HB.out.size))
    have HO3 := Lib.hid ho3
    have hs3 := hb3.size
    have e0 := cell_stay HC0.out hb3
    have e1 := cell_stay e0 (alloc_same w3 (.cells #[] 3))
    obtain ⟨i0, hi, hz0, hz1, hz2⟩ := info_parts infoIntS
    have HI := Lib.hid (And.intro hi (And.intro hz0 (And.intro hz1 hz2)))
    have HAL := Lib.hid (alloc_same w3 (.cells #[] 3))
    have HOE : Hid (Own .i64 3 (w3.alloc (.cells #[] 3)) w3.heap.size (some ⟨w3.heap.size, 0, none⟩) 0 0 []) := Lib.hid (Own.empty (Nat.le_refl _))
    have HNV : Hid (Nums .i64 (w3.alloc (.cells #[] 3)) (some (ad.add 1)) q ((y.drop 1).take q)) := Lib.hid (((HY.out.same HB3.out).same (alloc_same w3 _ |>.mono (Nat.le_refl _))).sub 1 q (by omega) (fun _ ad2 e => by cases e; rfl))
    have hs4 : w3.heap.size ≤ (w3.alloc (.cells #[] 3)).heap.size := by simp
    have hd1 : ¬ d = 1 := by omega
    clear hi hz0 hz1 hz2 ho3 hb3 hcl KE KD HCV hc0 hcap
    go_wp2_with (at_builtin; refine wpl_app _ rfl (.tmp 31) (.tmp 37) 24 rfl .i64 3 i0 (.int .i64 0) 8 Try.underlying24 HI.out.1 HI.out.2.1 HI.out.2.2.1 HI.out.2.2.2 rfl rfl HOE.out rfl HNV.out (by omega) ?c1 ?c2 ?_)
    case c1 => omega
    case c2 => exact hs4
    intro a4 c4 w4 ho4 hb4
    have HB4 := Lib.hid (HB3.out.trans ((HAL.out.trans hb4).mono HB3.out.size))
    have hb5 := alloc_same w4 (.cells #[.slice a4 q c4, .slice q3 n3 c3] 27)
    have hM5 := (hb5.block w.heap.size (by have := hb4.size; omega)).trans (((HAL.out.trans hb4).block w.heap.size (by omega)).trans HM3.out)
    have hH5 : (w4.alloc (.cells #[.slice a4 q c4, .slice q3 n3 c3] 27)).heap[w4.heap.size]? = some (.cells #[.slice a4 q c4, .slice q3 n3 c3] 27 (0, 0)) := heap_alloc_new w4 _
    have HB5 := Lib.hid (HB4.out.trans (hb5.mono HB4.out.size))
    have HO4 := Lib.hid ho4
    have hs5 : w3.heap.size ≤ w4.heap.size := (HAL.out.trans hb4).size
    have KH := Lib.hid (specIsHello_any (HelW.of (c := c4) (d := c3) (ho4.nums.same hb5) ((HO3.out.vals.same (HAL.out.trans hb4)).same hb5) ho4.room HO3.out.room))
    rw [hih] at KH
    have hs6 := hb5.size
    have HM5 := Lib.hid hM5
    have HH5 := Lib.hid hH5
    have HX5 := Lib.hid (own_hel (B := W1.heap.size) ho4 (HO3.out.lim.same (HAL.out.trans hb4)) ho4.span (by omega) (Nat.le_refl _) (Nat.le_refl _) (by omega) (Or.inr (Nat.le_refl _)) (Nat.le_refl _) |>.same hb5)
    have hlt5 : w4.heap.size < (w4.alloc (.cells #[.slice a4 q c4, .slice q3 n3 c3] 27)).heap.size := by simp
    have hlw : w.heap.size < w4.heap.size := by omega
    obtain ⟨x0, x1, _, _⟩ := two_cells hH5
    clear hM5 hH5 hb4 hb5 ho4 e0 e1
    go_wp2_with fail
    generalize (w4.alloc (.cells #[.slice a4 q c4, .slice q3 n3 c3] 27)) = W5 at *
    refine KH.out.mono ?_
    rintro e w6 ⟨rfl, hb6⟩
    have hM6 := (hb6.block w.heap.size (by omega)).trans HM5.out
    have HB6 := Lib.hid (HB5.out.trans (hb6.mono HB5.out.size))
    obtain ⟨m0, m1, g0, g1⟩ := two_cells hM6
    obtain ⟨z0, z1, hZ⟩ := two_put hM6 (.slice none 0 0) (.slice none 0 0)
    clear hZ
    clear hM6 hb6 x0 x1
    go_wp2_with fail
    (try simp only [Exit.inBlock, Exit.then])
    refine bodyPost_ret (by simp [results, Try.results41, go_sem, z0, z1]; try rfl) rfl ?_
    exact ⟨_, rfl, no_hel (by simp; have := HB6.out.size; omega), (HB6.out.setCell (Nat.le_refl _) _).setCell (Nat.le_refl _) _⟩
  · have KE := Lib.hid (KD.out (some (ad.add (1 + q))) (d - (1 + q)) (by omega) (fun _ ad2 e => by cases e; rfl))
    go_wp2_with (go_at_call 81; refine (K.out _).mono ?_; rintro e9 w9 ⟨rfl, rfl⟩)
    have hcl := HCV.out
    generalize (w.alloc (.cells #[.slice none 0 0, .slice none 0 0] 27)) = W1 at *
    refine KE.out.mono ?_
    rintro e w3 ⟨q3, n3, c3, rfl, ho3, hb3⟩
    have HM3 := Lib.hid ((hb3.block w.heap.size hlt).trans HM.out)
    have HB3 := Lib.hid (HB.out.trans (hb3.mono HB.out.size))
    have HO3 := Lib.hid ho3
    have hs3 := hb3.size
    have e0 := cell_stay HC0.out hb3
    have e1 := cell_stay e0 (alloc_same w3 (.cells #[] 3))
    obtain ⟨i0, hi, hz0, hz1, hz2⟩ := info_parts infoIntS
    have HI := Lib.hid (And.intro hi (And.intro hz0 (And.intro hz1 hz2)))
    have HAL := Lib.hid (alloc_same w3 (.cells #[] 3))
    have HOE : Hid (Own .i64 3 (w3.alloc (.cells #[] 3)) w3.heap.size (some ⟨w3.heap.size, 0, none⟩) 0 0 []) := Lib.hid (Own.empty (Nat.le_refl _))
    have HNV : Hid (Nums .i64 (w3.alloc (.cells #[] 3)) (some (ad.add 1)) q ((y.drop 1).take q)) := Lib.hid (((HY.out.same HB3.out).same (alloc_same w3 _ |>.mono (Nat.le_refl _))).sub 1 q (by omega) (fun _ ad2 e => by cases e; rfl))
    have hs4 : w3.heap.size ≤ (w3.alloc (.cells #[] 3)).heap.size := by simp
    have hd1 : ¬ d = 1 := by omega
    clear hi hz0 hz1 hz2 ho3 hb3 hcl KE KD HCV hc0 hcap
    go_wp2_with (at_builtin; refine wpl_app _ rfl (.tmp 31) (.tmp 37) 24 rfl .i64 3 i0 (.int .i64 0) 8 Try.underlying24 HI.out.1 HI.out.2.1 HI.out.2.2.1 HI.out.2.2.2 rfl rfl HOE.out rfl HNV.out (by omega) ?c1 ?c2 ?_)
    case c1 => omega
    case c2 => exact hs4
    intro a4 c4 w4 ho4 hb4
    have HB4 := Lib.hid (HB3.out.trans ((HAL.out.trans hb4).mono HB3.out.size))
    have hb5 := alloc_same w4 (.cells #[.slice a4 q c4, .slice q3 n3 c3] 27)
    have hM5 := (hb5.block w.heap.size (by have := hb4.size; omega)).trans (((HAL.out.trans hb4).block w.heap.size (by omega)).trans HM3.out)
    have hH5 : (w4.alloc (.cells #[.slice a4 q c4, .slice q3 n3 c3] 27)).heap[w4.heap.size]? = some (.cells #[.slice a4 q c4, .slice q3 n3 c3] 27 (0, 0)) := heap_alloc_new w4 _
    have HB5 := Lib.hid (HB4.out.trans (hb5.mono HB4.out.size))
    have HO4 := Lib.hid ho4
    have hs5 : w3.heap.size ≤ w4.heap.size := (HAL.out.trans hb4).size
    have KH := Lib.hid (specIsHello_any (HelW.of (c := c4) (d := c3) (ho4.nums.same hb5) ((HO3.out.vals.same (HAL.out.trans hb4)).same hb5) ho4.room HO3.out.room))
    rw [hih] at KH
    have hs6 := hb5.size
    have HM5 := Lib.hid hM5
    have HH5 := Lib.hid hH5
    have HX5 := Lib.hid (own_hel (B := W1.heap.size) ho4 (HO3.out.lim.same (HAL.out.trans hb4)) ho4.span (by omega) (Nat.le_refl _) (Nat.le_refl _) (by omega) (Or.inr (Nat.le_refl _)) (Nat.le_refl _) |>.same hb5)
    have hlt5 : w4.heap.size < (w4.alloc (.cells #[.slice a4 q c4, .slice q3 n3 c3] 27)).heap.size := by simp
    have hlw : w.heap.size < w4.heap.size := by omega
    obtain ⟨x0, x1, _, _⟩ := two_cells hH5
    clear hM5 hH5 hb4 hb5 ho4 e0 e1
    go_wp2_with fail
    generalize (w4.alloc (.cells #[.slice a4 q c4, .slice q3 n3 c3] 27)) = W5 at *
    refine KH.out.mono ?_
    rintro e w6 ⟨rfl, hb6⟩
    have hM6 := (hb6.block w.heap.size (by omega)).trans HM5.out
    have HB6 := Lib.hid (HB5.out.trans (hb6.mono HB5.out.size))
    obtain ⟨m0, m1, g0, g1⟩ := two_cells hM6
    obtain ⟨z0, z1, hZ⟩ := two_put hM6 (.slice none 0 0) (.slice none 0 0)
    clear hZ
    clear hM6 hb6 x0 x1
    go_wp2_with fail
    (try simp only [Exit.inBlock, Exit.then])
    refine bodyPost_ret (by simp [results, Try.results41, go_sem, z0, z1]; try rfl) rfl ?_
    exact ⟨_, rfl, no_hel (by simp; have := HB6.out.size; omega), (HB6.out.setCell (Nat.le_refl _) _).setCell (Nat.le_refl _) _⟩
set_option maxHeartbeats 1000000 in
set_option maxRecDepth 100000 in
theorem specReadHello_yes {b : Option Addr} {m d : Nat} {y : List Int} {w : World} (hv : Nums .i64 w b m y) (hd : m ≤ d ∧ (d : Int) ≤ 9223372036854775807) (hm : m ≤ 1048576) (h0 : 0 < m) {q : Nat} (hz : y[0]? = some (q : Int)) (hq1 : 1 ≤ q) (hq : 1 + q ≤ m) (hdo : decOk (y.drop (1 + q)) = true) (hih : isH ⟨y.tail.take q, decL (y.drop (1 + q))⟩ = true) :
    Calls Try.prog 41 #[.slice b m d] w (MadeHelB w.heap.size ⟨y.tail.take q, decL (y.drop (1 + q))⟩ true w) := by
  have hb0 := alloc_same w (.cells #[.slice none 0 0, .slice none 0 0] 27)
  have hM : (w.alloc (.cells #[.slice none 0 0, .slice none 0 0] 27)).heap[w.heap.size]? = some (.cells #[.slice none 0 0, .slice none 0 0] 27 (0, 0)) := heap_alloc_new w _
  have hlt : w.heap.size < (w.alloc (.cells #[.slice none 0 0, .slice none 0 0] 27)).heap.size := by simp
  have HB := Lib.hid hb0
  have HM := Lib.hid hM
  obtain ⟨ad, z', rfl, hy0, hc0⟩ := (hv.same hb0).at_ (j := 0) (by omega)
  obtain rfl : (q : Int) = z' := by rw [hz] at hy0; cases hy0; rfl
  rw [addr_none] at hc0
  have hm0 : ((m : Int) == 0) = false := by simp; omega
  have hI1 : (0 : Int) < (m : Int) := by omega
  have hI9 : (m : Int) ≤ 1048576 := by omega
  have K := Lib.hid (fun w0 => l1R_t (n := (q : Int)) (l := 1) (h := (m : Int) - 1) (x := true) (decide_eq_true (by omega)) w0)
  have hdm := hd.1
  have hI2 : (0 : Int) ≤ 1 + (q : Int) := by omega
  have hI3 : (1 : Int) ≤ 1 + (q : Int) := by omega
  have hI4 : 1 + (q : Int) ≤ (m : Int) := by omega
  have hI6 : 1 + (q : Int) ≤ (d : Int) := by omega
  have hI5 : IntKind.i64.wrap (1 + (q : Int)) = 1 + (q : Int) := IntWalk.i64_in _ ⟨by omega, by omega⟩
  have hE1 : (1 + (q : Int)).toNat = 1 + q := by omega
  have HY := Lib.hid hv
  have KD := Lib.hid (fun (a0 : Option Addr) (d0 : Nat) (h0 : m - (1 + q) ≤ d0 ∧ (d0 : Int) ≤ 9223372036854775807) (ha : 0 < m - (1 + q) → ∀ ad', some ad = some ad' → a0 = some (ad'.add (1 + q))) => specDecodeExts_any (b := a0) (m := m - (1 + q)) (d := d0) (y := y.drop (1 + q)) (w := (w.alloc (.cells #[.slice none 0 0, .slice none 0 0] 27))) ((hv.same hb0).sub_all (1 + q) hq ha) h0 (by omega))
  unfold DxTold at KD
  rw [hdo] at KD
  have HC0 := Lib.hid hc0
  have HCV := Lib.hid (fun (w9 : World) (h9 : Below (w.alloc (.cells #[.slice none 0 0, .slice none 0 0] 27)).heap.size (w.alloc (.cells #[.slice none 0 0, .slice none 0 0] 27)) w9) => cell_stay hc0 h9)
  clear hb0 hM hv hy0 hz
  go_enter Try.func41, Try.ntmps41
  by_cases hcap : d = 1 + q
  · have KE := Lib.hid (KD.out (some ad) 0 (by omega) (fun h => by omega))
    go_wp2_with (go_at_call 81; refine (K.out _).mono ?_; rintro e9 w9 ⟨rfl, rfl⟩)
    have hcl := HCV.out
    generalize (w.alloc (.cells #[.slice none 0 0, .slice none 0 0] 27)) = W1 at *
    refine KE.out.mono ?_
    rintro e w3 ⟨q3, n3, c3, rfl, ho3, hb3⟩
    have HM3 := Lib.hid ((hb3.block w.heap.size hlt).trans HM.out)
    have HB3 := Lib.hid (HB.out.trans (hb3.mono HB.out.size))
    have HO3 := Lib.hid ho3
    have hs3 := hb3.size
    have e0 := cell_stay HC0.out hb3
    have e1 := cell_stay e0 (alloc_same w3 (.cells #[] 3))
    obtain ⟨i0, hi, hz0, hz1, hz2⟩ := info_parts infoIntS
    have HI := Lib.hid (And.intro hi (And.intro hz0 (And.intro hz1 hz2)))
    have HAL := Lib.hid (alloc_same w3 (.cells #[] 3))
    have HOE : Hid (Own .i64 3 (w3.alloc (.cells #[] 3)) w3.heap.size (some ⟨w3.heap.size, 0, none⟩) 0 0 []) := Lib.hid (Own.empty (Nat.le_refl _))
    have HNV : Hid (Nums .i64 (w3.alloc (.cells #[] 3)) (some (ad.add 1)) q ((y.drop 1).take q)) := Lib.hid (((HY.out.same HB3.out).same (alloc_same w3 _ |>.mono (Nat.le_refl _))).sub 1 q (by omega) (fun _ ad2 e => by cases e; rfl))
    have hs4 : w3.heap.size ≤ (w3.alloc (.cells #[] 3)).heap.size := by simp
    have hd1 : ¬ d = 1 := by omega
    clear hi hz0 hz1 hz2 ho3 hb3 hcl KE KD HCV hc0 hcap
    go_wp2_with (at_builtin; refine wpl_app _ rfl (.tmp 31) (.tmp 37) 24 rfl .i64 3 i0 (.int .i64 0) 8 Try.underlying24 HI.out.1 HI.out.2.1 HI.out.2.2.1 HI.out.2.2.2 rfl rfl HOE.out rfl HNV.out (by omega) ?c1 ?c2 ?_)
    case c1 => omega
    case c2 => exact hs4
    intro a4 c4 w4 ho4 hb4
    have HB4 := Lib.hid (HB3.out.trans ((HAL.out.trans hb4).mono HB3.out.size))
    have hb5 := alloc_same w4 (.cells #[.slice a4 q c4, .slice q3 n3 c3] 27)
    have hM5 := (hb5.block w.heap.size (by have := hb4.size; omega)).trans (((HAL.out.trans hb4).block w.heap.size (by omega)).trans HM3.out)
    have hH5 : (w4.alloc (.cells #[.slice a4 q c4, .slice q3 n3 c3] 27)).heap[w4.heap.size]? = some (.cells #[.slice a4 q c4, .slice q3 n3 c3] 27 (0, 0)) := heap_alloc_new w4 _
    have HB5 := Lib.hid (HB4.out.trans (hb5.mono HB4.out.size))
    have HO4 := Lib.hid ho4
    have hs5 : w3.heap.size ≤ w4.heap.size := (HAL.out.trans hb4).size
    have KH := Lib.hid (specIsHello_any (HelW.of (c := c4) (d := c3) (ho4.nums.same hb5) ((HO3.out.vals.same (HAL.out.trans hb4)).same hb5) ho4.room HO3.out.room))
    rw [hih] at KH
    have hs6 := hb5.size
    have HM5 := Lib.hid hM5
    have HH5 := Lib.hid hH5
    have HX5 := Lib.hid (own_hel (B := W1.heap.size) ho4 (HO3.out.lim.same (HAL.out.trans hb4)) ho4.span (by omega) (Nat.le_refl _) (Nat.le_refl _) (by omega) (Or.inr (Nat.le_refl _)) (Nat.le_refl _) |>.same hb5)
    have hlt5 : w4.heap.size < (w4.alloc (.cells #[.slice a4 q c4, .slice q3 n3 c3] 27)).heap.size := by simp
    have hlw : w.heap.size < w4.heap.size := by omega
    obtain ⟨x0, x1, _, _⟩ := two_cells hH5
    clear hM5 hH5 hb4 hb5 ho4 e0 e1
    go_wp2_with fail
    generalize (w4.alloc (.cells #[.slice a4 q c4, .slice q3 n3 c3] 27)) = W5 at *
    refine KH.out.mono ?_
    rintro e w6 ⟨rfl, hb6⟩
    have hM6 := (hb6.block w.heap.size (by omega)).trans HM5.out
    have HB6 := Lib.hid (HB5.out.trans (hb6.mono HB5.out.size))
    obtain ⟨m0, m1, g0, g1⟩ := two_cells hM6
    obtain ⟨z0, z1, hZ⟩ := two_put hM6 (.slice a4 q c4) (.slice q3 n3 c3)
    obtain ⟨x0, x1, _, _⟩ := two_cells ((hb6.block w4.heap.size hlt5).trans HH5.out)
    have HX6 := Lib.hid (HX5.out.same hb6)
    have hs7 := hb6.size
    clear hM6 hb6 hZ
    go_wp2_with fail
    (try simp only [Exit.inBlock, Exit.then])
    refine bodyPost_ret (by simp [results, Try.results41, go_sem, z0, z1]; try rfl) rfl ?_
    have hfin := ((HX6.out.top (by omega) (Nat.le_refl _)).aside (set2_inside w6 w.heap.size (.slice a4 q c4) (.slice q3 n3 c3)) (Or.inl (by omega))).lower (B' := w.heap.size) (by omega)
    exact ⟨_, rfl, by simpa using hfin, (HB6.out.setCell (Nat.le_refl _) _).setCell (Nat.le_refl _) _⟩
  · have KE := Lib.hid (KD.out (some (ad.add (1 + q))) (d - (1 + q)) (by omega) (fun _ ad2 e => by cases e; rfl))
    go_wp2_with (go_at_call 81; refine (K.out _).mono ?_; rintro e9 w9 ⟨rfl, rfl⟩)
    have hcl := HCV.out
    generalize (w.alloc (.cells #[.slice none 0 0, .slice none 0 0] 27)) = W1 at *
    refine KE.out.mono ?_
    rintro e w3 ⟨q3, n3, c3, rfl, ho3, hb3⟩
    have HM3 := Lib.hid ((hb3.block w.heap.size hlt).trans HM.out)
    have HB3 := Lib.hid (HB.out.trans (hb3.mono HB.out.size))
    have HO3 := Lib.hid ho3
    have hs3 := hb3.size
    have e0 := cell_stay HC0.out hb3
    have e1 := cell_stay e0 (alloc_same w3 (.cells #[] 3))
    obtain ⟨i0, hi, hz0, hz1, hz2⟩ := info_parts infoIntS
    have HI := Lib.hid (And.intro hi (And.intro hz0 (And.intro hz1 hz2)))
    have HAL := Lib.hid (alloc_same w3 (.cells #[] 3))
    have HOE : Hid (Own .i64 3 (w3.alloc (.cells #[] 3)) w3.heap.size (some ⟨w3.heap.size, 0, none⟩) 0 0 []) := Lib.hid (Own.empty (Nat.le_refl _))
    have HNV : Hid (Nums .i64 (w3.alloc (.cells #[] 3)) (some (ad.add 1)) q ((y.drop 1).take q)) := Lib.hid (((HY.out.same HB3.out).same (alloc_same w3 _ |>.mono (Nat.le_refl _))).sub 1 q (by omega) (fun _ ad2 e => by cases e; rfl))
    have hs4 : w3.heap.size ≤ (w3.alloc (.cells #[] 3)).heap.size := by simp
    have hd1 : ¬ d = 1 := by omega
    clear hi hz0 hz1 hz2 ho3 hb3 hcl KE KD HCV hc0 hcap
    go_wp2_with (at_builtin; refine wpl_app _ rfl (.tmp 31) (.tmp 37) 24 rfl .i64 3 i0 (.int .i64 0) 8 Try.underlying24 HI.out.1 HI.out.2.1 HI.out.2.2.1 HI.out.2.2.2 rfl rfl HOE.out rfl HNV.out (by omega) ?c1 ?c2 ?_)
    case c1 => omega
    case c2 => exact hs4
    intro a4 c4 w4 ho4 hb4
    have HB4 := Lib.hid (HB3.out.trans ((HAL.out.trans hb4).mono HB3.out.size))
    have hb5 := alloc_same w4 (.cells #[.slice a4 q c4, .slice q3 n3 c3] 27)
    have hM5 := (hb5.block w.heap.size (by have := hb4.size; omega)).trans (((HAL.out.trans hb4).block w.heap.size (by omega)).trans HM3.out)
    have hH5 : (w4.alloc (.cells #[.slice a4 q c4, .slice q3 n3 c3] 27)).heap[w4.heap.size]? = some (.cells #[.slice a4 q c4, .slice q3 n3 c3] 27 (0, 0)) := heap_alloc_new w4 _
    have HB5 := Lib.hid (HB4.out.trans (hb5.mono HB4.out.size))
    have HO4 := Lib.hid ho4
    have hs5 : w3.heap.size ≤ w4.heap.size := (HAL.out.trans hb4).size
    have KH := Lib.hid (specIsHello_any (HelW.of (c := c4) (d := c3) (ho4.nums.same hb5) ((HO3.out.vals.same (HAL.out.trans hb4)).same hb5) ho4.room HO3.out.room))
    rw [hih] at KH
    have hs6 := hb5.size
    have HM5 := Lib.hid hM5
    have HH5 := Lib.hid hH5
    have HX5 := Lib.hid (own_hel (B := W1.heap.size) ho4 (HO3.out.lim.same (HAL.out.trans hb4)) ho4.span (by omega) (Nat.le_refl _) (Nat.le_refl _) (by omega) (Or.inr (Nat.le_refl _)) (Nat.le_refl _) |>.same hb5)
    have hlt5 : w4.heap.size < (w4.alloc (.cells #[.slice a4 q c4, .slice q3 n3 c3] 27)).heap.size := by simp
    have hlw : w.heap.size < w4.heap.size := by omega
    obtain ⟨x0, x1, _, _⟩ := two_cells hH5
    clear hM5 hH5 hb4 hb5 ho4 e0 e1
    go_wp2_with fail
    generalize (w4.alloc (.cells #[.slice a4 q c4, .slice q3 n3 c3] 27)) = W5 at *
    refine KH.out.mono ?_
    rintro e w6 ⟨rfl, hb6⟩
    have hM6 := (hb6.block w.heap.size (by omega)).trans HM5.out
    have HB6 := Lib.hid (HB5.out.trans (hb6.mono HB5.out.size))
    obtain ⟨m0, m1, g0, g1⟩ := two_cells hM6
    obtain ⟨z0, z1, hZ⟩ := two_put hM6 (.slice a4 q c4) (.slice q3 n3 c3)
    obtain ⟨x0, x1, _, _⟩ := two_cells ((hb6.block w4.heap.size hlt5).trans HH5.out)
    have HX6 := Lib.hid (HX5.out.same hb6)
    have hs7 := hb6.size
    clear hM6 hb6 hZ
    go_wp2_with fail
    (try simp only [Exit.inBlock, Exit.then])
    refine bodyPost_ret (by simp [results, Try.results41, go_sem, z0, z1]; try rfl) rfl ?_
    have hfin := ((HX6.out.top (by omega) (Nat.le_refl _)).aside (set2_inside w6 w.heap.size (.slice a4 q c4) (.slice q3 n3 c3)) (Or.inl (by omega))).lower (B' := w.heap.size) (by omega)
    exact ⟨_, rfl, by simpa using hfin, (HB6.out.setCell (Nat.le_refl _) _).setCell (Nat.le_refl _) _⟩
theorem specReadHello_any {b : Option Addr} {m d : Nat} {y : List Int} {w : World} (hv : Nums .i64 w b m y) (hd : m ≤ d ∧ (d : Int) ≤ 9223372036854775807) (hm : m ≤ 1048576) : Calls Try.prog 41 #[.slice b m d] w (MadeHelB w.heap.size (rdHel y) (rdOk y) w) := by
  have hyl := hv.len
  have no : rdH y = none → Calls Try.prog 41 #[.slice b m d] w (MadeHelB w.heap.size ⟨[], []⟩ false w) → Calls Try.prog 41 #[.slice b m d] w (MadeHelB w.heap.size (rdHel y) (rdOk y) w) := fun e h => by
    rw [(rdH_none e).1, (rdH_none e).2]; exact h
  cases y with
  | nil => exact no rfl (specReadHello_nil hv hd hm hyl.symm)
  | cons z t =>
    have hl : t.length + 1 = m := by rw [← hyl]; rfl
    by_cases hz : 1 ≤ z ∧ z ≤ (m : Int) - 1
    · obtain ⟨q, rfl⟩ : ∃ q : Nat, z = q := ⟨z.toNat, by omega⟩
      have hq : q ≤ t.length := by omega
      have e1 : ((q : Int) :: t).drop (1 + q) = t.drop q := by rw [Nat.add_comm, List.drop_succ_cons]
      have hih : ∀ h : decOk (t.drop q) = true, isH ⟨t.take q, decL (t.drop q)⟩ = areV (t.take q) := fun h => by
        unfold isH
        dsimp only
        rw [decOk_are h, Bool.and_true]
      cases hdo : decOk (t.drop q) with
      | false =>
        have h := specReadHello_odd hv hd hm (by omega) (q := q) rfl (by omega) (by omega) (by rw [e1]; exact hdo)
        cases ha : areV (t.take q) with
        | false => exact no (rdH_old ha) h
        | true => exact no (rdH_at_no hq ha hdo) h
      | true =>
        cases ha : areV (t.take q) with
        | false => exact no (rdH_old ha) (specReadHello_old hv hd hm (by omega) (q := q) rfl (by omega) (by omega) (by rw [e1]; exact hdo) (by rw [e1]; exact (hih hdo).trans ha))
        | true =>
          have e := rdH_some (rdH_at_yes hq ha hdo)
          rw [e.1, e.2]
          have h := specReadHello_yes hv hd hm (by omega) (q := q) rfl (by omega) (by omega) (by rw [e1]; exact hdo) (by rw [e1]; exact (hih hdo).trans ha)
          rw [e1] at h
          exact h
    · refine no ?_ (specReadHello_out hv hd hm (by omega) (z := z) rfl hz)
      by_cases h0 : z = 0
      · subst h0; exact rdH_zero
      · exact rdH_out (by omega)
end Go.Proofs.Ytcpnchjgklemgaa
namespace Go.Proofs.Ytcpnchjgklemgaa
open Go.ChangeShapes Go.WideShapes Go.ChangeAt Go.RowKit
set_option linter.unusedVariables false
set_option linter.unusedSimpArgs false

set_option maxHeartbeats 4000000 in
set_option maxRecDepth 100000 in
theorem specKnownOf_any {a b : Option Addr} {n c m d : Nat} {l : List Vl} {ts : List Int} {w : World} (h : Vals w a n l) (h' : Nums .i64 w b m ts) (hn : n ≤ 1048576) (hit : itemsOf l ≤ 1048576) :
    Calls Try.prog 89 #[.slice a n c, .slice b m d] w (MadeV 99 3 w.heap.size (knownOf l ts) w) := by
  have H := Lib.hid h
  have HT := Lib.hid h'
  have hln := Lib.hid h.len
  obtain ⟨i0, hi, hz0, hz1, hz2⟩ := info_parts infoExtS
  have HI := Lib.hid (And.intro hi (And.intro hz0 (And.intro hz1 hz2)))
  obtain ⟨i1, ki, kz0, kz1, kz2⟩ := info_parts infoIntS
  have HJ := Lib.hid (And.intro ki (And.intro kz0 (And.intro kz1 kz2)))
  clear h h' hi hz0 hz1 hz2 ki kz0 kz1 kz2
  have HO : Hid (OwnV 99 3 (w.alloc (.cells #[] 99)) w.heap.size (some ⟨w.heap.size, 0, none⟩) 0 0 (knownOf (l.take 0) ts)) := Lib.hid (OwnV.empty (Nat.le_refl _))
  go_enter Try.func89, Try.ntmps89
  go_wp2_with fail
  go_loopw [5, 6] (fun v i wr => ∃ (j : Nat) (q : Option Addr) (r e : Nat), j ≤ n ∧ i = .int .i64 j ∧ v = .slice q r e ∧ OwnV 99 3 wr w.heap.size q r e (knownOf (l.take j) ts) ∧ Below w.heap.size w wr) (fun _ i _ => n - (intOf i).toNat)
  case atStart => exact ⟨0, _, _, _, Nat.zero_le _, rfl, rfl, HO.out, alloc_same _ _⟩
  case round =>
    obtain ⟨j, q, r, e, hj, rfl, rfl, hown, hb⟩ := hrel
    have HO2 := Lib.hid hown
    have HB2 := Lib.hid hb
    clear hown hb
    by_cases hlt : j < n
    · obtain ⟨bb, o, p, pm, pd, k, y, rfl, hx, hd0, hd1, hN, hr⟩ := H.out.at_ hlt
      have hsz := HB2.out.size
      have hym := hN.len
      have hyi := itemsOf_mem hx
      dsimp only at hyi
      have hrl : r ≤ 1048576 := by
        have h1 := HO2.out.len
        have h2 := known_few (l.take j) ts
        rw [List.length_take] at h2
        omega
      have hpm : pm ≤ 1048576 := by omega
      have HSK : Hid (∀ w9, Below w.heap.size w w9 → w9.cell? ⟨bb, o + j * 2, none⟩ = some (.int .i64 k) ∧ w9.cell? ⟨bb, o + j * 2 + 1, none⟩ = some (.slice p pm pd)) := Lib.hid (fun w9 h9 => ⟨cell_stay hd0 h9, cell_stay hd1 h9⟩)
      obtain ⟨hc0, hc1⟩ := HSK.out wr HB2.out
      have HN := Lib.hid (fun w9 (h9 : Below w.heap.size w w9) => hN.same h9)
      have KH := Lib.hid (l9Has_any (c := d) k (HT.out.same HB2.out))
      by_cases hk : k ∈ ts
      · have HK : Hid (knownOf (l.take (j + 1)) ts = knownOf (l.take j) ts ++ [⟨k, y⟩]) := Lib.hid (known_yes hx hk)
        rw [decide_eq_true hk] at KH
        clear hx hN hk hd0 hd1 hym hyi
        have HBd : Hid (Below w.heap.size w wr.drew) := Lib.hid HB2.out.drew
        have HQ : Hid (Below wr.heap.size wr (wr.alloc (.cells #[] 3)).drew) := Lib.hid (alloc_same _ _).drew
        have HBQ : Hid (Below w.heap.size w (wr.alloc (.cells #[] 3)).drew) := Lib.hid (HB2.out.trans (HQ.out.mono hsz))
        have HOQ : Hid (Own .i64 3 (wr.alloc (.cells #[] 3)).drew wr.heap.size (some ⟨wr.heap.size, 0, none⟩) 0 0 []) := Lib.hid ((Own.empty (Nat.le_refl _)).same (Below.refl _ _).drew)
        have hs2 : wr.heap.size ≤ (wr.alloc (.cells #[] 3)).drew.heap.size := HQ.out.size
        go_wp2_with (go_at_call 94; refine KH.out.mono ?_; rintro e9 w9 ⟨rfl, rfl⟩)
        go_region_held3 (fun w9 => w9.cell? ⟨bb, o + j * 2, none⟩ = some (.int .i64 k) ∧ w9.cell? ⟨bb, o + j * 2 + 1, none⟩ = some (.slice p pm pd)) (first | exact HSK.out _ HBd.out | exact HSK.out _ HBQ.out | exact HSK.out _ HB3.out | exact HSK.out _ HB4.out | exact HSK.out _ HB5.out) ((first | (refine step_app_g _ (by rfl) (.tmp 27) (.tmp 32) 24 (by rfl) .i64 3 i1 (.int .i64 0) 8 Try.underlying24 HJ.out.1 HJ.out.2.1 HJ.out.2.2.1 HJ.out.2.2.2 rfl (by rfl) HOQ.out (by rfl) (HN.out _ HBQ.out) (by omega) (by omega) hs2 ?_; intro a3 c3 w3 ho3 hg3 hl3; have HO3 := Lib.hid ho3; have HQ3 : Hid (Below wr.heap.size wr w3) := Lib.hid (grown_to hg3 HQ.out HOQ.out.span (Nat.le_refl _) hs2); have HB3 : Hid (Below w.heap.size w w3) := Lib.hid (HB2.out.trans (HQ3.out.mono hsz)); have hs3 := HQ3.out.size; have HB4 : Hid (Below w.heap.size w (w3.alloc (.cells #[.int .i64 k, .slice a3 pm c3] 99))) := Lib.hid (HB3.out.alloc HB3.out.size _); have HNN : Hid (Items Vh.enc 2 (w3.alloc (.cells #[.int .i64 k, .slice a3 pm c3] 99)) (some ⟨w3.heap.size, 0, none⟩) 1 [⟨k, a3, pm, c3⟩]) := Lib.hid (items_new Vh.enc_len w3 ⟨k, a3, pm, c3⟩ 99); have HO4 : Hid (Own .i64 3 (w3.alloc (.cells #[.int .i64 k, .slice a3 pm c3] 99)) w.heap.size a3 pm c3 y) := Lib.hid (by have h9 := (ho3.lower hsz).alloc (.cells #[.int .i64 k, .slice a3 pm c3] 99); rw [Nat.zero_add] at h9; exact h9); clear ho3 hg3 hl3) | (refine step_appV (S := wr.heap.size) (B := w.heap.size) _ (by rfl) (.tmp 21) (.tmp 35) 25 (by rfl) 99 3 i0 (.agg #[.int .i64 0, .slice none 0 0]) 32 Try.underlying25 HI.out.1 HI.out.2.1 HI.out.2.2.1 HI.out.2.2.2 rfl (by rfl) ((HO2.out.lim.same HQ3.out).same (alloc_same _ _)) (by rfl) HNN.out HO4.out (fun ad e => (HO3.out.span ad e).1) (by omega) (by omega) (by simp; omega) ?_; intro a5 c5 w5 ho5 hb5; have HO5 := Lib.hid ho5; have HB5 : Hid (Below w.heap.size w w5) := Lib.hid (HB4.out.trans hb5); clear ho5 hb5)))
        go_wp2_with fail
        go_roundw
        case rel => exact ⟨j + 1, a5, _, c5, by omega, by go_num, rfl, by rw [HK.out]; exact HO5.out, HB5.out⟩
        case measure => simp [intOf]; omega
      · have HK : Hid (knownOf (l.take (j + 1)) ts = knownOf (l.take j) ts) := Lib.hid (known_no hx hk)
        rw [decide_eq_false hk] at KH
        clear hx hN hk hd0 hd1 hym hyi
        go_wp2_with (go_at_call 94; refine KH.out.mono ?_; rintro e9 w9 ⟨rfl, rfl⟩)
        go_roundw
        case rel => exact ⟨j + 1, q, r, e, by omega, by go_num, rfl, by rw [HK.out]; exact HO2.out, HB2.out⟩
        case measure => simp [intOf]; omega
    · obtain rfl : j = n := by omega
      go_wp2
      go_ret
      have h1 := HO2.out
      rw [List.take_of_length_le (by rw [hln.out]; omega)] at h1
      exact ⟨_, _, _, rfl, h1, HB2.out⟩
end Go.Proofs.Ytcpnchjgklemgaa
namespace Go.Proofs.Ytcpnchjgklemgaa
open Go.ChangeShapes Go.WideShapes Go.ChangeAt Go.RowKit
set_option linter.unusedVariables false
set_option linter.unusedSimpArgs false

set_option maxHeartbeats 4000000 in
set_option maxRecDepth 100000 in
theorem specStripGrease_any {a : Option Addr} {n c : Nat} {l : List Vl} {w : World} (h : Vals w a n l) (hn : n ≤ 1048576) (hit : itemsOf l ≤ 1048576) :
    Calls Try.prog 88 #[.slice a n c] w (MadeV 99 3 w.heap.size (strX l) w) := by
  have H := Lib.hid h
  have hln := Lib.hid h.len
  obtain ⟨i0, hi, hz0, hz1, hz2⟩ := info_parts infoExtS
  have HI := Lib.hid (And.intro hi (And.intro hz0 (And.intro hz1 hz2)))
  obtain ⟨i1, ki, kz0, kz1, kz2⟩ := info_parts infoIntS
  have HJ := Lib.hid (And.intro ki (And.intro kz0 (And.intro kz1 kz2)))
  clear h hi hz0 hz1 hz2 ki kz0 kz1 kz2
  have HO : Hid (OwnV 99 3 (w.alloc (.cells #[] 99)) w.heap.size (some ⟨w.heap.size, 0, none⟩) 0 0 (strX (l.take 0))) := Lib.hid (OwnV.empty (Nat.le_refl _))
  go_enter Try.func88, Try.ntmps88
  go_wp2_with fail
  go_loopw [3, 4] (fun v i wr => ∃ (j : Nat) (q : Option Addr) (r e : Nat), j ≤ n ∧ i = .int .i64 j ∧ v = .slice q r e ∧ OwnV 99 3 wr w.heap.size q r e (strX (l.take j)) ∧ Below w.heap.size w wr) (fun _ i _ => n - (intOf i).toNat)
  case atStart => exact ⟨0, _, _, _, Nat.zero_le _, rfl, rfl, HO.out, alloc_same _ _⟩
  case round =>
    obtain ⟨j, q, r, e, hj, rfl, rfl, hown, hb⟩ := hrel
    have HO2 := Lib.hid hown
    have HB2 := Lib.hid hb
    clear hown hb
    by_cases hlt : j < n
    · obtain ⟨bb, o, p, pm, pd, k, y, rfl, hx, hd0, hd1, hN, hr⟩ := H.out.at_ hlt
      have hsz := HB2.out.size
      have hym := hN.len
      have hyi := itemsOf_mem hx
      dsimp only at hyi
      have hrl : r ≤ 1048576 := by
        have h1 := HO2.out.len
        have h2 := strX_few (l.take j)
        rw [List.length_take] at h2
        omega
      have hpm : pm ≤ 1048576 := by omega
      have HSK : Hid (∀ w9, Below w.heap.size w w9 → w9.cell? ⟨bb, o + j * 2, none⟩ = some (.int .i64 k) ∧ w9.cell? ⟨bb, o + j * 2 + 1, none⟩ = some (.slice p pm pd)) := Lib.hid (fun w9 h9 => ⟨cell_stay hd0 h9, cell_stay hd1 h9⟩)
      obtain ⟨hc0, hc1⟩ := HSK.out wr HB2.out
      have HN := Lib.hid (fun w9 (h9 : Below w.heap.size w w9) => hN.same h9)
      have KH := Lib.hid ((specIsReserved_any k wr).mono fun e9 w9 ⟨q1, q2⟩ => (⟨q1, q2.symm⟩ : e9 = Ending.returned (.bool (resv k)) ∧ wr = w9))
      by_cases hk : resv k = false
      · have HK : Hid (strX (l.take (j + 1)) = strX (l.take j) ++ [⟨k, y⟩]) := Lib.hid (wh_yes hx (by dsimp only; rw [hk]; rfl))
        rw [hk] at KH
        clear hx hN hk hd0 hd1 hym hyi
        have HBd : Hid (Below w.heap.size w wr.drew) := Lib.hid HB2.out.drew
        have HQ : Hid (Below wr.heap.size wr (wr.alloc (.cells #[] 3)).drew) := Lib.hid (alloc_same _ _).drew
        have HBQ : Hid (Below w.heap.size w (wr.alloc (.cells #[] 3)).drew) := Lib.hid (HB2.out.trans (HQ.out.mono hsz))
        have HOQ : Hid (Own .i64 3 (wr.alloc (.cells #[] 3)).drew wr.heap.size (some ⟨wr.heap.size, 0, none⟩) 0 0 []) := Lib.hid ((Own.empty (Nat.le_refl _)).same (Below.refl _ _).drew)
        have hs2 : wr.heap.size ≤ (wr.alloc (.cells #[] 3)).drew.heap.size := HQ.out.size
        go_wp2_with (go_at_call 93; refine KH.out.mono ?_; rintro e9 w9 ⟨rfl, rfl⟩)
        go_region_held3 (fun w9 => w9.cell? ⟨bb, o + j * 2, none⟩ = some (.int .i64 k) ∧ w9.cell? ⟨bb, o + j * 2 + 1, none⟩ = some (.slice p pm pd)) (first | exact HSK.out _ HBd.out | exact HSK.out _ HBQ.out | exact HSK.out _ HB3.out | exact HSK.out _ HB4.out | exact HSK.out _ HB5.out) ((first | (refine step_app_g _ (by rfl) (.tmp 25) (.tmp 30) 24 (by rfl) .i64 3 i1 (.int .i64 0) 8 Try.underlying24 HJ.out.1 HJ.out.2.1 HJ.out.2.2.1 HJ.out.2.2.2 rfl (by rfl) HOQ.out (by rfl) (HN.out _ HBQ.out) (by omega) (by omega) hs2 ?_; intro a3 c3 w3 ho3 hg3 hl3; have HO3 := Lib.hid ho3; have HQ3 : Hid (Below wr.heap.size wr w3) := Lib.hid (grown_to hg3 HQ.out HOQ.out.span (Nat.le_refl _) hs2); have HB3 : Hid (Below w.heap.size w w3) := Lib.hid (HB2.out.trans (HQ3.out.mono hsz)); have hs3 := HQ3.out.size; have HB4 : Hid (Below w.heap.size w (w3.alloc (.cells #[.int .i64 k, .slice a3 pm c3] 99))) := Lib.hid (HB3.out.alloc HB3.out.size _); have HNN : Hid (Items Vh.enc 2 (w3.alloc (.cells #[.int .i64 k, .slice a3 pm c3] 99)) (some ⟨w3.heap.size, 0, none⟩) 1 [⟨k, a3, pm, c3⟩]) := Lib.hid (items_new Vh.enc_len w3 ⟨k, a3, pm, c3⟩ 99); have HO4 : Hid (Own .i64 3 (w3.alloc (.cells #[.int .i64 k, .slice a3 pm c3] 99)) w.heap.size a3 pm c3 y) := Lib.hid (by have h9 := (ho3.lower hsz).alloc (.cells #[.int .i64 k, .slice a3 pm c3] 99); rw [Nat.zero_add] at h9; exact h9); clear ho3 hg3 hl3) | (refine step_appV (S := wr.heap.size) (B := w.heap.size) _ (by rfl) (.tmp 19) (.tmp 33) 25 (by rfl) 99 3 i0 (.agg #[.int .i64 0, .slice none 0 0]) 32 Try.underlying25 HI.out.1 HI.out.2.1 HI.out.2.2.1 HI.out.2.2.2 rfl (by rfl) ((HO2.out.lim.same HQ3.out).same (alloc_same _ _)) (by rfl) HNN.out HO4.out (fun ad e => (HO3.out.span ad e).1) (by omega) (by omega) (by simp; omega) ?_; intro a5 c5 w5 ho5 hb5; have HO5 := Lib.hid ho5; have HB5 : Hid (Below w.heap.size w w5) := Lib.hid (HB4.out.trans hb5); clear ho5 hb5)))
        go_wp2_with fail
        go_roundw
        case rel => exact ⟨j + 1, a5, _, c5, by omega, by go_num, rfl, by rw [HK.out]; exact HO5.out, HB5.out⟩
        case measure => simp [intOf]; omega
      · have hk : resv k = true := by simpa using hk
        have HK : Hid (strX (l.take (j + 1)) = strX (l.take j)) := Lib.hid (wh_no hx (by dsimp only; rw [hk]; rfl))
        rw [hk] at KH
        clear hx hN hk hd0 hd1 hym hyi
        go_wp2_with (go_at_call 93; refine KH.out.mono ?_; rintro e9 w9 ⟨rfl, rfl⟩)
        go_roundw
        case rel => exact ⟨j + 1, q, r, e, by omega, by go_num, rfl, by rw [HK.out]; exact HO2.out, HB2.out⟩
        case measure => simp [intOf]; omega
    · obtain rfl : j = n := by omega
      go_wp2
      go_ret
      have h1 := HO2.out
      rw [List.take_of_length_le (by rw [hln.out]; omega)] at h1
      exact ⟨_, _, _, rfl, h1, HB2.out⟩
end Go.Proofs.Ytcpnchjgklemgaa
