/- How two formats differ: by the program. -/
import Derived.Test.YtjkjnhkamieljaaFst
import Derived.Test.YtjkjnhkamieljaaWi
import Derived.Test.YtjkjnhkamieljaaKeep
namespace Go.Proofs.Ytjkjnhkamieljaa
open Go.ChangeShapes Go.WideShapes Go.ChangeAt Go.RowKit
set_option linter.unusedVariables false

noncomputable def tailOf (l l' : List Fd) : Bool := decide (l.length < l'.length) && within l (l'.take l.length)
noncomputable def same (l l' : List Fd) : Bool := @decide (l = l') (Classical.propDecidable _)
/-- The four checks, by their codes. -/
noncomputable def chk (l l' : List Fd) : Nat → Bool
  | 0 => same l l'
  | 1 => within l l'
  | 2 => tailOf l l'
  | 3 => within l' l
  | _ => true
noncomputable def brOf (l l' : List Fd) : Int := if (isFmt l && isFmt l') = false then 4 else if chk l l' 0 = true then 0 else if chk l l' 1 = true then 1 else if chk l l' 2 = true then 2 else if chk l l' 3 = true then 3 else 4
theorem brOf_at {l l' : List Fd} (h : (isFmt l && isFmt l') = true) {j : Nat} (hj : j ≤ 4) (h0 : ∀ i, i < j → chk l l' i = false) (h1 : chk l l' j = true) : brOf l l' = j := by
  unfold brOf
  rw [if_neg (by rw [h]; decide)]
  rcases (by omega : j = 0 ∨ j = 1 ∨ j = 2 ∨ j = 3 ∨ j = 4) with rfl | rfl | rfl | rfl | rfl
  · rw [if_pos h1]; rfl
  · rw [if_neg (by rw [h0 0 (by omega)]; decide), if_pos h1]; rfl
  · rw [if_neg (by rw [h0 0 (by omega)]; decide), if_neg (by rw [h0 1 (by omega)]; decide), if_pos h1]; rfl
  · rw [if_neg (by rw [h0 0 (by omega)]; decide), if_neg (by rw [h0 1 (by omega)]; decide), if_neg (by rw [h0 2 (by omega)]; decide), if_pos h1]; rfl
  · rw [if_neg (by rw [h0 0 (by omega)]; decide), if_neg (by rw [h0 1 (by omega)]; decide), if_neg (by rw [h0 2 (by omega)]; decide), if_neg (by rw [h0 3 (by omega)]; decide)]; rfl
theorem below_step {P : Nat → Prop} {j : Nat} (h : ∀ i, i < j → P i) (hj : P j) : ∀ i, i < j + 1 → P i := fun i hi => by
  rcases Nat.lt_or_ge i j with h1 | h1
  · exact h i h1
  · obtain rfl : i = j := by omega
    exact hj
section
variable {a b : Option Addr} {n m c d : Nat} {l l' : List Fd} {w : World}
theorem equalFormats_any (h : Fds w a n l) (h' : Fds w b m l') : Calls Try.prog 14 #[.slice a n c, .slice b m d] w (Told (.bool (same l l')) w) := by
  by_cases e : l = l'
  · subst e
    have : same l l = true := by simp [same]
    rw [this]
    exact equalFormats_yes h h'
  · have : same l l' = false := by simp [same, e]
    rw [this]
    exact equalFormats_no h h' e
set_option maxRecDepth 100000 in
theorem isAround_any (h : Fds w a n l) (h' : Fds w b m l') (hc : n ≤ c ∧ (c : Int) ≤ 9223372036854775807) (hd : m ≤ d ∧ (d : Int) ≤ 9223372036854775807) :
    Calls Try.prog 32 #[.slice a n c, .slice b m d] w (Told (.bool (within l' l)) w) := by
  have K := Lib.hid (isWithin_any h' h hd hc)
  clear h h' hc hd
  go_enter Try.func32, Try.ntmps32
  go_wp2_with fail
  refine K.out.mono ?_
  rintro e w1 ⟨rfl, hb1⟩
  have HB1 := Lib.hid hb1
  clear hb1
  go_wp2_with fail
  go_ret
  exact ⟨rfl, HB1.out⟩
set_option maxRecDepth 100000 in
theorem isWithTail_any (h : Fds w a n l) (h' : Fds w b m l') (hc : n ≤ c ∧ (c : Int) ≤ 9223372036854775807) (hd : m ≤ d ∧ (d : Int) ≤ 9223372036854775807) (hn : n ≤ 1048576000) :
    Calls Try.prog 31 #[.slice a n c, .slice b m d] w (Told (.bool (tailOf l l')) w) := by
  have hl := h.len
  have hl' := h'.len
  have K := Lib.hid (firstF_any b m d n l' w h' hn)
  have K2 := Lib.hid (fun (w1 : World) (hb : Below w.heap.size w w1) (p : Option Addr) (k f : Nat) (hp : Fds w1 p k (l'.take n)) (hq : k ≤ f ∧ (f : Int) ≤ 9223372036854775807) => isWithin_any (h.same hb) hp hc hq)
  by_cases hlt : n < m
  · have ht : tailOf l l' = within l (l'.take n) := by simp [tailOf, hl, hl', hlt]
    rw [ht]
    have hq : decide ((m : Int) > (n : Int)) = true := by simp; omega
    clear h h' hc hd ht hl hl'
    go_enter Try.func31, Try.ntmps31
    go_wp2_with fail
    refine K.out.mono ?_
    rintro e w1 ⟨p, f, rfl, ho, hb1⟩
    have HB1 := Lib.hid hb1
    have K3 := Lib.hid (K2.out w1 hb1 p _ f (ho.items Fd.enc_len) ho.room)
    clear hb1 ho
    go_wp2_with fail
    refine K3.out.mono ?_
    rintro e w2 ⟨rfl, hb2⟩
    have HB2 := Lib.hid (HB1.out.trans (hb2.mono HB1.out.size))
    clear hb2
    go_wp2_with fail
    go_ret
    exact ⟨rfl, HB2.out⟩
  · have ht : tailOf l l' = false := by simp [tailOf, hl, hl', hlt]
    rw [ht]
    have hq : decide ((m : Int) > (n : Int)) = false := by simp; omega
    clear h h' hc hd ht hl hl'
    go_enter Try.func31, Try.ntmps31
    go_wp2_with fail
    go_ret
    exact ⟨rfl, Below.refl _ _⟩
end
theorem tab0 (w : World) : (Instr.index 46 (.agg #[.func (.func 14) #[] #[], .func (.func 15) #[] #[], .func (.func 31) #[] #[], .func (.func 32) #[] #[]]) (.int .i64 0)).run Try.prog w = .ok (.func (.func 14) #[] #[]) w := by kernel_rfl
theorem tab1 (w : World) : (Instr.index 46 (.agg #[.func (.func 14) #[] #[], .func (.func 15) #[] #[], .func (.func 31) #[] #[], .func (.func 32) #[] #[]]) (.int .i64 1)).run Try.prog w = .ok (.func (.func 15) #[] #[]) w := by kernel_rfl
theorem tab2 (w : World) : (Instr.index 46 (.agg #[.func (.func 14) #[] #[], .func (.func 15) #[] #[], .func (.func 31) #[] #[], .func (.func 32) #[] #[]]) (.int .i64 2)).run Try.prog w = .ok (.func (.func 31) #[] #[]) w := by kernel_rfl
theorem tab3 (w : World) : (Instr.index 46 (.agg #[.func (.func 14) #[] #[], .func (.func 15) #[] #[], .func (.func 31) #[] #[], .func (.func 32) #[] #[]]) (.int .i64 3)).run Try.prog w = .ok (.func (.func 32) #[] #[]) w := by kernel_rfl
section
variable {a b : Option Addr} {n m c d : Nat} {l l' : List Fd} {w : World}
set_option maxHeartbeats 2000000 in
set_option maxRecDepth 100000 in
theorem breakOf_any (h : Fds w a n l) (h' : Fds w b m l') (hc : n ≤ c ∧ (c : Int) ≤ 9223372036854775807) (hd : m ≤ d ∧ (d : Int) ≤ 9223372036854775807) (hn : n ≤ 1048576000) :
    Calls Try.prog 11 #[.slice a n c, .slice b m d] w (Told (.int .i64 (brOf l l')) w) := by
  have F1 := Lib.hid (isFormat_any a n c l w h hc)
  have F2 := Lib.hid (fun (w1 : World) (hb : Below w.heap.size w w1) => isFormat_any b m d l' w1 (h'.same hb) hd)
  have K0 := Lib.hid (fun (w1 : World) (hb : Below w.heap.size w w1) => equalFormats_any (c := c) (d := d) (h.same hb) (h'.same hb))
  have K1 := Lib.hid (fun (w1 : World) (hb : Below w.heap.size w w1) => isWithin_any (h.same hb) (h'.same hb) hc hd)
  have K2 := Lib.hid (fun (w1 : World) (hb : Below w.heap.size w w1) => isWithTail_any (h.same hb) (h'.same hb) hc hd hn)
  have K3 := Lib.hid (fun (w1 : World) (hb : Below w.heap.size w w1) => isAround_any (h.same hb) (h'.same hb) hc hd)
  have hl := Lib.hid h.len
  clear h h' hc hd
  cases hA : isFmt l with
  | false =>
    have HE : Hid (brOf l l' = 4) := Lib.hid (if_pos (by rw [hA]; rfl))
    rw [hA] at F1
    go_enter Try.func11, Try.ntmps11
    go_wp2_with fail
    refine F1.out.mono ?_
    rintro e w1 ⟨rfl, hb1⟩
    have HB1 := Lib.hid hb1
    clear hb1
    go_wp2_with fail
    go_ret
    exact ⟨by rw [HE.out]; rfl, HB1.out⟩
  | true =>
    rw [hA] at F1
    cases hA' : isFmt l' with
    | false =>
      have HE : Hid (brOf l l' = 4) := Lib.hid (if_pos (by rw [hA, hA']; rfl))
      rw [hA'] at F2
      go_enter Try.func11, Try.ntmps11
      go_wp2_with fail
      refine F1.out.mono ?_
      rintro e w1 ⟨rfl, hb1⟩
      have HB1 := Lib.hid hb1
      clear hb1
      go_wp2_with fail
      refine (F2.out _ HB1.out).mono ?_
      rintro e w2 ⟨rfl, hb2⟩
      have HB2 := Lib.hid (HB1.out.trans (hb2.mono HB1.out.size))
      clear hb2
      go_wp2_with fail
      go_ret
      exact ⟨by rw [HE.out]; rfl, HB2.out⟩
    | true =>
      have HF : Hid ((isFmt l && isFmt l') = true) := Lib.hid (by rw [hA, hA']; rfl)
      rw [hA'] at F2
      go_enter Try.func11, Try.ntmps11
      go_wp2_with fail
      refine F1.out.mono ?_
      rintro e w1 ⟨rfl, hb1⟩
      have HB1 := Lib.hid hb1
      clear hb1
      go_wp2_with fail
      refine (F2.out _ HB1.out).mono ?_
      rintro e w2 ⟨rfl, hb2⟩
      have HB2 := Lib.hid (HB1.out.trans (hb2.mono HB1.out.size))
      clear hb2
      have HB0 := Lib.hid ((alloc_same w2 (.cells #[.nilFunc, .nilFunc, .nilFunc, .nilFunc] 46)).mono HB2.out.size)
      go_wp2_with (with_reducible refine wpl_store_whole _ rfl 46 (.tmp 5) (.tmp 16) rfl w2.heap.size #[.func (.func 14) #[] #[], .func (.func 15) #[] #[], .func (.func 31) #[] #[], .func (.func 32) #[] #[]] rfl rfl 46 _ (heap_alloc_new _ _) ?c2 ?c3 ?c4 ?_)
      case c2 => kernel_rfl
      case c3 => rfl
      case c4 => simp [Value.oneCell']
      intro w3 h3 hg3
      have H3 := Lib.hid h3
      have HB3 := Lib.hid ((HB2.out.trans HB0.out).grown hg3 (by have := HB2.out.size; have := HB0.out.size; omega) (fun _ e => by cases e; exact HB2.out.size))
      clear h3 hg3
      go_wp2_with (with_reducible refine wpList_load_row rfl 46 (.tmp 5) rfl w2.heap.size rfl 46 #[.func (.func 14) #[] #[], .func (.func 15) #[] #[], .func (.func 31) #[] #[], .func (.func 32) #[] #[]] (0, 0) _ H3.out Try.underlying46 rfl ?c1 ?_)
      case c1 => kernel_rfl
      go_loopw [18] (fun i wr => ∃ j : Nat, j ≤ 4 ∧ i = .int .i64 j ∧ (∀ i, i < j → chk l l' i = false) ∧ Below w.heap.size w wr) (fun i _ => 4 - (intOf i).toNat)
      case atStart => exact ⟨0, by omega, rfl, fun i hi => absurd hi (by omega), HB3.out⟩
      case round =>
        obtain ⟨j, hj, rfl, ht, hb⟩ := hrel
        have HB := Lib.hid hb
        have HT := Lib.hid ht
        clear hb ht
        clear HB3 H3 HB0
        rcases (by omega : j = 0 ∨ j = 1 ∨ j = 2 ∨ j = 3 ∨ j = 4) with rfl | rfl | rfl | rfl | rfl
        · have K := Lib.hid (K0.out _ HB.out)
          have ht := tab0 wr
          cases hk : same l l' with
          | false =>
            rw [hk] at K
            have HQ : Hid (chk l l' 0 = false) := Lib.hid hk
            clear hk
            go_wp2_with fail
            refine K.out.mono ?_
            rintro e w3 ⟨rfl, hb3⟩
            have HB3 := Lib.hid (HB.out.trans (hb3.mono HB.out.size))
            clear hb3
            go_wp2_with fail
            go_roundw
            case rel => exact ⟨1, by omega, by go_num, below_step HT.out HQ.out, HB3.out⟩
            case measure => simp [intOf]
          | true =>
            rw [hk] at K
            have HQ : Hid (brOf l l' = 0) := Lib.hid (brOf_at HF.out (j := 0) (by omega) HT.out hk)
            clear hk
            go_wp2_with fail
            refine K.out.mono ?_
            rintro e w3 ⟨rfl, hb3⟩
            have HB3 := Lib.hid (HB.out.trans (hb3.mono HB.out.size))
            clear hb3
            go_wp2_with fail
            go_ret
            exact ⟨by rw [HQ.out]; rfl, HB3.out⟩
        · have K := Lib.hid (K1.out _ HB.out)
          have ht := tab1 wr
          cases hk : within l l' with
          | false =>
            rw [hk] at K
            have HQ : Hid (chk l l' 1 = false) := Lib.hid hk
            clear hk
            go_wp2_with fail
            refine K.out.mono ?_
            rintro e w3 ⟨rfl, hb3⟩
            have HB3 := Lib.hid (HB.out.trans (hb3.mono HB.out.size))
            clear hb3
            go_wp2_with fail
            go_roundw
            case rel => exact ⟨2, by omega, by go_num, below_step HT.out HQ.out, HB3.out⟩
            case measure => simp [intOf]
          | true =>
            rw [hk] at K
            have HQ : Hid (brOf l l' = 1) := Lib.hid (brOf_at HF.out (j := 1) (by omega) HT.out hk)
            clear hk
            go_wp2_with fail
            refine K.out.mono ?_
            rintro e w3 ⟨rfl, hb3⟩
            have HB3 := Lib.hid (HB.out.trans (hb3.mono HB.out.size))
            clear hb3
            go_wp2_with fail
            go_ret
            exact ⟨by rw [HQ.out]; rfl, HB3.out⟩
        · have K := Lib.hid (K2.out _ HB.out)
          have ht := tab2 wr
          cases hk : tailOf l l' with
          | false =>
            rw [hk] at K
            have HQ : Hid (chk l l' 2 = false) := Lib.hid hk
            clear hk
            go_wp2_with fail
            refine K.out.mono ?_
            rintro e w3 ⟨rfl, hb3⟩
            have HB3 := Lib.hid (HB.out.trans (hb3.mono HB.out.size))
            clear hb3
            go_wp2_with fail
            go_roundw
            case rel => exact ⟨3, by omega, by go_num, below_step HT.out HQ.out, HB3.out⟩
            case measure => simp [intOf]
          | true =>
            rw [hk] at K
            have HQ : Hid (brOf l l' = 2) := Lib.hid (brOf_at HF.out (j := 2) (by omega) HT.out hk)
            clear hk
            go_wp2_with fail
            refine K.out.mono ?_
            rintro e w3 ⟨rfl, hb3⟩
            have HB3 := Lib.hid (HB.out.trans (hb3.mono HB.out.size))
            clear hb3
            go_wp2_with fail
            go_ret
            exact ⟨by rw [HQ.out]; rfl, HB3.out⟩
        · have K := Lib.hid (K3.out _ HB.out)
          have ht := tab3 wr
          cases hk : within l' l with
          | false =>
            rw [hk] at K
            have HQ : Hid (chk l l' 3 = false) := Lib.hid hk
            clear hk
            go_wp2_with fail
            refine K.out.mono ?_
            rintro e w3 ⟨rfl, hb3⟩
            have HB3 := Lib.hid (HB.out.trans (hb3.mono HB.out.size))
            clear hb3
            go_wp2_with fail
            go_roundw
            case rel => exact ⟨4, by omega, by go_num, below_step HT.out HQ.out, HB3.out⟩
            case measure => simp [intOf]
          | true =>
            rw [hk] at K
            have HQ : Hid (brOf l l' = 3) := Lib.hid (brOf_at HF.out (j := 3) (by omega) HT.out hk)
            clear hk
            go_wp2_with fail
            refine K.out.mono ?_
            rintro e w3 ⟨rfl, hb3⟩
            have HB3 := Lib.hid (HB.out.trans (hb3.mono HB.out.size))
            clear hb3
            go_wp2_with fail
            go_ret
            exact ⟨by rw [HQ.out]; rfl, HB3.out⟩
        · have HQ : Hid (brOf l l' = 4) := Lib.hid (brOf_at HF.out (j := 4) (by omega) HT.out rfl)
          go_wp2_with fail
          go_ret
          exact ⟨by rw [HQ.out]; rfl, HB.out⟩
end
end Go.Proofs.Ytjkjnhkamieljaa
