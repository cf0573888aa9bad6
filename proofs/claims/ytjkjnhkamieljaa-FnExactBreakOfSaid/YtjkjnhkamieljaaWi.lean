/- Whether a format lies within another one; the program's part. -/
import Derived.Test.YtjkjnhkamieljaaFieldT
import Derived.Test.YtjkjnhkamieljaaIsF2
import Derived.Test.YtjkjnhkamieljaaEqFi
namespace Go.Proofs.Ytjkjnhkamieljaa
open Go.ChangeShapes Go.WideShapes Go.ChangeAt Go.RowKit
set_option linter.unusedVariables false

/-- The field accepts what the other one accepts. -/
def fdIn (x y : Fd) : Bool := decide (x.max ≤ y.max) && (x.kind == y.kind) && (x.cond == y.cond) && (x.is == y.is)
def fmtIn : List Fd → List Fd → Bool
  | [], [] => true
  | x :: l, y :: l' => fdIn x y && fmtIn l l'
  | _, _ => false
noncomputable def within (l l' : List Fd) : Bool := isFmt l && isFmt l' && fmtIn l l'
theorem fmtIn_len : ∀ {l l' : List Fd}, fmtIn l l' = true → l.length = l'.length
  | [], [], _ => rfl
  | x :: l, y :: l', h => by
    simp only [fmtIn, Bool.and_eq_true] at h
    simp [fmtIn_len h.2]
  | [], _ :: _, h => by simp [fmtIn] at h
  | _ :: _, [], h => by simp [fmtIn] at h
theorem fmtIn_at : ∀ {l l' : List Fd} {j : Nat} {x y : Fd}, fmtIn l l' = true → l[j]? = some x → l'[j]? = some y → fdIn x y = true
  | [], _, _, _, _, _, hx, _ => by simp at hx
  | _ :: _, [], _, _, _, _, _, hy => by simp at hy
  | x :: l, y :: l', 0, _, _, h, hx, hy => by
    simp only [List.getElem?_cons_zero, Option.some.injEq] at hx hy
    subst hx
    subst hy
    simp only [fmtIn, Bool.and_eq_true] at h
    exact h.1
  | x :: l, y :: l', j + 1, _, _, h, hx, hy => by
    simp only [List.getElem?_cons_succ] at hx hy
    simp only [fmtIn, Bool.and_eq_true] at h
    exact fmtIn_at h.2 hx hy
theorem fmtIn_step : ∀ {l l' : List Fd} {j : Nat} {x y : Fd}, fmtIn (l.take j) (l'.take j) = true → l[j]? = some x → l'[j]? = some y → fdIn x y = true → fmtIn (l.take (j + 1)) (l'.take (j + 1)) = true
  | [], _, _, _, _, _, hx, _, _ => by simp at hx
  | _ :: _, [], _, _, _, _, _, hy, _ => by simp at hy
  | x :: l, y :: l', 0, _, _, h, hx, hy, hf => by
    simp only [List.getElem?_cons_zero, Option.some.injEq] at hx hy
    subst hx
    subst hy
    simp [fmtIn, hf]
  | x :: l, y :: l', j + 1, _, _, h, hx, hy, hf => by
    simp only [List.getElem?_cons_succ] at hx hy
    simp only [List.take_succ_cons, fmtIn, Bool.and_eq_true] at h ⊢
    exact ⟨h.1, fmtIn_step h.2 hx hy hf⟩
theorem within_fmt {l l' : List Fd} (h : within l l' = true) : isFmt l = true ∧ isFmt l' = true ∧ fmtIn l l' = true := by
  simp only [within, Bool.and_eq_true] at h
  exact ⟨h.1.1, h.1.2, h.2⟩

theorem mem2_same (w : World) (A B : Obj) : Below w.heap.size w ((w.alloc A).alloc B) := ((Below.refl _ w).alloc (Nat.le_refl _) _).alloc (by simp) _
set_option maxRecDepth 100000 in
theorem isFieldWithin_any (x y : Fd) (w : World) : Calls Try.prog 38 #[x.val, y.val] w (Told (.bool (fdIn x y)) w) := by
  obtain ⟨k, m, c, i⟩ := x
  obtain ⟨k', m', c', i'⟩ := y
  unfold Fd.val fdIn
  go_enter Try.func38, Try.ntmps38
  by_cases h0 : m ≤ m'
  · have q0 : decide (m > m') = false := by simp; omega
    have q0' : decide (m ≤ m') = true := by simp; omega
    by_cases h1 : k = k'
    · by_cases h2 : c = c'
      · by_cases h3 : i = i'
        · subst h1 h2 h3
          go_wp2_with fail
          go_ret
          refine ⟨?_, mem2_same _ _ _⟩
          simp [q0']
        · subst h1 h2
          have q3 : (i == i') = false := by simp [h3]
          go_wp2_with fail
          go_ret
          refine ⟨?_, mem2_same _ _ _⟩
          simp [q0', q3]
      · subst h1
        have q2 : (c == c') = false := by simp [h2]
        go_wp2_with fail
        go_ret
        refine ⟨?_, mem2_same _ _ _⟩
        simp [q0', q2]
    · have q1 : (k == k') = false := by simp [h1]
      go_wp2_with fail
      go_ret
      refine ⟨?_, mem2_same _ _ _⟩
      simp [q0', q1]
  · have q0 : decide (m > m') = true := by simp; omega
    have q0' : decide (m ≤ m') = false := by simp; omega
    go_wp2_with fail
    go_ret
    refine ⟨?_, mem2_same _ _ _⟩
    simp
set_option maxHeartbeats 1000000 in
set_option maxRecDepth 100000 in
theorem equalFuncF_any {a b : Option Addr} {n m c d : Nat} {l l' : List Fd} {w : World} (h : Fds w a n l) (h' : Fds w b m l') :
    Calls Try.prog 37 #[.slice a n c, .slice b m d, .func (.func 38) #[] #[]] w (Told (.bool (fmtIn l l')) w) := by
  have hn := h.fits
  have hm := h'.fits
  have H := Lib.hid h
  have H' := Lib.hid h'
  clear h h'
  by_cases hnm : n = m
  · subst hnm
    go_enter Try.func37, Try.ntmps37
    go_wp2_with fail
    go_loopw [17] (fun i wr => ∃ j : Nat, j ≤ n ∧ i = .int .i64 j ∧ fmtIn (l.take j) (l'.take j) = true ∧ Below w.heap.size w wr) (fun i _ => n - (intOf i).toNat)
    case atStart => exact ⟨0, Nat.zero_le _, rfl, rfl, Below.refl _ _⟩
    case round =>
      obtain ⟨j, hj, rfl, ht, hb⟩ := hrel
      have HB := Lib.hid hb
      have HT := Lib.hid ht
      clear hb ht
      by_cases hlt : j < n
      · obtain ⟨b1, o1, x, rfl, hx, hc0, hc1, hc2, hc3⟩ := fds_at (H.out.same HB.out) hlt
        obtain ⟨b2, o2, y, rfl, hy, hd0, hd1, hd2, hd3⟩ := fds_at (H'.out.same HB.out) hlt
        have HX := Lib.hid hx
        have HY := Lib.hid hy
        clear hx hy
        have HW : Hid (Below wr.heap.size wr ((wr.alloc (.cells #[.int .i64 x.kind, .int .i64 x.max, .int .i64 x.cond, .int .i64 x.is] 50)).alloc (.cells #[.int .i64 y.kind, .int .i64 y.max, .int .i64 y.cond, .int .i64 y.is] 50))) := Lib.hid (mem2_same _ _ _)
        have hq0 : (wr.alloc (.cells #[.int .i64 x.kind, .int .i64 x.max, .int .i64 x.cond, .int .i64 x.is] 50)).cell? ⟨b2, o2 + j * 4, none⟩ = some (.int .i64 y.kind) := cell_stay hd0 (alloc_same wr _)
        have hq1 : (wr.alloc (.cells #[.int .i64 x.kind, .int .i64 x.max, .int .i64 x.cond, .int .i64 x.is] 50)).cell? ⟨b2, o2 + j * 4 + 1, none⟩ = some (.int .i64 y.max) := cell_stay hd1 (alloc_same wr _)
        have hq2 : (wr.alloc (.cells #[.int .i64 x.kind, .int .i64 x.max, .int .i64 x.cond, .int .i64 x.is] 50)).cell? ⟨b2, o2 + j * 4 + 2, none⟩ = some (.int .i64 y.cond) := cell_stay hd2 (alloc_same wr _)
        have hq3 : (wr.alloc (.cells #[.int .i64 x.kind, .int .i64 x.max, .int .i64 x.cond, .int .i64 x.is] 50)).cell? ⟨b2, o2 + j * 4 + 3, none⟩ = some (.int .i64 y.is) := cell_stay hd3 (alloc_same wr _)
        have K := Lib.hid (isFieldWithin_any x y)
        unfold Fd.val at K
        by_cases hf : fdIn x y = true
        · have HF := Lib.hid hf
          rw [hf] at K
          clear hf
          go_wp2_with fail
          refine (K.out _).mono ?_
          rintro e w3 ⟨rfl, hb3⟩
          have HB3 := Lib.hid ((HB.out.trans (HW.out.mono HB.out.size)).trans (hb3.mono (Nat.le_trans HB.out.size HW.out.size)))
          clear hb3 hc0 hc1 hc2 hc3 hd0 hd1 hd2 hd3 hq0 hq1 hq2 hq3
          go_wp2_with fail
          go_roundw
          case rel => exact ⟨j + 1, by omega, by go_num, fmtIn_step HT.out HX.out HY.out HF.out, HB3.out⟩
          case measure => simp [intOf]; omega
        · have HF : Hid (fmtIn l l' = false) := Lib.hid (by
            cases hq : fmtIn l l' with
            | false => rfl
            | true => exact absurd (fmtIn_at hq HX.out HY.out) hf)
          have hf' : fdIn x y = false := by simpa using hf
          rw [hf'] at K
          rw [HF.out]
          clear hf hf'
          go_wp2_with fail
          refine (K.out _).mono ?_
          rintro e w3 ⟨rfl, hb3⟩
          have HB3 := Lib.hid ((HB.out.trans (HW.out.mono HB.out.size)).trans (hb3.mono (Nat.le_trans HB.out.size HW.out.size)))
          clear hb3 hc0 hc1 hc2 hc3 hd0 hd1 hd2 hd3 hq0 hq1 hq2 hq3
          go_wp2_with fail
          go_ret
          exact ⟨rfl, HB3.out⟩
      · have h1 := HT.out
        rw [List.take_of_length_le (by rw [H.out.len]; omega), List.take_of_length_le (by rw [H'.out.len]; omega)] at h1
        have H1 := Lib.hid h1
        clear h1
        go_wp2_with fail
        go_ret
        exact ⟨by rw [H1.out]; rfl, HB.out⟩
  · have hq : ((n : Int) != (m : Int)) = true := by simp; omega
    have HF : fmtIn l l' = false := by
      cases hq : fmtIn l l' with
      | false => rfl
      | true => exact absurd (by rw [← H.out.len, ← H'.out.len, fmtIn_len hq]) hnm
    rw [HF]
    clear hnm
    go_enter Try.func37, Try.ntmps37
    go_wp2_with fail
    go_ret
    exact ⟨rfl, Below.refl _ _⟩
set_option maxRecDepth 100000 in
theorem isWithin_any {a b : Option Addr} {n m c d : Nat} {l l' : List Fd} {w : World} (h : Fds w a n l) (h' : Fds w b m l') (hc : n ≤ c ∧ (c : Int) ≤ 9223372036854775807) (hd : m ≤ d ∧ (d : Int) ≤ 9223372036854775807) :
    Calls Try.prog 15 #[.slice a n c, .slice b m d] w (Told (.bool (within l l')) w) := by
  have H := Lib.hid h
  have H' := Lib.hid h'
  have HC := Lib.hid hc
  have HD := Lib.hid hd
  clear h h' hc hd
  unfold within
  go_enter Try.func15, Try.ntmps15
  cases hA : isFmt l with
  | false =>
    go_wp2_with fail
    refine (isFormat_any _ _ _ l _ H.out HC.out).mono ?_
    rw [hA]
    rintro e w1 ⟨rfl, hb1⟩
    have HB1 := Lib.hid hb1
    clear hb1
    go_wp2_with fail
    go_ret
    exact ⟨rfl, HB1.out⟩
  | true =>
    go_wp2_with fail
    refine (isFormat_any _ _ _ l _ H.out HC.out).mono ?_
    rw [hA]
    rintro e w1 ⟨rfl, hb1⟩
    have HB1 := Lib.hid hb1
    clear hb1
    cases hA' : isFmt l' with
    | false =>
      go_wp2_with fail
      refine (isFormat_any _ _ _ l' _ (H'.out.same HB1.out) HD.out).mono ?_
      rw [hA']
      rintro e w2 ⟨rfl, hb2⟩
      have HB2 := Lib.hid (HB1.out.trans (hb2.mono HB1.out.size))
      clear hb2
      go_wp2_with fail
      go_ret
      exact ⟨by rw [hA']; rfl, HB2.out⟩
    | true =>
      go_wp2_with fail
      refine (isFormat_any _ _ _ l' _ (H'.out.same HB1.out) HD.out).mono ?_
      rw [hA']
      rintro e w2 ⟨rfl, hb2⟩
      have HB2 := Lib.hid (HB1.out.trans (hb2.mono HB1.out.size))
      clear hb2
      go_wp2_with fail
      refine (equalFuncF_any (H.out.same HB2.out) (H'.out.same HB2.out)).mono ?_
      rintro e w3 ⟨rfl, hb3⟩
      have HB3 := Lib.hid (HB2.out.trans (hb3.mono HB2.out.size))
      clear hb3
      go_wp2_with fail
      go_ret
      exact ⟨by rw [hA']; rfl, HB3.out⟩
end Go.Proofs.Ytjkjnhkamieljaa
