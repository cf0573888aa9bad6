/- Lists of integers are compared: by the library. What a state of a newer machine keeps to, next to one of an older machine: by the program. -/
import Derived.Test.YtckmgbobkffabaaG1
import Derived.Deep.QuietTactic
import Derived.BigQuiet
import Derived.RegionTactic
import Derived.Test.YtckmgbobkffabaaG9
import Derived.Test.YtckmgbobkffabaaG16
import Derived.Test.YtckmgbobkffabaaG17
namespace Go.Proofs.Ytckmgbobkffabaa
open Go.ChangeShapes Go.WideShapes Go.ChangeAt Go.RowKit
set_option linter.unusedVariables false

set_option maxRecDepth 100000 in
theorem slicesEqual_yes {a b : Option Addr} {n m c d : Nat} {l : List Int} {w : World} (h : Nums .i64 w a n l) (h' : Nums .i64 w b m l) :
  Calls Try.prog 86 #[.slice a n c, .slice b m d] w (Told (.bool true) w) := by
 obtain rfl : n = m := by rw [← h.len, ← h'.len]
 have hn := h.fits
 have H := Lib.hid h
 have H' := Lib.hid h'
 clear h h'
 go_enter Try.func86, Try.ntmps86
 go_wp2
 go_loopw [13] (fun i wr => ∃ j : Nat, j ≤ n ∧ i = .int .i64 j ∧ Below w.heap.size w wr) (fun i _ => n - (intOf i).toNat)
 case atStart => exact ⟨0, Nat.zero_le _, rfl, Below.refl _ _⟩
 case round =>
  obtain ⟨j, hj, rfl, hb⟩ := hrel
  have HB := Lib.hid hb
  clear hb
  by_cases hlt : j < n
  ·obtain ⟨ad, x, rfl, hx, hc⟩ := (H.out.same HB.out).at_ hlt
   obtain ⟨be, y, rfl, hy, hc'⟩ := (H'.out.same HB.out).at_ hlt
   rw [hx] at hy
   cases hy
   clear hx
   go_wp2
   go_quiet (fail)
   go_wp2
   go_roundw
   case rel => exact ⟨j + 1, by omega, by go_num, HB.out.trans ((drewN_same _ _).mono HB.out.size)⟩
   case measure => simp [intOf]; omega
  ·go_wp2
   go_ret
   exact ⟨rfl, HB.out⟩
set_option maxRecDepth 100000 in
theorem slicesEqual_no {a b : Option Addr} {n m c d : Nat} {l l' : List Int} {w : World} (h : Nums .i64 w a n l) (h' : Nums .i64 w b m l') (hne : l ≠ l') :
  Calls Try.prog 86 #[.slice a n c, .slice b m d] w (Told (.bool false) w) := by
 have hn := h.fits
 have hm := h'.fits
 have H := Lib.hid h
 have H' := Lib.hid h'
 have HE := Lib.hid hne
 clear h h' hne
 by_cases hnm : n = m
 ·subst hnm
  go_enter Try.func86, Try.ntmps86
  go_wp2
  go_loopw [13] (fun i wr => ∃ j : Nat, j ≤ n ∧ i = .int .i64 j ∧ l.take j = l'.take j ∧ Below w.heap.size w wr) (fun i _ => n - (intOf i).toNat)
  case atStart => exact ⟨0, Nat.zero_le _, rfl, rfl, Below.refl _ _⟩
  case round =>
   obtain ⟨j, hj, rfl, ht, hb⟩ := hrel
   have HB := Lib.hid hb
   have HT := Lib.hid ht
   clear hb ht
   by_cases hlt : j < n
   ·obtain ⟨ad, x, rfl, hx, hc⟩ := (H.out.same HB.out).at_ hlt
    obtain ⟨be, y, rfl, hy, hc'⟩ := (H'.out.same HB.out).at_ hlt
    have HX := Lib.hid hx
    have HY := Lib.hid hy
    clear hx hy
    by_cases hxy : x = y
    ·subst hxy
     go_wp2
     go_quiet (fail)
     go_wp2
     go_roundw
     case rel => exact ⟨j + 1, by omega, by go_num, by rw [List.take_add_one, List.take_add_one, HX.out, HY.out, HT.out], HB.out.trans ((drewN_same _ _).mono HB.out.size)⟩
     case measure => simp [intOf]; omega
    ·have hq : (x != y) = true := by simp [hxy]
     clear hxy
     go_wp2
     go_quiet (fail)
     go_wp2
     go_ret
     exact ⟨rfl, HB.out.trans ((drewN_same _ _).mono HB.out.size)⟩
   ·exfalso
    have h1 := HT.out
    rw [List.take_of_length_le (by rw [H.out.len]; omega), List.take_of_length_le (by rw [H'.out.len]; omega)] at h1
    exact HE.out h1
 ·have hq : ((n : Int) != (m : Int)) = true := by simp; omega
  clear hnm
  go_enter Try.func86, Try.ntmps86
  go_wp2
  go_ret
  exact ⟨rfl, Below.refl _ _⟩
end Go.Proofs.Ytckmgbobkffabaa
namespace Go.Proofs.Ytckmgbobkffabaa
open Go.ChangeShapes Go.WideShapes Go.ChangeAt Go.RowKit
set_option linter.unusedVariables false
set_option linter.unusedSimpArgs false

theorem common_all {l l' : List Int} : common l l' = l ↔ l.all (fun k => decide (k ∈ l')) = true := by
 unfold common
 rw [List.filter_eq_self, List.all_eq_true]
theorem len_zero (l : List Int) : ((l.length : Int) == 0) = l.isEmpty := by
 cases l with
 | nil => rfl
 | cons x t => rw [beq_eq_false_iff_ne.2 (by simp only [List.length_cons]; omega)]; rfl
theorem common_le (l l' : List Int) : (common l l').length ≤ l.length := List.length_filter_le _ _
set_option maxRecDepth 100000 in
set_option maxHeartbeats 2000000 in
theorem isSomeOf_val {a b : Option Addr} {n m c d : Nat} {l l' : List Int} {w : World} {v : Bool} (h : Nums .i64 w a n l) (h' : Nums .i64 w b m l') (hz : ∀ z ∈ l, (Lit.int .i64 z).wf = true) (hz' : ∀ z ∈ l', (Lit.int .i64 z).wf = true) (hn : l.length ≤ 1000000000) (hm : l'.length ≤ 1000000000) (hv : someOf l l' = v) :
  Calls Try.prog 113 #[.slice a n c, .slice b m d] w (Told (.bool v) w) := by
 have e1 := h.len
 have e2 := h'.len
 subst e1
 subst e2
 have HC := Lib.hid (commonOf_any (c := c) (d := d) h h' hz hz' (by omega) (by omega))
 have HN := Lib.hid h
 have z1 := len_zero l
 have z2 := len_zero l'
 clear h h' hz hz'
 cases q : l.all (fun k => decide (k ∈ l')) with
 | true =>
  have HV : Hid (v = (l.isEmpty == l'.isEmpty)) := Lib.hid (by rw [← hv]; unfold someOf; rw [q, Bool.true_and])
  have HQ := Lib.hid (common_all.2 q)
  clear q hv
  go_enter Try.func113, Try.ntmps113
  go_wp2_with fail
  refine HC.out.mono ?_
  rintro e w1 ⟨a1, n1, c1, rfl, ho, hb1⟩
  rw [HQ.out] at ho
  have HO := Lib.hid ho
  have HB1 := Lib.hid hb1
  clear ho hb1
  go_wp2_with fail
  refine (slicesEqual_yes (c := c1) (d := c) HO.out.nums (HN.out.same HB1.out)).mono ?_
  rintro e w2 ⟨rfl, hb2⟩
  have HB2 := Lib.hid (HB1.out.trans (hb2.mono HB1.out.size))
  clear hb2
  go_wp2_with fail
  go_ret
  exact ⟨by rw [HV.out]; (try rw [z1, z2]); try rfl, HB2.out⟩
 | false =>
  have HV : Hid (v = false) := Lib.hid (by rw [← hv]; unfold someOf; rw [q, Bool.false_and])
  have HQ : Hid (common l l' ≠ l) := Lib.hid (fun e => by rw [common_all.1 e] at q; cases q)
  clear q hv
  go_enter Try.func113, Try.ntmps113
  go_wp2_with fail
  refine HC.out.mono ?_
  rintro e w1 ⟨a1, n1, c1, rfl, ho, hb1⟩
  have HO := Lib.hid ho
  have HB1 := Lib.hid hb1
  clear ho hb1
  go_wp2_with fail
  refine (slicesEqual_no (c := c1) (d := c) HO.out.nums (HN.out.same HB1.out) HQ.out).mono ?_
  rintro e w2 ⟨rfl, hb2⟩
  have HB2 := Lib.hid (HB1.out.trans (hb2.mono HB1.out.size))
  clear hb2
  go_wp2_with fail
  go_ret
  exact ⟨by rw [HV.out]; try rfl, HB2.out⟩
set_option maxRecDepth 100000 in
set_option maxHeartbeats 2000000 in
theorem isEnd_any {v : Value} {x : Mac} (s : Int) {w : World} (h : MacW w v x) : Calls Try.prog 114 #[v, .int .i64 s] w (Told (.bool (endP x s)) w) := by
 obtain ⟨p, np, cp, q, n, c, rfl⟩ := h.shape
 have HB := Lib.hid (alloc_same w (.cells #[.int .i64 x.st, .slice p np cp, .slice q n c] 27))
 have HX : Hid ((w.alloc (.cells #[.int .i64 x.st, .slice p np cp, .slice q n c] 27)).heap[w.heap.size]? = some (.cells #[.int .i64 x.st, .slice p np cp, .slice q n c] 27 (0, 0))) := Lib.hid (heap_alloc_new w (.cells #[.int .i64 x.st, .slice p np cp, .slice q n c] 27 (0, 0)))
 have HMS : Hid (∀ W', Below w.heap.size w W' → Calls Try.prog 61 #[.agg #[.int .i64 x.st, .slice p np cp, .slice q n c, .int .i64 s]] W' (Told (.bool (stopP x s)) W')) := Lib.hid fun W' hb => by
  have q := mayStop_any s (h.same hb)
  rw [party_eq] at q
  exact q
 clear h
 obtain ⟨x0, x1, x2, -⟩ := three_cells HX.out
 by_cases hs : s < x.st
 ·have hd : decide (s < x.st) = true := decide_eq_true hs
  have HE : Hid (endP x s = stopP x s) := Lib.hid (by unfold endP; rw [hd, Bool.true_and])
  go_enter Try.func114, Try.ntmps114
  go_wp2_with fail
  refine (HMS.out _ HB.out).mono ?_
  rintro e w1 ⟨rfl, hb1⟩
  have HB1 := Lib.hid (HB.out.trans (hb1.mono HB.out.size))
  clear hb1 x0 x1 x2
  go_wp2_with fail
  go_ret
  exact ⟨by rw [HE.out]; try rfl, HB1.out⟩
 ·have hd : decide (s < x.st) = false := decide_eq_false hs
  have HE : Hid (endP x s = false) := Lib.hid (by unfold endP; rw [hd, Bool.false_and])
  go_enter Try.func114, Try.ntmps114
  go_wp2_with fail
  go_ret
  exact ⟨by rw [HE.out]; try rfl, HB.out⟩
set_option maxRecDepth 100000 in
set_option maxHeartbeats 8000000 in
theorem followsAt_any {v v' : Value} {a b : Mac} (x y : Int) {w : World} (h : MacW w v a) (h' : MacW w v' b) (hz : ∀ z ∈ a.moves, Wmv z) (hz' : ∀ z ∈ b.moves, Wmv z) (hn : a.parts ≤ 10000000) (hn' : b.parts ≤ 10000000) :
  Calls Try.prog 100 #[v, v', .int .i64 x, .int .i64 y] w (Told (.bool (followsAtP a b x y)) w) := by
 obtain ⟨p, np, cp, q, n, c, rfl⟩ := h.shape
 obtain ⟨p', np', cp', q', n', c', rfl⟩ := h'.shape
 obtain ⟨hB, hX, hY, hS⟩ := twice w #[.int .i64 a.st, .slice p np cp, .slice q n c] #[.int .i64 b.st, .slice p' np' cp', .slice q' n' c'] 27 27
 have HB := Lib.hid hB
 have HX := Lib.hid (three_cells hX)
 have HY := Lib.hid (three_cells hY)
 have HM1 : Hid (∀ W', Below w.heap.size w W' → Calls Try.prog 110 #[.agg #[.int .i64 a.st, .slice p np cp, .slice q n c], .int .i64 x, .bool true] W' (Made .i64 3 W'.heap.size (movesFrom a x true) W')) := Lib.hid fun W' hb => movesFrom_any x true (h.same hb) (by omega)
 have HM2 : Hid (∀ W', Below w.heap.size w W' → Calls Try.prog 110 #[.agg #[.int .i64 b.st, .slice p' np' cp', .slice q' n' c'], .int .i64 y, .bool true] W' (Made .i64 3 W'.heap.size (movesFrom b y true) W')) := Lib.hid fun W' hb => movesFrom_any y true (h'.same hb) (by omega)
 have HM3 : Hid (∀ W', Below w.heap.size w W' → Calls Try.prog 110 #[.agg #[.int .i64 b.st, .slice p' np' cp', .slice q' n' c'], .int .i64 y, .bool false] W' (Made .i64 3 W'.heap.size (movesFrom b y false) W')) := Lib.hid fun W' hb => movesFrom_any y false (h'.same hb) (by omega)
 have HM4 : Hid (∀ W', Below w.heap.size w W' → Calls Try.prog 110 #[.agg #[.int .i64 a.st, .slice p np cp, .slice q n c], .int .i64 x, .bool false] W' (Made .i64 3 W'.heap.size (movesFrom a x false) W')) := Lib.hid fun W' hb => movesFrom_any x false (h.same hb) (by omega)
 have HE1 : Hid (∀ W', Below w.heap.size w W' → Calls Try.prog 114 #[.agg #[.int .i64 a.st, .slice p np cp, .slice q n c], .int .i64 x] W' (Told (.bool (endP a x)) W')) := Lib.hid fun W' hb => isEnd_any x (h.same hb)
 have HE2 : Hid (∀ W', Below w.heap.size w W' → Calls Try.prog 114 #[.agg #[.int .i64 b.st, .slice p' np' cp', .slice q' n' c'], .int .i64 y] W' (Told (.bool (endP b y)) W')) := Lib.hid fun W' hb => isEnd_any y (h'.same hb)
 have HZA := Lib.hid (fun (s : Int) (c : Bool) (z : Int) (hk : z ∈ movesFrom a s c) => movesFrom_wf hz hk)
 have HZB := Lib.hid (fun (s : Int) (c : Bool) (z : Int) (hk : z ∈ movesFrom b s c) => movesFrom_wf hz' hk)
 have HLA := Lib.hid (fun (s : Int) (c : Bool) => Nat.le_trans (movesFrom_len a s c) (show a.moves.length ≤ 1000000000 by unfold Mac.parts at hn; omega))
 have HLB := Lib.hid (fun (s : Int) (c : Bool) => Nat.le_trans (movesFrom_len b s c) (show b.moves.length ≤ 1000000000 by unfold Mac.parts at hn'; omega))
 clear hB hX hY hS h h' hz hz'
 cases qa : someOf (movesFrom a x true) (movesFrom b y true) with
 | false =>
  have HT : Hid (followsAtP a b x y = false) := Lib.hid (by unfold followsAtP; rw [qa, Bool.false_and])
  have HA := Lib.hid qa
  clear qa
  obtain ⟨x0, x1, x2, -⟩ := HX.out
  obtain ⟨y0, y1, y2, -⟩ := HY.out
  go_enter Try.func100, Try.ntmps100
  go_wp2_with fail
  clear x0 x1 x2 y0 y1 y2
  generalize ((w.alloc (.cells #[.int .i64 a.st, .slice p np cp, .slice q n c] 27)).alloc (.cells #[.int .i64 b.st, .slice p' np' cp', .slice q' n' c'] 27)) = W0 at *
  have HBd : Hid (Below W0.heap.size W0 W0.drew) := Lib.hid (Below.refl _ _).drew
  refine wp_region_held_drew (S := fun w9 => w9.cell? ⟨w.heap.size, 0, none⟩ = some (.int .i64 a.st) ∧ w9.cell? ⟨w.heap.size, 1, none⟩ = some (.slice p np cp) ∧ w9.cell? ⟨w.heap.size, 2, none⟩ = some (.slice q n c) ∧ w9.cell? ⟨w.heap.size + 1, 0, none⟩ = some (.int .i64 b.st) ∧ w9.cell? ⟨w.heap.size + 1, 1, none⟩ = some (.slice p' np' cp') ∧ w9.cell? ⟨w.heap.size + 1, 2, none⟩ = some (.slice q' n' c')) (by kernel_rfl) ⟨cell_stay HX.out.1 HBd.out, cell_stay HX.out.2.1 HBd.out, cell_stay HX.out.2.2.1 HBd.out, cell_stay HY.out.1 HBd.out, cell_stay HY.out.2.1 HBd.out, cell_stay HY.out.2.2.1 HBd.out⟩ (fun hHeld => ?_)
  refine wpAnyH_take (i := 0) (v := ?v1) (by simp only [get9]; rfl) (by kernel_rfl) (by kernel_rfl) (by kernel_rfl) (by exact fun _ _ _ h => h) (Or.inl ⟨by rfl, fun w9 hS9 => ?hy1⟩) hHeld ?rest1
  case hy1 =>
   dsimp only at hS9
   obtain ⟨q0, q1, q2, q3, q4, q5⟩ := hS9
   go_simp
   try with_reducible rfl
  try simp only [Act.put, set9]
  refine wpAnyH_take (i := 1) (v := ?v2) (by simp only [get9]; rfl) (by kernel_rfl) (by kernel_rfl) (by kernel_rfl) (by exact fun _ _ _ h => h) (Or.inl ⟨by rfl, fun w9 hS9 => ?hy2⟩) hHeld ?rest2
  case hy2 =>
   dsimp only at hS9
   obtain ⟨q0, q1, q2, q3, q4, q5⟩ := hS9
   go_simp
   try with_reducible rfl
  try simp only [Act.put, set9]
  refine wpAnyH_take (i := 3) (v := ?v3) (by simp only [get9]; rfl) (by kernel_rfl) (by kernel_rfl) (by kernel_rfl) (by exact fun _ _ _ h => h) (Or.inl ⟨by rfl, fun w9 hS9 => ?hy3⟩) hHeld ?rest3
  case hy3 =>
   dsimp only at hS9
   obtain ⟨q0, q1, q2, q3, q4, q5⟩ := hS9
   go_simp
   try with_reducible rfl
  try simp only [Act.put, set9]
  refine wpAnyH_take (i := 4) (v := ?v4) (by simp only [get9]; rfl) (by kernel_rfl) (by kernel_rfl) (by kernel_rfl) (by exact fun _ _ _ h => h) (Or.inl ⟨by rfl, fun w9 hS9 => ?hy4⟩) hHeld ?rest4
  case hy4 =>
   dsimp only at hS9
   obtain ⟨q0, q1, q2, q3, q4, q5⟩ := hS9
   go_simp
   try with_reducible rfl
  try simp only [Act.put, set9]
  refine wpAnyH_ready (rs := [2]) (by kernel_rfl) (by simp) (AllReadyH.cons (by simp only [get9]; rfl) (fun K hK => ?_) AllReadyH.nil)
  go_simp
  refine (HM1.out _ (HB.out.trans (HBd.out.mono HB.out.size))).mono ?_
  rintro e w1 ⟨a1, n1, c1, rfl, ho1, hb1⟩
  have HB1 : Hid (Below W0.heap.size W0 w1) := Lib.hid (HBd.out.trans (hb1.mono HBd.out.size))
  have HO1 := Lib.hid ho1
  clear ho1
  clear hb1
  go_wp2_with fail
  refine hK.out _ _ ⟨cell_stay HX.out.1 HB1.out, cell_stay HX.out.2.1 HB1.out, cell_stay HX.out.2.2.1 HB1.out, cell_stay HY.out.1 HB1.out, cell_stay HY.out.2.1 HB1.out, cell_stay HY.out.2.2.1 HB1.out⟩ (fun hHeld => ?_)
  clear hK K
  try simp only [Act.put, set9]
  refine wpAnyH_ready (rs := [5]) (by kernel_rfl) (by simp) (AllReadyH.cons (by simp only [get9]; rfl) (fun K hK => ?_) AllReadyH.nil)
  go_simp
  refine (HM2.out _ (HB.out.trans (HB1.out.mono HB.out.size))).mono ?_
  rintro e w2 ⟨a2, n2, c2, rfl, ho2, hb2⟩
  have HB2 : Hid (Below W0.heap.size W0 w2) := Lib.hid (HB1.out.trans (hb2.mono HB1.out.size))
  have HO2 := Lib.hid ho2
  clear ho2
  replace HO1 := Lib.hid (HO1.out.same hb2)
  clear hb2
  go_wp2_with fail
  refine hK.out _ _ ⟨cell_stay HX.out.1 HB2.out, cell_stay HX.out.2.1 HB2.out, cell_stay HX.out.2.2.1 HB2.out, cell_stay HY.out.1 HB2.out, cell_stay HY.out.2.1 HB2.out, cell_stay HY.out.2.2.1 HB2.out⟩ (fun hHeld => ?_)
  clear hK K
  try simp only [Act.put, set9]
  refine wpAnyH_ready (rs := [6]) (by kernel_rfl) (by simp) (AllReadyH.cons (by simp only [get9]; rfl) (fun K hK => ?_) AllReadyH.nil)
  go_simp
  refine (isSomeOf_val (c := c1) (d := c2) HO1.out.nums HO2.out.nums (HZA.out x true) (HZB.out y true) (HLA.out x true) (HLB.out y true) HA.out).mono ?_
  rintro e w3 ⟨rfl, hb3⟩
  have HB3 : Hid (Below W0.heap.size W0 w3) := Lib.hid (HB2.out.trans (hb3.mono HB2.out.size))
  clear hb3
  go_wp2_with fail
  refine hK.out _ _ ⟨cell_stay HX.out.1 HB3.out, cell_stay HX.out.2.1 HB3.out, cell_stay HX.out.2.2.1 HB3.out, cell_stay HY.out.1 HB3.out, cell_stay HY.out.2.1 HB3.out, cell_stay HY.out.2.2.1 HB3.out⟩ (fun hHeld => ?_)
  clear hK K
  try simp only [Act.put, set9]
  refine wpAnyH_take (i := 7) (v := ?v5) (by simp only [get9]; rfl) (by kernel_rfl) (by kernel_rfl) (by kernel_rfl) (by exact fun _ _ _ h => h) (Or.inl ⟨by rfl, fun w9 hS9 => ?hy5⟩) hHeld ?rest5
  case hy5 =>
   dsimp only at hS9
   obtain ⟨q0, q1, q2, q3, q4, q5⟩ := hS9
   go_simp
   try with_reducible rfl
  try simp only [Act.put, set9]
  refine wpAnyH_take (i := 8) (v := undef) (by simp only [get9]; rfl) (by kernel_rfl) (by kernel_rfl) (by kernel_rfl) (by exact fun _ _ _ h => h) (Or.inr ⟨by rfl, rfl⟩) hHeld ?_
  try simp only [Act.put, set9]
  refine wpAnyH_take (i := 9) (v := undef) (by simp only [get9]; rfl) (by kernel_rfl) (by kernel_rfl) (by kernel_rfl) (by exact fun _ _ _ h => h) (Or.inr ⟨by rfl, rfl⟩) hHeld ?_
  try simp only [Act.put, set9]
  refine wpAnyH_take (i := 10) (v := undef) (by simp only [get9]; rfl) (by kernel_rfl) (by kernel_rfl) (by kernel_rfl) (by exact fun _ _ _ h => h) (Or.inr ⟨by rfl, rfl⟩) hHeld ?_
  try simp only [Act.put, set9]
  refine wpAnyH_take (i := 11) (v := undef) (by simp only [get9]; rfl) (by kernel_rfl) (by kernel_rfl) (by kernel_rfl) (by exact fun _ _ _ h => h) (Or.inr ⟨by rfl, rfl⟩) hHeld ?_
  try simp only [Act.put, set9]
  refine wpAnyH_take (i := 12) (v := undef) (by simp only [get9]; rfl) (by kernel_rfl) (by kernel_rfl) (by kernel_rfl) (by exact fun _ _ _ h => h) (Or.inr ⟨by rfl, rfl⟩) hHeld ?_
  try simp only [Act.put, set9]
  refine wpAnyH_take (i := 13) (v := undef) (by simp only [get9]; rfl) (by kernel_rfl) (by kernel_rfl) (by kernel_rfl) (by exact fun _ _ _ h => h) (Or.inr ⟨by rfl, rfl⟩) hHeld ?_
  try simp only [Act.put, set9]
  refine wpAnyH_take (i := 14) (v := undef) (by simp only [get9]; rfl) (by kernel_rfl) (by kernel_rfl) (by kernel_rfl) (by exact fun _ _ _ h => h) (Or.inr ⟨by rfl, rfl⟩) hHeld ?_
  try simp only [Act.put, set9]
  refine wpAnyH_take (i := 15) (v := ?v13) (by simp only [get9]; rfl) (by kernel_rfl) (by kernel_rfl) (by kernel_rfl) (by exact fun _ _ _ h => h) (Or.inl ⟨by rfl, fun w9 hS9 => ?hy13⟩) hHeld ?rest13
  case hy13 =>
   dsimp only at hS9
   obtain ⟨q0, q1, q2, q3, q4, q5⟩ := hS9
   go_simp
   try with_reducible rfl
  try simp only [Act.put, set9]
  refine wpAnyH_take (i := 16) (v := ?v14) (by simp only [get9]; rfl) (by kernel_rfl) (by kernel_rfl) (by kernel_rfl) (by exact fun _ _ _ h => h) (Or.inl ⟨by rfl, fun w9 hS9 => ?hy14⟩) hHeld ?rest14
  case hy14 =>
   dsimp only at hS9
   obtain ⟨q0, q1, q2, q3, q4, q5⟩ := hS9
   go_simp
   try with_reducible rfl
  try simp only [Act.put, set9]
  refine wpAnyH_take (i := 17) (v := undef) (by simp only [get9]; rfl) (by kernel_rfl) (by kernel_rfl) (by kernel_rfl) (by exact fun _ _ _ h => h) (Or.inr ⟨by rfl, rfl⟩) hHeld ?_
  try simp only [Act.put, set9]
  refine wpAnyH_take (i := 18) (v := undef) (by simp only [get9]; rfl) (by kernel_rfl) (by kernel_rfl) (by kernel_rfl) (by exact fun _ _ _ h => h) (Or.inr ⟨by rfl, rfl⟩) hHeld ?_
  try simp only [Act.put, set9]
  refine wpAnyH_take (i := 19) (v := undef) (by simp only [get9]; rfl) (by kernel_rfl) (by kernel_rfl) (by kernel_rfl) (by exact fun _ _ _ h => h) (Or.inr ⟨by rfl, rfl⟩) hHeld ?_
  try simp only [Act.put, set9]
  refine wpAnyH_take (i := 20) (v := undef) (by simp only [get9]; rfl) (by kernel_rfl) (by kernel_rfl) (by kernel_rfl) (by exact fun _ _ _ h => h) (Or.inr ⟨by rfl, rfl⟩) hHeld ?_
  try simp only [Act.put, set9]
  refine wpAnyH_take (i := 21) (v := undef) (by simp only [get9]; rfl) (by kernel_rfl) (by kernel_rfl) (by kernel_rfl) (by exact fun _ _ _ h => h) (Or.inr ⟨by rfl, rfl⟩) hHeld ?_
  try simp only [Act.put, set9]
  refine wpAnyH_take (i := 22) (v := undef) (by simp only [get9]; rfl) (by kernel_rfl) (by kernel_rfl) (by kernel_rfl) (by exact fun _ _ _ h => h) (Or.inr ⟨by rfl, rfl⟩) hHeld ?_
  try simp only [Act.put, set9]
  refine wpAnyH_take (i := 23) (v := undef) (by simp only [get9]; rfl) (by kernel_rfl) (by kernel_rfl) (by kernel_rfl) (by exact fun _ _ _ h => h) (Or.inr ⟨by rfl, rfl⟩) hHeld ?_
  try simp only [Act.put, set9]
  refine wpAnyH_take (i := 24) (v := undef) (by simp only [get9]; rfl) (by kernel_rfl) (by kernel_rfl) (by kernel_rfl) (by exact fun _ _ _ h => h) (Or.inr ⟨by rfl, rfl⟩) hHeld ?_
  try simp only [Act.put, set9]
  refine wpAnyH_take (i := 25) (v := undef) (by simp only [get9]; rfl) (by kernel_rfl) (by kernel_rfl) (by kernel_rfl) (by exact fun _ _ _ h => h) (Or.inr ⟨by rfl, rfl⟩) hHeld ?_
  try simp only [Act.put, set9]
  refine wpAnyH_take (i := 26) (v := ?v24) (by simp only [get9]; rfl) (by kernel_rfl) (by kernel_rfl) (by kernel_rfl) (by exact fun _ _ _ h => h) (Or.inl ⟨by rfl, fun w9 hS9 => ?hy24⟩) hHeld ?rest24
  case hy24 =>
   dsimp only at hS9
   obtain ⟨q0, q1, q2, q3, q4, q5⟩ := hS9
   go_simp
   try with_reducible rfl
  try simp only [Act.put, set9]
  refine wpAnyH_take (i := 27) (v := ?v25) (by simp only [get9]; rfl) (by kernel_rfl) (by kernel_rfl) (by kernel_rfl) (by exact fun _ _ _ h => h) (Or.inl ⟨by rfl, fun w9 hS9 => ?hy25⟩) hHeld ?rest25
  case hy25 =>
   dsimp only at hS9
   obtain ⟨q0, q1, q2, q3, q4, q5⟩ := hS9
   go_simp
   try with_reducible rfl
  try simp only [Act.put, set9]
  refine wpAnyH_done (by kernel_rfl) ?_ _
  go_wp2_with fail
  go_ret
  exact ⟨by rw [HT.out]; try rfl, HB.out.trans (HB3.out.mono HB.out.size)⟩
 | true =>
  have HA := Lib.hid qa
  cases qc : someOf (movesFrom b y false) (movesFrom a x false) with
  | false =>
   have HT : Hid (followsAtP a b x y = false) := Lib.hid (by unfold followsAtP; rw [qa, qc, Bool.false_and, Bool.and_false])
   have HC := Lib.hid qc
   clear qa qc
   obtain ⟨x0, x1, x2, -⟩ := HX.out
   obtain ⟨y0, y1, y2, -⟩ := HY.out
   go_enter Try.func100, Try.ntmps100
   go_wp2_with fail
   clear x0 x1 x2 y0 y1 y2
   generalize ((w.alloc (.cells #[.int .i64 a.st, .slice p np cp, .slice q n c] 27)).alloc (.cells #[.int .i64 b.st, .slice p' np' cp', .slice q' n' c'] 27)) = W0 at *
   have HBd : Hid (Below W0.heap.size W0 W0.drew) := Lib.hid (Below.refl _ _).drew
   refine wp_region_held_drew (S := fun w9 => w9.cell? ⟨w.heap.size, 0, none⟩ = some (.int .i64 a.st) ∧ w9.cell? ⟨w.heap.size, 1, none⟩ = some (.slice p np cp) ∧ w9.cell? ⟨w.heap.size, 2, none⟩ = some (.slice q n c) ∧ w9.cell? ⟨w.heap.size + 1, 0, none⟩ = some (.int .i64 b.st) ∧ w9.cell? ⟨w.heap.size + 1, 1, none⟩ = some (.slice p' np' cp') ∧ w9.cell? ⟨w.heap.size + 1, 2, none⟩ = some (.slice q' n' c')) (by kernel_rfl) ⟨cell_stay HX.out.1 HBd.out, cell_stay HX.out.2.1 HBd.out, cell_stay HX.out.2.2.1 HBd.out, cell_stay HY.out.1 HBd.out, cell_stay HY.out.2.1 HBd.out, cell_stay HY.out.2.2.1 HBd.out⟩ (fun hHeld => ?_)
   refine wpAnyH_take (i := 0) (v := ?v26) (by simp only [get9]; rfl) (by kernel_rfl) (by kernel_rfl) (by kernel_rfl) (by exact fun _ _ _ h => h) (Or.inl ⟨by rfl, fun w9 hS9 => ?hy26⟩) hHeld ?rest26
   case hy26 =>
    dsimp only at hS9
    obtain ⟨q0, q1, q2, q3, q4, q5⟩ := hS9
    go_simp
    try with_reducible rfl
   try simp only [Act.put, set9]
   refine wpAnyH_take (i := 1) (v := ?v27) (by simp only [get9]; rfl) (by kernel_rfl) (by kernel_rfl) (by kernel_rfl) (by exact fun _ _ _ h => h) (Or.inl ⟨by rfl, fun w9 hS9 => ?hy27⟩) hHeld ?rest27
   case hy27 =>
    dsimp only at hS9
    obtain ⟨q0, q1, q2, q3, q4, q5⟩ := hS9
    go_simp
    try with_reducible rfl
   try simp only [Act.put, set9]
   refine wpAnyH_take (i := 3) (v := ?v28) (by simp only [get9]; rfl) (by kernel_rfl) (by kernel_rfl) (by kernel_rfl) (by exact fun _ _ _ h => h) (Or.inl ⟨by rfl, fun w9 hS9 => ?hy28⟩) hHeld ?rest28
   case hy28 =>
    dsimp only at hS9
    obtain ⟨q0, q1, q2, q3, q4, q5⟩ := hS9
    go_simp
    try with_reducible rfl
   try simp only [Act.put, set9]
   refine wpAnyH_take (i := 4) (v := ?v29) (by simp only [get9]; rfl) (by kernel_rfl) (by kernel_rfl) (by kernel_rfl) (by exact fun _ _ _ h => h) (Or.inl ⟨by rfl, fun w9 hS9 => ?hy29⟩) hHeld ?rest29
   case hy29 =>
    dsimp only at hS9
    obtain ⟨q0, q1, q2, q3, q4, q5⟩ := hS9
    go_simp
    try with_reducible rfl
   try simp only [Act.put, set9]
   refine wpAnyH_ready (rs := [2]) (by kernel_rfl) (by simp) (AllReadyH.cons (by simp only [get9]; rfl) (fun K hK => ?_) AllReadyH.nil)
   go_simp
   refine (HM1.out _ (HB.out.trans (HBd.out.mono HB.out.size))).mono ?_
   rintro e w1 ⟨a1, n1, c1, rfl, ho1, hb1⟩
   have HB1 : Hid (Below W0.heap.size W0 w1) := Lib.hid (HBd.out.trans (hb1.mono HBd.out.size))
   have HO1 := Lib.hid ho1
   clear ho1
   clear hb1
   go_wp2_with fail
   refine hK.out _ _ ⟨cell_stay HX.out.1 HB1.out, cell_stay HX.out.2.1 HB1.out, cell_stay HX.out.2.2.1 HB1.out, cell_stay HY.out.1 HB1.out, cell_stay HY.out.2.1 HB1.out, cell_stay HY.out.2.2.1 HB1.out⟩ (fun hHeld => ?_)
   clear hK K
   try simp only [Act.put, set9]
   refine wpAnyH_ready (rs := [5]) (by kernel_rfl) (by simp) (AllReadyH.cons (by simp only [get9]; rfl) (fun K hK => ?_) AllReadyH.nil)
   go_simp
   refine (HM2.out _ (HB.out.trans (HB1.out.mono HB.out.size))).mono ?_
   rintro e w2 ⟨a2, n2, c2, rfl, ho2, hb2⟩
   have HB2 : Hid (Below W0.heap.size W0 w2) := Lib.hid (HB1.out.trans (hb2.mono HB1.out.size))
   have HO2 := Lib.hid ho2
   clear ho2
   replace HO1 := Lib.hid (HO1.out.same hb2)
   clear hb2
   go_wp2_with fail
   refine hK.out _ _ ⟨cell_stay HX.out.1 HB2.out, cell_stay HX.out.2.1 HB2.out, cell_stay HX.out.2.2.1 HB2.out, cell_stay HY.out.1 HB2.out, cell_stay HY.out.2.1 HB2.out, cell_stay HY.out.2.2.1 HB2.out⟩ (fun hHeld => ?_)
   clear hK K
   try simp only [Act.put, set9]
   refine wpAnyH_ready (rs := [6]) (by kernel_rfl) (by simp) (AllReadyH.cons (by simp only [get9]; rfl) (fun K hK => ?_) AllReadyH.nil)
   go_simp
   refine (isSomeOf_val (c := c1) (d := c2) HO1.out.nums HO2.out.nums (HZA.out x true) (HZB.out y true) (HLA.out x true) (HLB.out y true) HA.out).mono ?_
   rintro e w3 ⟨rfl, hb3⟩
   have HB3 : Hid (Below W0.heap.size W0 w3) := Lib.hid (HB2.out.trans (hb3.mono HB2.out.size))
   clear hb3
   go_wp2_with fail
   refine hK.out _ _ ⟨cell_stay HX.out.1 HB3.out, cell_stay HX.out.2.1 HB3.out, cell_stay HX.out.2.2.1 HB3.out, cell_stay HY.out.1 HB3.out, cell_stay HY.out.2.1 HB3.out, cell_stay HY.out.2.2.1 HB3.out⟩ (fun hHeld => ?_)
   clear hK K
   try simp only [Act.put, set9]
   refine wpAnyH_take (i := 7) (v := ?v30) (by simp only [get9]; rfl) (by kernel_rfl) (by kernel_rfl) (by kernel_rfl) (by exact fun _ _ _ h => h) (Or.inl ⟨by rfl, fun w9 hS9 => ?hy30⟩) hHeld ?rest30
   case hy30 =>
    dsimp only at hS9
    obtain ⟨q0, q1, q2, q3, q4, q5⟩ := hS9
    go_simp
    try with_reducible rfl
   try simp only [Act.put, set9]
   refine wpAnyH_take (i := 8) (v := ?v31) (by simp only [get9]; rfl) (by kernel_rfl) (by kernel_rfl) (by kernel_rfl) (by exact fun _ _ _ h => h) (Or.inl ⟨by rfl, fun w9 hS9 => ?hy31⟩) hHeld ?rest31
   case hy31 =>
    dsimp only at hS9
    obtain ⟨q0, q1, q2, q3, q4, q5⟩ := hS9
    go_simp
    try with_reducible rfl
   try simp only [Act.put, set9]
   refine wpAnyH_take (i := 9) (v := ?v32) (by simp only [get9]; rfl) (by kernel_rfl) (by kernel_rfl) (by kernel_rfl) (by exact fun _ _ _ h => h) (Or.inl ⟨by rfl, fun w9 hS9 => ?hy32⟩) hHeld ?rest32
   case hy32 =>
    dsimp only at hS9
    obtain ⟨q0, q1, q2, q3, q4, q5⟩ := hS9
    go_simp
    try with_reducible rfl
   try simp only [Act.put, set9]
   refine wpAnyH_take (i := 11) (v := ?v33) (by simp only [get9]; rfl) (by kernel_rfl) (by kernel_rfl) (by kernel_rfl) (by exact fun _ _ _ h => h) (Or.inl ⟨by rfl, fun w9 hS9 => ?hy33⟩) hHeld ?rest33
   case hy33 =>
    dsimp only at hS9
    obtain ⟨q0, q1, q2, q3, q4, q5⟩ := hS9
    go_simp
    try with_reducible rfl
   try simp only [Act.put, set9]
   refine wpAnyH_take (i := 12) (v := ?v34) (by simp only [get9]; rfl) (by kernel_rfl) (by kernel_rfl) (by kernel_rfl) (by exact fun _ _ _ h => h) (Or.inl ⟨by rfl, fun w9 hS9 => ?hy34⟩) hHeld ?rest34
   case hy34 =>
    dsimp only at hS9
    obtain ⟨q0, q1, q2, q3, q4, q5⟩ := hS9
    go_simp
    try with_reducible rfl
   try simp only [Act.put, set9]
   refine wpAnyH_ready (rs := [10]) (by kernel_rfl) (by simp) (AllReadyH.cons (by simp only [get9]; rfl) (fun K hK => ?_) AllReadyH.nil)
   go_simp
   refine (HM3.out _ (HB.out.trans (HB3.out.mono HB.out.size))).mono ?_
   rintro e w4 ⟨a3, n3, c3, rfl, ho4, hb4⟩
   have HB4 : Hid (Below W0.heap.size W0 w4) := Lib.hid (HB3.out.trans (hb4.mono HB3.out.size))
   have HO3 := Lib.hid ho4
   clear ho4
   clear hb4
   go_wp2_with fail
   refine hK.out _ _ ⟨cell_stay HX.out.1 HB4.out, cell_stay HX.out.2.1 HB4.out, cell_stay HX.out.2.2.1 HB4.out, cell_stay HY.out.1 HB4.out, cell_stay HY.out.2.1 HB4.out, cell_stay HY.out.2.2.1 HB4.out⟩ (fun hHeld => ?_)
   clear hK K
   try simp only [Act.put, set9]
   refine wpAnyH_ready (rs := [13]) (by kernel_rfl) (by simp) (AllReadyH.cons (by simp only [get9]; rfl) (fun K hK => ?_) AllReadyH.nil)
   go_simp
   refine (HM4.out _ (HB.out.trans (HB4.out.mono HB.out.size))).mono ?_
   rintro e w5 ⟨a4, n4, c4, rfl, ho5, hb5⟩
   have HB5 : Hid (Below W0.heap.size W0 w5) := Lib.hid (HB4.out.trans (hb5.mono HB4.out.size))
   have HO4 := Lib.hid ho5
   clear ho5
   replace HO3 := Lib.hid (HO3.out.same hb5)
   clear hb5
   go_wp2_with fail
   refine hK.out _ _ ⟨cell_stay HX.out.1 HB5.out, cell_stay HX.out.2.1 HB5.out, cell_stay HX.out.2.2.1 HB5.out, cell_stay HY.out.1 HB5.out, cell_stay HY.out.2.1 HB5.out, cell_stay HY.out.2.2.1 HB5.out⟩ (fun hHeld => ?_)
   clear hK K
   try simp only [Act.put, set9]
   refine wpAnyH_ready (rs := [14]) (by kernel_rfl) (by simp) (AllReadyH.cons (by simp only [get9]; rfl) (fun K hK => ?_) AllReadyH.nil)
   go_simp
   refine (isSomeOf_val (c := c3) (d := c4) HO3.out.nums HO4.out.nums (HZB.out y false) (HZA.out x false) (HLB.out y false) (HLA.out x false) HC.out).mono ?_
   rintro e w6 ⟨rfl, hb6⟩
   have HB6 : Hid (Below W0.heap.size W0 w6) := Lib.hid (HB5.out.trans (hb6.mono HB5.out.size))
   clear hb6
   go_wp2_with fail
   refine hK.out _ _ ⟨cell_stay HX.out.1 HB6.out, cell_stay HX.out.2.1 HB6.out, cell_stay HX.out.2.2.1 HB6.out, cell_stay HY.out.1 HB6.out, cell_stay HY.out.2.1 HB6.out, cell_stay HY.out.2.2.1 HB6.out⟩ (fun hHeld => ?_)
   clear hK K
   try simp only [Act.put, set9]
   refine wpAnyH_take (i := 15) (v := ?v35) (by simp only [get9]; rfl) (by kernel_rfl) (by kernel_rfl) (by kernel_rfl) (by exact fun _ _ _ h => h) (Or.inl ⟨by rfl, fun w9 hS9 => ?hy35⟩) hHeld ?rest35
   case hy35 =>
    dsimp only at hS9
    obtain ⟨q0, q1, q2, q3, q4, q5⟩ := hS9
    go_simp
    try with_reducible rfl
   try simp only [Act.put, set9]
   refine wpAnyH_take (i := 16) (v := ?v36) (by simp only [get9]; rfl) (by kernel_rfl) (by kernel_rfl) (by kernel_rfl) (by exact fun _ _ _ h => h) (Or.inl ⟨by rfl, fun w9 hS9 => ?hy36⟩) hHeld ?rest36
   case hy36 =>
    dsimp only at hS9
    obtain ⟨q0, q1, q2, q3, q4, q5⟩ := hS9
    go_simp
    try with_reducible rfl
   try simp only [Act.put, set9]
   refine wpAnyH_take (i := 17) (v := undef) (by simp only [get9]; rfl) (by kernel_rfl) (by kernel_rfl) (by kernel_rfl) (by exact fun _ _ _ h => h) (Or.inr ⟨by rfl, rfl⟩) hHeld ?_
   try simp only [Act.put, set9]
   refine wpAnyH_take (i := 18) (v := undef) (by simp only [get9]; rfl) (by kernel_rfl) (by kernel_rfl) (by kernel_rfl) (by exact fun _ _ _ h => h) (Or.inr ⟨by rfl, rfl⟩) hHeld ?_
   try simp only [Act.put, set9]
   refine wpAnyH_take (i := 19) (v := undef) (by simp only [get9]; rfl) (by kernel_rfl) (by kernel_rfl) (by kernel_rfl) (by exact fun _ _ _ h => h) (Or.inr ⟨by rfl, rfl⟩) hHeld ?_
   try simp only [Act.put, set9]
   refine wpAnyH_take (i := 20) (v := undef) (by simp only [get9]; rfl) (by kernel_rfl) (by kernel_rfl) (by kernel_rfl) (by exact fun _ _ _ h => h) (Or.inr ⟨by rfl, rfl⟩) hHeld ?_
   try simp only [Act.put, set9]
   refine wpAnyH_take (i := 21) (v := undef) (by simp only [get9]; rfl) (by kernel_rfl) (by kernel_rfl) (by kernel_rfl) (by exact fun _ _ _ h => h) (Or.inr ⟨by rfl, rfl⟩) hHeld ?_
   try simp only [Act.put, set9]
   refine wpAnyH_take (i := 22) (v := undef) (by simp only [get9]; rfl) (by kernel_rfl) (by kernel_rfl) (by kernel_rfl) (by exact fun _ _ _ h => h) (Or.inr ⟨by rfl, rfl⟩) hHeld ?_
   try simp only [Act.put, set9]
   refine wpAnyH_take (i := 23) (v := undef) (by simp only [get9]; rfl) (by kernel_rfl) (by kernel_rfl) (by kernel_rfl) (by exact fun _ _ _ h => h) (Or.inr ⟨by rfl, rfl⟩) hHeld ?_
   try simp only [Act.put, set9]
   refine wpAnyH_take (i := 24) (v := undef) (by simp only [get9]; rfl) (by kernel_rfl) (by kernel_rfl) (by kernel_rfl) (by exact fun _ _ _ h => h) (Or.inr ⟨by rfl, rfl⟩) hHeld ?_
   try simp only [Act.put, set9]
   refine wpAnyH_take (i := 25) (v := undef) (by simp only [get9]; rfl) (by kernel_rfl) (by kernel_rfl) (by kernel_rfl) (by exact fun _ _ _ h => h) (Or.inr ⟨by rfl, rfl⟩) hHeld ?_
   try simp only [Act.put, set9]
   refine wpAnyH_take (i := 26) (v := ?v46) (by simp only [get9]; rfl) (by kernel_rfl) (by kernel_rfl) (by kernel_rfl) (by exact fun _ _ _ h => h) (Or.inl ⟨by rfl, fun w9 hS9 => ?hy46⟩) hHeld ?rest46
   case hy46 =>
    dsimp only at hS9
    obtain ⟨q0, q1, q2, q3, q4, q5⟩ := hS9
    go_simp
    try with_reducible rfl
   try simp only [Act.put, set9]
   refine wpAnyH_take (i := 27) (v := ?v47) (by simp only [get9]; rfl) (by kernel_rfl) (by kernel_rfl) (by kernel_rfl) (by exact fun _ _ _ h => h) (Or.inl ⟨by rfl, fun w9 hS9 => ?hy47⟩) hHeld ?rest47
   case hy47 =>
    dsimp only at hS9
    obtain ⟨q0, q1, q2, q3, q4, q5⟩ := hS9
    go_simp
    try with_reducible rfl
   try simp only [Act.put, set9]
   refine wpAnyH_done (by kernel_rfl) ?_ _
   go_wp2_with fail
   go_ret
   exact ⟨by rw [HT.out]; try rfl, HB.out.trans (HB6.out.mono HB.out.size)⟩
  | true =>
   have HC := Lib.hid qc
   cases qe : endP a x with
   | true =>
    have HT : Hid (followsAtP a b x y = true) := Lib.hid (by unfold followsAtP; rw [qa, qc, qe]; rfl)
    rw [qe] at HE1
    clear qa qc qe
    obtain ⟨x0, x1, x2, -⟩ := HX.out
    obtain ⟨y0, y1, y2, -⟩ := HY.out
    go_enter Try.func100, Try.ntmps100
    go_wp2_with fail
    clear x0 x1 x2 y0 y1 y2
    generalize ((w.alloc (.cells #[.int .i64 a.st, .slice p np cp, .slice q n c] 27)).alloc (.cells #[.int .i64 b.st, .slice p' np' cp', .slice q' n' c'] 27)) = W0 at *
    have HBd : Hid (Below W0.heap.size W0 W0.drew) := Lib.hid (Below.refl _ _).drew
    refine wp_region_held_drew (S := fun w9 => w9.cell? ⟨w.heap.size, 0, none⟩ = some (.int .i64 a.st) ∧ w9.cell? ⟨w.heap.size, 1, none⟩ = some (.slice p np cp) ∧ w9.cell? ⟨w.heap.size, 2, none⟩ = some (.slice q n c) ∧ w9.cell? ⟨w.heap.size + 1, 0, none⟩ = some (.int .i64 b.st) ∧ w9.cell? ⟨w.heap.size + 1, 1, none⟩ = some (.slice p' np' cp') ∧ w9.cell? ⟨w.heap.size + 1, 2, none⟩ = some (.slice q' n' c')) (by kernel_rfl) ⟨cell_stay HX.out.1 HBd.out, cell_stay HX.out.2.1 HBd.out, cell_stay HX.out.2.2.1 HBd.out, cell_stay HY.out.1 HBd.out, cell_stay HY.out.2.1 HBd.out, cell_stay HY.out.2.2.1 HBd.out⟩ (fun hHeld => ?_)
    refine wpAnyH_take (i := 0) (v := ?v48) (by simp only [get9]; rfl) (by kernel_rfl) (by kernel_rfl) (by kernel_rfl) (by exact fun _ _ _ h => h) (Or.inl ⟨by rfl, fun w9 hS9 => ?hy48⟩) hHeld ?rest48
    case hy48 =>
     dsimp only at hS9
     obtain ⟨q0, q1, q2, q3, q4, q5⟩ := hS9
     go_simp
     try with_reducible rfl
    try simp only [Act.put, set9]
    refine wpAnyH_take (i := 1) (v := ?v49) (by simp only [get9]; rfl) (by kernel_rfl) (by kernel_rfl) (by kernel_rfl) (by exact fun _ _ _ h => h) (Or.inl ⟨by rfl, fun w9 hS9 => ?hy49⟩) hHeld ?rest49
    case hy49 =>
     dsimp only at hS9
     obtain ⟨q0, q1, q2, q3, q4, q5⟩ := hS9
     go_simp
     try with_reducible rfl
    try simp only [Act.put, set9]
    refine wpAnyH_take (i := 3) (v := ?v50) (by simp only [get9]; rfl) (by kernel_rfl) (by kernel_rfl) (by kernel_rfl) (by exact fun _ _ _ h => h) (Or.inl ⟨by rfl, fun w9 hS9 => ?hy50⟩) hHeld ?rest50
    case hy50 =>
     dsimp only at hS9
     obtain ⟨q0, q1, q2, q3, q4, q5⟩ := hS9
     go_simp
     try with_reducible rfl
    try simp only [Act.put, set9]
    refine wpAnyH_take (i := 4) (v := ?v51) (by simp only [get9]; rfl) (by kernel_rfl) (by kernel_rfl) (by kernel_rfl) (by exact fun _ _ _ h => h) (Or.inl ⟨by rfl, fun w9 hS9 => ?hy51⟩) hHeld ?rest51
    case hy51 =>
     dsimp only at hS9
     obtain ⟨q0, q1, q2, q3, q4, q5⟩ := hS9
     go_simp
     try with_reducible rfl
    try simp only [Act.put, set9]
    refine wpAnyH_ready (rs := [2]) (by kernel_rfl) (by simp) (AllReadyH.cons (by simp only [get9]; rfl) (fun K hK => ?_) AllReadyH.nil)
    go_simp
    refine (HM1.out _ (HB.out.trans (HBd.out.mono HB.out.size))).mono ?_
    rintro e w1 ⟨a1, n1, c1, rfl, ho1, hb1⟩
    have HB1 : Hid (Below W0.heap.size W0 w1) := Lib.hid (HBd.out.trans (hb1.mono HBd.out.size))
    have HO1 := Lib.hid ho1
    clear ho1
    clear hb1
    go_wp2_with fail
    refine hK.out _ _ ⟨cell_stay HX.out.1 HB1.out, cell_stay HX.out.2.1 HB1.out, cell_stay HX.out.2.2.1 HB1.out, cell_stay HY.out.1 HB1.out, cell_stay HY.out.2.1 HB1.out, cell_stay HY.out.2.2.1 HB1.out⟩ (fun hHeld => ?_)
    clear hK K
    try simp only [Act.put, set9]
    refine wpAnyH_ready (rs := [5]) (by kernel_rfl) (by simp) (AllReadyH.cons (by simp only [get9]; rfl) (fun K hK => ?_) AllReadyH.nil)
    go_simp
    refine (HM2.out _ (HB.out.trans (HB1.out.mono HB.out.size))).mono ?_
    rintro e w2 ⟨a2, n2, c2, rfl, ho2, hb2⟩
    have HB2 : Hid (Below W0.heap.size W0 w2) := Lib.hid (HB1.out.trans (hb2.mono HB1.out.size))
    have HO2 := Lib.hid ho2
    clear ho2
    replace HO1 := Lib.hid (HO1.out.same hb2)
    clear hb2
    go_wp2_with fail
    refine hK.out _ _ ⟨cell_stay HX.out.1 HB2.out, cell_stay HX.out.2.1 HB2.out, cell_stay HX.out.2.2.1 HB2.out, cell_stay HY.out.1 HB2.out, cell_stay HY.out.2.1 HB2.out, cell_stay HY.out.2.2.1 HB2.out⟩ (fun hHeld => ?_)
    clear hK K
    try simp only [Act.put, set9]
    refine wpAnyH_ready (rs := [6]) (by kernel_rfl) (by simp) (AllReadyH.cons (by simp only [get9]; rfl) (fun K hK => ?_) AllReadyH.nil)
    go_simp
    refine (isSomeOf_val (c := c1) (d := c2) HO1.out.nums HO2.out.nums (HZA.out x true) (HZB.out y true) (HLA.out x true) (HLB.out y true) HA.out).mono ?_
    rintro e w3 ⟨rfl, hb3⟩
    have HB3 : Hid (Below W0.heap.size W0 w3) := Lib.hid (HB2.out.trans (hb3.mono HB2.out.size))
    clear hb3
    go_wp2_with fail
    refine hK.out _ _ ⟨cell_stay HX.out.1 HB3.out, cell_stay HX.out.2.1 HB3.out, cell_stay HX.out.2.2.1 HB3.out, cell_stay HY.out.1 HB3.out, cell_stay HY.out.2.1 HB3.out, cell_stay HY.out.2.2.1 HB3.out⟩ (fun hHeld => ?_)
    clear hK K
    try simp only [Act.put, set9]
    refine wpAnyH_take (i := 7) (v := ?v52) (by simp only [get9]; rfl) (by kernel_rfl) (by kernel_rfl) (by kernel_rfl) (by exact fun _ _ _ h => h) (Or.inl ⟨by rfl, fun w9 hS9 => ?hy52⟩) hHeld ?rest52
    case hy52 =>
     dsimp only at hS9
     obtain ⟨q0, q1, q2, q3, q4, q5⟩ := hS9
     go_simp
     try with_reducible rfl
    try simp only [Act.put, set9]
    refine wpAnyH_take (i := 8) (v := ?v53) (by simp only [get9]; rfl) (by kernel_rfl) (by kernel_rfl) (by kernel_rfl) (by exact fun _ _ _ h => h) (Or.inl ⟨by rfl, fun w9 hS9 => ?hy53⟩) hHeld ?rest53
    case hy53 =>
     dsimp only at hS9
     obtain ⟨q0, q1, q2, q3, q4, q5⟩ := hS9
     go_simp
     try with_reducible rfl
    try simp only [Act.put, set9]
    refine wpAnyH_take (i := 9) (v := ?v54) (by simp only [get9]; rfl) (by kernel_rfl) (by kernel_rfl) (by kernel_rfl) (by exact fun _ _ _ h => h) (Or.inl ⟨by rfl, fun w9 hS9 => ?hy54⟩) hHeld ?rest54
    case hy54 =>
     dsimp only at hS9
     obtain ⟨q0, q1, q2, q3, q4, q5⟩ := hS9
     go_simp
     try with_reducible rfl
    try simp only [Act.put, set9]
    refine wpAnyH_take (i := 11) (v := ?v55) (by simp only [get9]; rfl) (by kernel_rfl) (by kernel_rfl) (by kernel_rfl) (by exact fun _ _ _ h => h) (Or.inl ⟨by rfl, fun w9 hS9 => ?hy55⟩) hHeld ?rest55
    case hy55 =>
     dsimp only at hS9
     obtain ⟨q0, q1, q2, q3, q4, q5⟩ := hS9
     go_simp
     try with_reducible rfl
    try simp only [Act.put, set9]
    refine wpAnyH_take (i := 12) (v := ?v56) (by simp only [get9]; rfl) (by kernel_rfl) (by kernel_rfl) (by kernel_rfl) (by exact fun _ _ _ h => h) (Or.inl ⟨by rfl, fun w9 hS9 => ?hy56⟩) hHeld ?rest56
    case hy56 =>
     dsimp only at hS9
     obtain ⟨q0, q1, q2, q3, q4, q5⟩ := hS9
     go_simp
     try with_reducible rfl
    try simp only [Act.put, set9]
    refine wpAnyH_ready (rs := [10]) (by kernel_rfl) (by simp) (AllReadyH.cons (by simp only [get9]; rfl) (fun K hK => ?_) AllReadyH.nil)
    go_simp
    refine (HM3.out _ (HB.out.trans (HB3.out.mono HB.out.size))).mono ?_
    rintro e w4 ⟨a3, n3, c3, rfl, ho4, hb4⟩
    have HB4 : Hid (Below W0.heap.size W0 w4) := Lib.hid (HB3.out.trans (hb4.mono HB3.out.size))
    have HO3 := Lib.hid ho4
    clear ho4
    clear hb4
    go_wp2_with fail
    refine hK.out _ _ ⟨cell_stay HX.out.1 HB4.out, cell_stay HX.out.2.1 HB4.out, cell_stay HX.out.2.2.1 HB4.out, cell_stay HY.out.1 HB4.out, cell_stay HY.out.2.1 HB4.out, cell_stay HY.out.2.2.1 HB4.out⟩ (fun hHeld => ?_)
    clear hK K
    try simp only [Act.put, set9]
    refine wpAnyH_ready (rs := [13]) (by kernel_rfl) (by simp) (AllReadyH.cons (by simp only [get9]; rfl) (fun K hK => ?_) AllReadyH.nil)
    go_simp
    refine (HM4.out _ (HB.out.trans (HB4.out.mono HB.out.size))).mono ?_
    rintro e w5 ⟨a4, n4, c4, rfl, ho5, hb5⟩
    have HB5 : Hid (Below W0.heap.size W0 w5) := Lib.hid (HB4.out.trans (hb5.mono HB4.out.size))
    have HO4 := Lib.hid ho5
    clear ho5
    replace HO3 := Lib.hid (HO3.out.same hb5)
    clear hb5
    go_wp2_with fail
    refine hK.out _ _ ⟨cell_stay HX.out.1 HB5.out, cell_stay HX.out.2.1 HB5.out, cell_stay HX.out.2.2.1 HB5.out, cell_stay HY.out.1 HB5.out, cell_stay HY.out.2.1 HB5.out, cell_stay HY.out.2.2.1 HB5.out⟩ (fun hHeld => ?_)
    clear hK K
    try simp only [Act.put, set9]
    refine wpAnyH_ready (rs := [14]) (by kernel_rfl) (by simp) (AllReadyH.cons (by simp only [get9]; rfl) (fun K hK => ?_) AllReadyH.nil)
    go_simp
    refine (isSomeOf_val (c := c3) (d := c4) HO3.out.nums HO4.out.nums (HZB.out y false) (HZA.out x false) (HLB.out y false) (HLA.out x false) HC.out).mono ?_
    rintro e w6 ⟨rfl, hb6⟩
    have HB6 : Hid (Below W0.heap.size W0 w6) := Lib.hid (HB5.out.trans (hb6.mono HB5.out.size))
    clear hb6
    go_wp2_with fail
    refine hK.out _ _ ⟨cell_stay HX.out.1 HB6.out, cell_stay HX.out.2.1 HB6.out, cell_stay HX.out.2.2.1 HB6.out, cell_stay HY.out.1 HB6.out, cell_stay HY.out.2.1 HB6.out, cell_stay HY.out.2.2.1 HB6.out⟩ (fun hHeld => ?_)
    clear hK K
    try simp only [Act.put, set9]
    refine wpAnyH_take (i := 15) (v := ?v57) (by simp only [get9]; rfl) (by kernel_rfl) (by kernel_rfl) (by kernel_rfl) (by exact fun _ _ _ h => h) (Or.inl ⟨by rfl, fun w9 hS9 => ?hy57⟩) hHeld ?rest57
    case hy57 =>
     dsimp only at hS9
     obtain ⟨q0, q1, q2, q3, q4, q5⟩ := hS9
     go_simp
     try with_reducible rfl
    try simp only [Act.put, set9]
    refine wpAnyH_take (i := 16) (v := ?v58) (by simp only [get9]; rfl) (by kernel_rfl) (by kernel_rfl) (by kernel_rfl) (by exact fun _ _ _ h => h) (Or.inl ⟨by rfl, fun w9 hS9 => ?hy58⟩) hHeld ?rest58
    case hy58 =>
     dsimp only at hS9
     obtain ⟨q0, q1, q2, q3, q4, q5⟩ := hS9
     go_simp
     try with_reducible rfl
    try simp only [Act.put, set9]
    refine wpAnyH_take (i := 17) (v := ?v59) (by simp only [get9]; rfl) (by kernel_rfl) (by kernel_rfl) (by kernel_rfl) (by exact fun _ _ _ h => h) (Or.inl ⟨by rfl, fun w9 hS9 => ?hy59⟩) hHeld ?rest59
    case hy59 =>
     dsimp only at hS9
     obtain ⟨q0, q1, q2, q3, q4, q5⟩ := hS9
     go_simp
     try with_reducible rfl
    try simp only [Act.put, set9]
    refine wpAnyH_take (i := 18) (v := ?v60) (by simp only [get9]; rfl) (by kernel_rfl) (by kernel_rfl) (by kernel_rfl) (by exact fun _ _ _ h => h) (Or.inl ⟨by rfl, fun w9 hS9 => ?hy60⟩) hHeld ?rest60
    case hy60 =>
     dsimp only at hS9
     obtain ⟨q0, q1, q2, q3, q4, q5⟩ := hS9
     go_simp
     try with_reducible rfl
    try simp only [Act.put, set9]
    refine wpAnyH_ready (rs := [19]) (by kernel_rfl) (by simp) (AllReadyH.cons (by simp only [get9]; rfl) (fun K hK => ?_) AllReadyH.nil)
    go_simp
    refine (HE1.out _ (HB.out.trans (HB6.out.mono HB.out.size))).mono ?_
    rintro e w7 ⟨rfl, hb7⟩
    have HB7 : Hid (Below W0.heap.size W0 w7) := Lib.hid (HB6.out.trans (hb7.mono HB6.out.size))
    clear hb7
    go_wp2_with fail
    refine hK.out _ _ ⟨cell_stay HX.out.1 HB7.out, cell_stay HX.out.2.1 HB7.out, cell_stay HX.out.2.2.1 HB7.out, cell_stay HY.out.1 HB7.out, cell_stay HY.out.2.1 HB7.out, cell_stay HY.out.2.2.1 HB7.out⟩ (fun hHeld => ?_)
    clear hK K
    try simp only [Act.put, set9]
    refine wpAnyH_take (i := 20) (v := ?v61) (by simp only [get9]; rfl) (by kernel_rfl) (by kernel_rfl) (by kernel_rfl) (by exact fun _ _ _ h => h) (Or.inl ⟨by rfl, fun w9 hS9 => ?hy61⟩) hHeld ?rest61
    case hy61 =>
     dsimp only at hS9
     obtain ⟨q0, q1, q2, q3, q4, q5⟩ := hS9
     go_simp
     try with_reducible rfl
    try simp only [Act.put, set9]
    refine wpAnyH_take (i := 21) (v := undef) (by simp only [get9]; rfl) (by kernel_rfl) (by kernel_rfl) (by kernel_rfl) (by exact fun _ _ _ h => h) (Or.inr ⟨by rfl, rfl⟩) hHeld ?_
    try simp only [Act.put, set9]
    refine wpAnyH_take (i := 22) (v := undef) (by simp only [get9]; rfl) (by kernel_rfl) (by kernel_rfl) (by kernel_rfl) (by exact fun _ _ _ h => h) (Or.inr ⟨by rfl, rfl⟩) hHeld ?_
    try simp only [Act.put, set9]
    refine wpAnyH_take (i := 23) (v := undef) (by simp only [get9]; rfl) (by kernel_rfl) (by kernel_rfl) (by kernel_rfl) (by exact fun _ _ _ h => h) (Or.inr ⟨by rfl, rfl⟩) hHeld ?_
    try simp only [Act.put, set9]
    refine wpAnyH_take (i := 24) (v := undef) (by simp only [get9]; rfl) (by kernel_rfl) (by kernel_rfl) (by kernel_rfl) (by exact fun _ _ _ h => h) (Or.inr ⟨by rfl, rfl⟩) hHeld ?_
    try simp only [Act.put, set9]
    refine wpAnyH_take (i := 25) (v := ?v66) (by simp only [get9]; rfl) (by kernel_rfl) (by kernel_rfl) (by kernel_rfl) (by exact fun _ _ _ h => h) (Or.inl ⟨by rfl, fun w9 hS9 => ?hy66⟩) hHeld ?rest66
    case hy66 =>
     dsimp only at hS9
     obtain ⟨q0, q1, q2, q3, q4, q5⟩ := hS9
     go_simp
     try with_reducible rfl
    try simp only [Act.put, set9]
    refine wpAnyH_take (i := 26) (v := ?v67) (by simp only [get9]; rfl) (by kernel_rfl) (by kernel_rfl) (by kernel_rfl) (by exact fun _ _ _ h => h) (Or.inl ⟨by rfl, fun w9 hS9 => ?hy67⟩) hHeld ?rest67
    case hy67 =>
     dsimp only at hS9
     obtain ⟨q0, q1, q2, q3, q4, q5⟩ := hS9
     go_simp
     try with_reducible rfl
    try simp only [Act.put, set9]
    refine wpAnyH_take (i := 27) (v := ?v68) (by simp only [get9]; rfl) (by kernel_rfl) (by kernel_rfl) (by kernel_rfl) (by exact fun _ _ _ h => h) (Or.inl ⟨by rfl, fun w9 hS9 => ?hy68⟩) hHeld ?rest68
    case hy68 =>
     dsimp only at hS9
     obtain ⟨q0, q1, q2, q3, q4, q5⟩ := hS9
     go_simp
     try with_reducible rfl
    try simp only [Act.put, set9]
    refine wpAnyH_done (by kernel_rfl) ?_ _
    go_wp2_with fail
    go_ret
    exact ⟨by rw [HT.out]; try rfl, HB.out.trans (HB7.out.mono HB.out.size)⟩
   | false =>
    have HT : Hid (followsAtP a b x y = !endP b y) := Lib.hid (by unfold followsAtP; rw [qa, qc, qe, Bool.true_and, Bool.true_and, Bool.false_or])
    rw [qe] at HE1
    clear qa qc qe
    obtain ⟨x0, x1, x2, -⟩ := HX.out
    obtain ⟨y0, y1, y2, -⟩ := HY.out
    go_enter Try.func100, Try.ntmps100
    go_wp2_with fail
    clear x0 x1 x2 y0 y1 y2
    generalize ((w.alloc (.cells #[.int .i64 a.st, .slice p np cp, .slice q n c] 27)).alloc (.cells #[.int .i64 b.st, .slice p' np' cp', .slice q' n' c'] 27)) = W0 at *
    have HBd : Hid (Below W0.heap.size W0 W0.drew) := Lib.hid (Below.refl _ _).drew
    refine wp_region_held_drew (S := fun w9 => w9.cell? ⟨w.heap.size, 0, none⟩ = some (.int .i64 a.st) ∧ w9.cell? ⟨w.heap.size, 1, none⟩ = some (.slice p np cp) ∧ w9.cell? ⟨w.heap.size, 2, none⟩ = some (.slice q n c) ∧ w9.cell? ⟨w.heap.size + 1, 0, none⟩ = some (.int .i64 b.st) ∧ w9.cell? ⟨w.heap.size + 1, 1, none⟩ = some (.slice p' np' cp') ∧ w9.cell? ⟨w.heap.size + 1, 2, none⟩ = some (.slice q' n' c')) (by kernel_rfl) ⟨cell_stay HX.out.1 HBd.out, cell_stay HX.out.2.1 HBd.out, cell_stay HX.out.2.2.1 HBd.out, cell_stay HY.out.1 HBd.out, cell_stay HY.out.2.1 HBd.out, cell_stay HY.out.2.2.1 HBd.out⟩ (fun hHeld => ?_)
    refine wpAnyH_take (i := 0) (v := ?v69) (by simp only [get9]; rfl) (by kernel_rfl) (by kernel_rfl) (by kernel_rfl) (by exact fun _ _ _ h => h) (Or.inl ⟨by rfl, fun w9 hS9 => ?hy69⟩) hHeld ?rest69
    case hy69 =>
     dsimp only at hS9
     obtain ⟨q0, q1, q2, q3, q4, q5⟩ := hS9
     go_simp
     try with_reducible rfl
    try simp only [Act.put, set9]
    refine wpAnyH_take (i := 1) (v := ?v70) (by simp only [get9]; rfl) (by kernel_rfl) (by kernel_rfl) (by kernel_rfl) (by exact fun _ _ _ h => h) (Or.inl ⟨by rfl, fun w9 hS9 => ?hy70⟩) hHeld ?rest70
    case hy70 =>
     dsimp only at hS9
     obtain ⟨q0, q1, q2, q3, q4, q5⟩ := hS9
     go_simp
     try with_reducible rfl
    try simp only [Act.put, set9]
    refine wpAnyH_take (i := 3) (v := ?v71) (by simp only [get9]; rfl) (by kernel_rfl) (by kernel_rfl) (by kernel_rfl) (by exact fun _ _ _ h => h) (Or.inl ⟨by rfl, fun w9 hS9 => ?hy71⟩) hHeld ?rest71
    case hy71 =>
     dsimp only at hS9
     obtain ⟨q0, q1, q2, q3, q4, q5⟩ := hS9
     go_simp
     try with_reducible rfl
    try simp only [Act.put, set9]
    refine wpAnyH_take (i := 4) (v := ?v72) (by simp only [get9]; rfl) (by kernel_rfl) (by kernel_rfl) (by kernel_rfl) (by exact fun _ _ _ h => h) (Or.inl ⟨by rfl, fun w9 hS9 => ?hy72⟩) hHeld ?rest72
    case hy72 =>
     dsimp only at hS9
     obtain ⟨q0, q1, q2, q3, q4, q5⟩ := hS9
     go_simp
     try with_reducible rfl
    try simp only [Act.put, set9]
    refine wpAnyH_ready (rs := [2]) (by kernel_rfl) (by simp) (AllReadyH.cons (by simp only [get9]; rfl) (fun K hK => ?_) AllReadyH.nil)
    go_simp
    refine (HM1.out _ (HB.out.trans (HBd.out.mono HB.out.size))).mono ?_
    rintro e w1 ⟨a1, n1, c1, rfl, ho1, hb1⟩
    have HB1 : Hid (Below W0.heap.size W0 w1) := Lib.hid (HBd.out.trans (hb1.mono HBd.out.size))
    have HO1 := Lib.hid ho1
    clear ho1
    clear hb1
    go_wp2_with fail
    refine hK.out _ _ ⟨cell_stay HX.out.1 HB1.out, cell_stay HX.out.2.1 HB1.out, cell_stay HX.out.2.2.1 HB1.out, cell_stay HY.out.1 HB1.out, cell_stay HY.out.2.1 HB1.out, cell_stay HY.out.2.2.1 HB1.out⟩ (fun hHeld => ?_)
    clear hK K
    try simp only [Act.put, set9]
    refine wpAnyH_ready (rs := [5]) (by kernel_rfl) (by simp) (AllReadyH.cons (by simp only [get9]; rfl) (fun K hK => ?_) AllReadyH.nil)
    go_simp
    refine (HM2.out _ (HB.out.trans (HB1.out.mono HB.out.size))).mono ?_
    rintro e w2 ⟨a2, n2, c2, rfl, ho2, hb2⟩
    have HB2 : Hid (Below W0.heap.size W0 w2) := Lib.hid (HB1.out.trans (hb2.mono HB1.out.size))
    have HO2 := Lib.hid ho2
    clear ho2
    replace HO1 := Lib.hid (HO1.out.same hb2)
    clear hb2
    go_wp2_with fail
    refine hK.out _ _ ⟨cell_stay HX.out.1 HB2.out, cell_stay HX.out.2.1 HB2.out, cell_stay HX.out.2.2.1 HB2.out, cell_stay HY.out.1 HB2.out, cell_stay HY.out.2.1 HB2.out, cell_stay HY.out.2.2.1 HB2.out⟩ (fun hHeld => ?_)
    clear hK K
    try simp only [Act.put, set9]
    refine wpAnyH_ready (rs := [6]) (by kernel_rfl) (by simp) (AllReadyH.cons (by simp only [get9]; rfl) (fun K hK => ?_) AllReadyH.nil)
    go_simp
    refine (isSomeOf_val (c := c1) (d := c2) HO1.out.nums HO2.out.nums (HZA.out x true) (HZB.out y true) (HLA.out x true) (HLB.out y true) HA.out).mono ?_
    rintro e w3 ⟨rfl, hb3⟩
    have HB3 : Hid (Below W0.heap.size W0 w3) := Lib.hid (HB2.out.trans (hb3.mono HB2.out.size))
    clear hb3
    go_wp2_with fail
    refine hK.out _ _ ⟨cell_stay HX.out.1 HB3.out, cell_stay HX.out.2.1 HB3.out, cell_stay HX.out.2.2.1 HB3.out, cell_stay HY.out.1 HB3.out, cell_stay HY.out.2.1 HB3.out, cell_stay HY.out.2.2.1 HB3.out⟩ (fun hHeld => ?_)
    clear hK K
    try simp only [Act.put, set9]
    refine wpAnyH_take (i := 7) (v := ?v73) (by simp only [get9]; rfl) (by kernel_rfl) (by kernel_rfl) (by kernel_rfl) (by exact fun _ _ _ h => h) (Or.inl ⟨by rfl, fun w9 hS9 => ?hy73⟩) hHeld ?rest73
    case hy73 =>
     dsimp only at hS9
     obtain ⟨q0, q1, q2, q3, q4, q5⟩ := hS9
     go_simp
     try with_reducible rfl
    try simp only [Act.put, set9]
    refine wpAnyH_take (i := 8) (v := ?v74) (by simp only [get9]; rfl) (by kernel_rfl) (by kernel_rfl) (by kernel_rfl) (by exact fun _ _ _ h => h) (Or.inl ⟨by rfl, fun w9 hS9 => ?hy74⟩) hHeld ?rest74
    case hy74 =>
     dsimp only at hS9
     obtain ⟨q0, q1, q2, q3, q4, q5⟩ := hS9
     go_simp
     try with_reducible rfl
    try simp only [Act.put, set9]
    refine wpAnyH_take (i := 9) (v := ?v75) (by simp only [get9]; rfl) (by kernel_rfl) (by kernel_rfl) (by kernel_rfl) (by exact fun _ _ _ h => h) (Or.inl ⟨by rfl, fun w9 hS9 => ?hy75⟩) hHeld ?rest75
    case hy75 =>
     dsimp only at hS9
     obtain ⟨q0, q1, q2, q3, q4, q5⟩ := hS9
     go_simp
     try with_reducible rfl
    try simp only [Act.put, set9]
    refine wpAnyH_take (i := 11) (v := ?v76) (by simp only [get9]; rfl) (by kernel_rfl) (by kernel_rfl) (by kernel_rfl) (by exact fun _ _ _ h => h) (Or.inl ⟨by rfl, fun w9 hS9 => ?hy76⟩) hHeld ?rest76
    case hy76 =>
     dsimp only at hS9
     obtain ⟨q0, q1, q2, q3, q4, q5⟩ := hS9
     go_simp
     try with_reducible rfl
    try simp only [Act.put, set9]
    refine wpAnyH_take (i := 12) (v := ?v77) (by simp only [get9]; rfl) (by kernel_rfl) (by kernel_rfl) (by kernel_rfl) (by exact fun _ _ _ h => h) (Or.inl ⟨by rfl, fun w9 hS9 => ?hy77⟩) hHeld ?rest77
    case hy77 =>
     dsimp only at hS9
     obtain ⟨q0, q1, q2, q3, q4, q5⟩ := hS9
     go_simp
     try with_reducible rfl
    try simp only [Act.put, set9]
    refine wpAnyH_ready (rs := [10]) (by kernel_rfl) (by simp) (AllReadyH.cons (by simp only [get9]; rfl) (fun K hK => ?_) AllReadyH.nil)
    go_simp
    refine (HM3.out _ (HB.out.trans (HB3.out.mono HB.out.size))).mono ?_
    rintro e w4 ⟨a3, n3, c3, rfl, ho4, hb4⟩
    have HB4 : Hid (Below W0.heap.size W0 w4) := Lib.hid (HB3.out.trans (hb4.mono HB3.out.size))
    have HO3 := Lib.hid ho4
    clear ho4
    clear hb4
    go_wp2_with fail
    refine hK.out _ _ ⟨cell_stay HX.out.1 HB4.out, cell_stay HX.out.2.1 HB4.out, cell_stay HX.out.2.2.1 HB4.out, cell_stay HY.out.1 HB4.out, cell_stay HY.out.2.1 HB4.out, cell_stay HY.out.2.2.1 HB4.out⟩ (fun hHeld => ?_)
    clear hK K
    try simp only [Act.put, set9]
    refine wpAnyH_ready (rs := [13]) (by kernel_rfl) (by simp) (AllReadyH.cons (by simp only [get9]; rfl) (fun K hK => ?_) AllReadyH.nil)
    go_simp
    refine (HM4.out _ (HB.out.trans (HB4.out.mono HB.out.size))).mono ?_
    rintro e w5 ⟨a4, n4, c4, rfl, ho5, hb5⟩
    have HB5 : Hid (Below W0.heap.size W0 w5) := Lib.hid (HB4.out.trans (hb5.mono HB4.out.size))
    have HO4 := Lib.hid ho5
    clear ho5
    replace HO3 := Lib.hid (HO3.out.same hb5)
    clear hb5
    go_wp2_with fail
    refine hK.out _ _ ⟨cell_stay HX.out.1 HB5.out, cell_stay HX.out.2.1 HB5.out, cell_stay HX.out.2.2.1 HB5.out, cell_stay HY.out.1 HB5.out, cell_stay HY.out.2.1 HB5.out, cell_stay HY.out.2.2.1 HB5.out⟩ (fun hHeld => ?_)
    clear hK K
    try simp only [Act.put, set9]
    refine wpAnyH_ready (rs := [14]) (by kernel_rfl) (by simp) (AllReadyH.cons (by simp only [get9]; rfl) (fun K hK => ?_) AllReadyH.nil)
    go_simp
    refine (isSomeOf_val (c := c3) (d := c4) HO3.out.nums HO4.out.nums (HZB.out y false) (HZA.out x false) (HLB.out y false) (HLA.out x false) HC.out).mono ?_
    rintro e w6 ⟨rfl, hb6⟩
    have HB6 : Hid (Below W0.heap.size W0 w6) := Lib.hid (HB5.out.trans (hb6.mono HB5.out.size))
    clear hb6
    go_wp2_with fail
    refine hK.out _ _ ⟨cell_stay HX.out.1 HB6.out, cell_stay HX.out.2.1 HB6.out, cell_stay HX.out.2.2.1 HB6.out, cell_stay HY.out.1 HB6.out, cell_stay HY.out.2.1 HB6.out, cell_stay HY.out.2.2.1 HB6.out⟩ (fun hHeld => ?_)
    clear hK K
    try simp only [Act.put, set9]
    refine wpAnyH_take (i := 15) (v := ?v78) (by simp only [get9]; rfl) (by kernel_rfl) (by kernel_rfl) (by kernel_rfl) (by exact fun _ _ _ h => h) (Or.inl ⟨by rfl, fun w9 hS9 => ?hy78⟩) hHeld ?rest78
    case hy78 =>
     dsimp only at hS9
     obtain ⟨q0, q1, q2, q3, q4, q5⟩ := hS9
     go_simp
     try with_reducible rfl
    try simp only [Act.put, set9]
    refine wpAnyH_take (i := 16) (v := ?v79) (by simp only [get9]; rfl) (by kernel_rfl) (by kernel_rfl) (by kernel_rfl) (by exact fun _ _ _ h => h) (Or.inl ⟨by rfl, fun w9 hS9 => ?hy79⟩) hHeld ?rest79
    case hy79 =>
     dsimp only at hS9
     obtain ⟨q0, q1, q2, q3, q4, q5⟩ := hS9
     go_simp
     try with_reducible rfl
    try simp only [Act.put, set9]
    refine wpAnyH_take (i := 17) (v := ?v80) (by simp only [get9]; rfl) (by kernel_rfl) (by kernel_rfl) (by kernel_rfl) (by exact fun _ _ _ h => h) (Or.inl ⟨by rfl, fun w9 hS9 => ?hy80⟩) hHeld ?rest80
    case hy80 =>
     dsimp only at hS9
     obtain ⟨q0, q1, q2, q3, q4, q5⟩ := hS9
     go_simp
     try with_reducible rfl
    try simp only [Act.put, set9]
    refine wpAnyH_take (i := 18) (v := ?v81) (by simp only [get9]; rfl) (by kernel_rfl) (by kernel_rfl) (by kernel_rfl) (by exact fun _ _ _ h => h) (Or.inl ⟨by rfl, fun w9 hS9 => ?hy81⟩) hHeld ?rest81
    case hy81 =>
     dsimp only at hS9
     obtain ⟨q0, q1, q2, q3, q4, q5⟩ := hS9
     go_simp
     try with_reducible rfl
    try simp only [Act.put, set9]
    refine wpAnyH_ready (rs := [19]) (by kernel_rfl) (by simp) (AllReadyH.cons (by simp only [get9]; rfl) (fun K hK => ?_) AllReadyH.nil)
    go_simp
    refine (HE1.out _ (HB.out.trans (HB6.out.mono HB.out.size))).mono ?_
    rintro e w7 ⟨rfl, hb7⟩
    have HB7 : Hid (Below W0.heap.size W0 w7) := Lib.hid (HB6.out.trans (hb7.mono HB6.out.size))
    clear hb7
    go_wp2_with fail
    refine hK.out _ _ ⟨cell_stay HX.out.1 HB7.out, cell_stay HX.out.2.1 HB7.out, cell_stay HX.out.2.2.1 HB7.out, cell_stay HY.out.1 HB7.out, cell_stay HY.out.2.1 HB7.out, cell_stay HY.out.2.2.1 HB7.out⟩ (fun hHeld => ?_)
    clear hK K
    try simp only [Act.put, set9]
    refine wpAnyH_take (i := 20) (v := ?v82) (by simp only [get9]; rfl) (by kernel_rfl) (by kernel_rfl) (by kernel_rfl) (by exact fun _ _ _ h => h) (Or.inl ⟨by rfl, fun w9 hS9 => ?hy82⟩) hHeld ?rest82
    case hy82 =>
     dsimp only at hS9
     obtain ⟨q0, q1, q2, q3, q4, q5⟩ := hS9
     go_simp
     try with_reducible rfl
    try simp only [Act.put, set9]
    refine wpAnyH_take (i := 21) (v := ?v83) (by simp only [get9]; rfl) (by kernel_rfl) (by kernel_rfl) (by kernel_rfl) (by exact fun _ _ _ h => h) (Or.inl ⟨by rfl, fun w9 hS9 => ?hy83⟩) hHeld ?rest83
    case hy83 =>
     dsimp only at hS9
     obtain ⟨q0, q1, q2, q3, q4, q5⟩ := hS9
     go_simp
     try with_reducible rfl
    try simp only [Act.put, set9]
    refine wpAnyH_take (i := 22) (v := ?v84) (by simp only [get9]; rfl) (by kernel_rfl) (by kernel_rfl) (by kernel_rfl) (by exact fun _ _ _ h => h) (Or.inl ⟨by rfl, fun w9 hS9 => ?hy84⟩) hHeld ?rest84
    case hy84 =>
     dsimp only at hS9
     obtain ⟨q0, q1, q2, q3, q4, q5⟩ := hS9
     go_simp
     try with_reducible rfl
    try simp only [Act.put, set9]
    refine wpAnyH_ready (rs := [23]) (by kernel_rfl) (by simp) (AllReadyH.cons (by simp only [get9]; rfl) (fun K hK => ?_) AllReadyH.nil)
    go_simp
    refine (HE2.out _ (HB.out.trans (HB7.out.mono HB.out.size))).mono ?_
    rintro e w8 ⟨rfl, hb8⟩
    have HB8 : Hid (Below W0.heap.size W0 w8) := Lib.hid (HB7.out.trans (hb8.mono HB7.out.size))
    clear hb8
    go_wp2_with fail
    refine hK.out _ _ ⟨cell_stay HX.out.1 HB8.out, cell_stay HX.out.2.1 HB8.out, cell_stay HX.out.2.2.1 HB8.out, cell_stay HY.out.1 HB8.out, cell_stay HY.out.2.1 HB8.out, cell_stay HY.out.2.2.1 HB8.out⟩ (fun hHeld => ?_)
    clear hK K
    try simp only [Act.put, set9]
    refine wpAnyH_take (i := 24) (v := ?v85) (by simp only [get9]; rfl) (by kernel_rfl) (by kernel_rfl) (by kernel_rfl) (by exact fun _ _ _ h => h) (Or.inl ⟨by rfl, fun w9 hS9 => ?hy85⟩) hHeld ?rest85
    case hy85 =>
     dsimp only at hS9
     obtain ⟨q0, q1, q2, q3, q4, q5⟩ := hS9
     go_simp
     try with_reducible rfl
    try simp only [Act.put, set9]
    refine wpAnyH_take (i := 25) (v := ?v86) (by simp only [get9]; rfl) (by kernel_rfl) (by kernel_rfl) (by kernel_rfl) (by exact fun _ _ _ h => h) (Or.inl ⟨by rfl, fun w9 hS9 => ?hy86⟩) hHeld ?rest86
    case hy86 =>
     dsimp only at hS9
     obtain ⟨q0, q1, q2, q3, q4, q5⟩ := hS9
     go_simp
     try with_reducible rfl
    try simp only [Act.put, set9]
    refine wpAnyH_take (i := 26) (v := ?v87) (by simp only [get9]; rfl) (by kernel_rfl) (by kernel_rfl) (by kernel_rfl) (by exact fun _ _ _ h => h) (Or.inl ⟨by rfl, fun w9 hS9 => ?hy87⟩) hHeld ?rest87
    case hy87 =>
     dsimp only at hS9
     obtain ⟨q0, q1, q2, q3, q4, q5⟩ := hS9
     go_simp
     try with_reducible rfl
    try simp only [Act.put, set9]
    refine wpAnyH_take (i := 27) (v := ?v88) (by simp only [get9]; rfl) (by kernel_rfl) (by kernel_rfl) (by kernel_rfl) (by exact fun _ _ _ h => h) (Or.inl ⟨by rfl, fun w9 hS9 => ?hy88⟩) hHeld ?rest88
    case hy88 =>
     dsimp only at hS9
     obtain ⟨q0, q1, q2, q3, q4, q5⟩ := hS9
     go_simp
     try with_reducible rfl
    try simp only [Act.put, set9]
    refine wpAnyH_done (by kernel_rfl) ?_ _
    go_wp2_with fail
    go_ret
    exact ⟨by rw [HT.out]; try rfl, HB.out.trans (HB8.out.mono HB.out.size)⟩
end Go.Proofs.Ytckmgbobkffabaa
