/- What the law of machines draws: a machine and a list of numbers; a machine, a state and a direction. -/
import Derived.Test.YtaaogdhkehkamaaDmb
import Derived.Test.YtaaogdhkehkamaaIntI
namespace Go.Proofs.Ytaaogdhkehkamaa
open Go.ChangeShapes Go.WideShapes Go.ChangeAt Go.RowKit
set_option linter.unusedVariables false
set_option linter.unusedSimpArgs false

def DrewRun (w : World) (e : Ending) (w' : World) : Prop :=
  ∃ v x q m d l, e = .returned (.tuple #[v, .slice q m d]) ∧ MacW w' v x ∧ OkMac x ∧ Nums .i64 w' q m l ∧ m ≤ 7 ∧ (∀ z ∈ l, I64 z) ∧ Below w.heap.size w w'
def DrewFrom (w : World) (e : Ending) (w' : World) : Prop :=
  ∃ v x s t, e = .returned (.tuple #[v, .int .i64 s, .bool t]) ∧ MacW w' v x ∧ OkMac x ∧ Below w.heap.size w w'
/-- The result's box is written to: what lies elsewhere stays. -/
theorem leaveM {w wr : World} {B G k r m d : Nat} {x : Mac} {p q : Option Addr} (hX : BoxM B wr G x p k r q m d) (hB : w.heap.size < B) (v0 v1 v2 : Value) :
    MacW (((wr.setCell ⟨w.heap.size, 0, none⟩ v0).setCell ⟨w.heap.size, 1, none⟩ v1).setCell ⟨w.heap.size, 2, none⟩ v2) (.agg #[.int .i64 x.st, .slice p k r, .slice q m d]) x := by
  have hp : ∀ ad, p = some ad → ad.block ≠ w.heap.size := fun ad e => by have := (hX.ends.span ad e).1; omega
  have hq : ∀ ad, q = some ad → ad.block ≠ w.heap.size := fun ad e => by have := (hX.moves.span ad e).1; omega
  exact ⟨p, k, r, q, m, d, rfl, (((hX.ends.set hp _).set hp _).set hp _).items blEnc_len, (((hX.moves.set hq _).set hq _).set hq _).items Mv.enc_len, hX.ends.room, hX.moves.room⟩
theorem nums_set3 {w wr : World} {B n c : Nat} {a : Option Addr} {l : List Int} {t : TypeId} (h : Own .i64 t wr B a n c l) (hB : w.heap.size < B) (v0 v1 v2 : Value) :
    Nums .i64 (((wr.setCell ⟨w.heap.size, 0, none⟩ v0).setCell ⟨w.heap.size, 1, none⟩ v1).setCell ⟨w.heap.size, 2, none⟩ v2) a n l := by
  have hg : Inside w.heap.size (w.heap.size + 1) wr (((wr.setCell ⟨w.heap.size, 0, none⟩ v0).setCell ⟨w.heap.size, 1, none⟩ v1).setCell ⟨w.heap.size, 2, none⟩ v2) :=
    ((Inside.row (put_grown wr w.heap.size 0 v0) (fun r e => by cases e; omega)).trans (Inside.row (put_grown _ w.heap.size 1 v1) (fun r e => by cases e; omega))).trans (Inside.row (put_grown _ w.heap.size 2 v2) (fun r e => by cases e; omega))
  exact (h.aside hg h.span (Or.inl hB)).nums
theorem below_set3 {w wr : World} (h : Below w.heap.size w wr) (v0 v1 v2 : Value) : Below w.heap.size w (((wr.setCell ⟨w.heap.size, 0, none⟩ v0).setCell ⟨w.heap.size, 1, none⟩ v1).setCell ⟨w.heap.size, 2, none⟩ v2) :=
  ((h.setCell (p := ⟨w.heap.size, 0, none⟩) (Nat.le_refl _) v0).setCell (p := ⟨w.heap.size, 1, none⟩) (Nat.le_refl _) v1).setCell (p := ⟨w.heap.size, 2, none⟩) (Nat.le_refl _) v2

set_option maxHeartbeats 4000000 in
set_option maxRecDepth 100000 in
theorem drawMovesFrom_any (a : Option Addr) (n c : Nat) (w : World) (hC : Code w a n) : Calls Try.prog 16 #[.slice a n c] w (DrewFrom w) := by
  have HAL := Lib.hid (alloc_same w (.cells #[.int .i64 0, .slice none 0 0, .slice none 0 0] 27))
  have HGR := Lib.hid (heap_alloc_new w (.cells #[.int .i64 0, .slice none 0 0, .slice none 0 0] 27 (0, 0)))
  change Hid ((w.alloc (.cells #[.int .i64 0, .slice none 0 0, .slice none 0 0] 27)).heap[w.heap.size]? = _) at HGR
  have hCA := hC.same HAL.out
  have HCA := Lib.hid hCA
  have hsA : w.heap.size < (w.alloc (.cells #[.int .i64 0, .slice none 0 0, .slice none 0 0] 27)).heap.size := by simp
  clear hC hCA
  go_enter Try.func16, Try.ntmps16
  go_wp2_with fail
  generalize w.alloc (.cells #[.int .i64 0, .slice none 0 0, .slice none 0 0] 27) = WA at *
  refine (new_any a n c HCA.out.2 _ HCA.out.1).mono ?_
  rintro e w1 ⟨rfl, hc1, hb1⟩
  obtain ⟨b, hb⟩ : ∃ b, b = WA.heap.size := ⟨_, rfl⟩
  rw [← hb] at hc1 ⊢
  have HC1 := Lib.hid hc1
  have hb1l : b < w1.heap.size := hc1.lt
  have hbA : w.heap.size < b := by omega
  have HB1 : Hid (Below w.heap.size w w1) := Lib.hid (HAL.out.trans (hb1.mono (by omega)))
  have HGR1 := Lib.hid ((hb1.block w.heap.size hsA).trans HGR.out)
  clear hc1 hb1 hb
  go_wp2_with fail
  refine (l13Any_any b a n c _ HC1.out).mono ?_
  rintro e w2 ⟨v, x, rfl, ⟨p, k, r, q, m, d, rfl, ho1, ho2, hsep, hsp, hsq, hS, hr1, hr2⟩, hok, hd2⟩
  have hs2 := hd2.2.size
  have HOK := Lib.hid hok
  have hG1 := heap_alloc_new w2 (.cells #[.int .i64 x.st, .slice p k r, .slice q m d] 27 (0, 0))
  change (w2.alloc (.cells #[.int .i64 x.st, .slice p k r, .slice q m d] 27)).heap[w2.heap.size]? = _ at hG1
  have HX := Lib.hid (show BoxM w1.heap.size (w2.alloc (.cells #[.int .i64 x.st, .slice p k r, .slice q m d] 27)) w2.heap.size x p k r q m d from ⟨hs2, hG1, ho1.alloc _, ho2.alloc _, hsep, (fun ad e => by have := (hsp ad e).2; omega), (fun ad e => by have := (hsq ad e).2; omega)⟩)
  have hd3 := hd2.same (alloc_same w2 (.cells #[.int .i64 x.st, .slice p k r, .slice q m d] 27))
  have HB2 : Hid (Below w.heap.size w (w2.alloc (.cells #[.int .i64 x.st, .slice p k r, .slice q m d] 27))) := Lib.hid (HB1.out.trans (hd3.below (B := w.heap.size) (by omega) HB1.out.size))
  have hszb := HB1.out.size
  have HGR2 := Lib.hid ((hd3.2.block w.heap.size (by omega) (by omega)).trans HGR1.out)
  have HCX := Lib.hid hd3.1
  have hml := ho2.len
  have hm9 : m ≤ 9 := by have := hok.2.1; omega
  obtain ⟨G, hG⟩ : ∃ G, G = w2.heap.size := ⟨_, rfl⟩
  rw [← hG] at HX
  obtain ⟨e0, e1, e2, -, -, -⟩ := three_cells HX.out.heap
  have hsX : w1.heap.size ≤ (w2.alloc (.cells #[.int .i64 x.st, .slice p k r, .slice q m d] 27)).heap.size := by simp; omega
  clear hd2 hd3 ho1 ho2 hsep hsp hsq hS hG1 hr1 hr2 hok
  go_wp2_with fail
  rw [← hG]
  have HWG : Hid ((w2.alloc (.cells #[.int .i64 x.st, .slice p k r, .slice q m d] 27)).heap.size = G + 1) := Lib.hid (by rw [hG]; simp)
  clear e0 e1 e2 hG
  generalize (w2.alloc (.cells #[.int .i64 x.st, .slice p k r, .slice q m d] 27)) = WX at *
  refine (below_any b a n c 5 (by omega) (by omega) _ HCX.out).mono ?_
  rintro e w3 ⟨s, hs0, hs1, rfl, hd3⟩
  have HD3 := Lib.hid hd3
  have HX3 := Lib.hid (HX.out.only hd3.2 hb1l)
  clear hd3
  go_wp2_with fail
  have DS : Hid (Drawn b a n c WX w3.drew) := Lib.hid (HD3.out.same (Below.refl _ w3).drew)
  have XS : Hid (BoxM w1.heap.size w3.drew G x p k r q m d) := Lib.hid (HX3.out.same (Below.refl _ w3).drew)
  refine wp_region_held_drew (S := fun w9 => w9.cell? ⟨G, 0, none⟩ = some (.int .i64 x.st) ∧ w9.cell? ⟨G, 1, none⟩ = some (.slice p k r) ∧ w9.cell? ⟨G, 2, none⟩ = some (.slice q m d)) (by kernel_rfl) ⟨(three_cells XS.out.heap).1, (three_cells XS.out.heap).2.1, (three_cells XS.out.heap).2.2.1⟩ (fun hHeld => ?_)
  refine wpAnyH_take (i := 0) (v := ?v1) (by simp only [List.getElem?_toArray, List.getElem?_cons_succ, List.getElem?_cons_zero]; rfl) (by kernel_rfl) (by kernel_rfl) (by kernel_rfl) (by exact fun _ _ _ h => h) (Or.inl ⟨by rfl, fun w9 hS9 => ?hy1⟩) hHeld ?rest1
  case hy1 =>
    dsimp only at hS9
    obtain ⟨q0, q1, q2⟩ := hS9
    go_simp
    try with_reducible rfl
  try simp only [Act.put, List.setIfInBounds_toArray, List.set_cons_zero, List.set_cons_succ]
  refine wpAnyH_take (i := 1) (v := ?v2) (by simp only [List.getElem?_toArray, List.getElem?_cons_succ, List.getElem?_cons_zero]; rfl) (by kernel_rfl) (by kernel_rfl) (by kernel_rfl) (by exact fun _ _ _ h => h) (Or.inl ⟨by rfl, fun w9 hS9 => ?hy2⟩) hHeld ?rest2
  case hy2 =>
    dsimp only at hS9
    obtain ⟨q0, q1, q2⟩ := hS9
    go_simp
    try with_reducible rfl
  try simp only [Act.put, List.setIfInBounds_toArray, List.set_cons_zero, List.set_cons_succ]
  refine wpAnyH_take (i := 2) (v := ?v3) (by simp only [List.getElem?_toArray, List.getElem?_cons_succ, List.getElem?_cons_zero]; rfl) (by kernel_rfl) (by kernel_rfl) (by kernel_rfl) (by exact fun _ _ _ h => h) (Or.inl ⟨by rfl, fun w9 hS9 => ?hy3⟩) hHeld ?rest3
  case hy3 =>
    dsimp only at hS9
    obtain ⟨q0, q1, q2⟩ := hS9
    go_simp
    try with_reducible rfl
  try simp only [Act.put, List.setIfInBounds_toArray, List.set_cons_zero, List.set_cons_succ]
  refine wpAnyH_ready (rs := [3]) (by kernel_rfl) (by simp) (AllReadyH.cons (by simp only [List.getElem?_toArray, List.getElem?_cons_succ, List.getElem?_cons_zero]; rfl) (fun K hK => ?_) AllReadyH.nil)
  go_simp
  refine (once_any b a n c 2 (by omega) (by omega) _ DS.out.1).mono ?_
  rintro e w4 ⟨t, rfl, hd4⟩
  have HD4 := Lib.hid (DS.out.trans hd4)
  have HX4 := Lib.hid (XS.out.only hd4.2 hb1l)
  clear hd4
  go_wp2_with fail
  refine hK.out _ _ ⟨(three_cells HX4.out.heap).1, (three_cells HX4.out.heap).2.1, (three_cells HX4.out.heap).2.2.1⟩ (fun hHeld => ?_)
  clear hK K
  try simp only [Act.put, List.setIfInBounds_toArray, List.set_cons_zero, List.set_cons_succ]
  refine wpAnyH_ready (rs := [4]) (by kernel_rfl) (by simp) (AllReadyH.cons (by simp only [List.getElem?_toArray, List.getElem?_cons_succ, List.getElem?_cons_zero]; rfl) (fun K hK => ?_) AllReadyH.nil)
  have hz4 : w4.heap[w.heap.size]? = some (.cells #[.int .i64 0, .slice none 0 0, .slice none 0 0] 27 (0, 0)) := (HD4.out.2.block w.heap.size (by omega) (by omega)).trans HGR2.out
  obtain ⟨m0, m1, m2, f0, f1, f2⟩ := three_cells hz4
  obtain ⟨z0, z1, z2, hZ⟩ := three_put hz4 (.int .i64 x.st) (.slice p k r) (.slice q m d)
  have hgw : G ≠ w.heap.size := by have := HX4.out.base; omega
  clear hZ hz4
  go_simp
  refine hK.out _ _ (by have hc := three_cells HX4.out.heap; exact ⟨cell_apart hc.1 (((put_grown _ _ _ _).trans (put_grown _ _ _ _)).trans (put_grown _ _ _ _)) (by simpa using fun e => hgw e.symm), cell_apart hc.2.1 (((put_grown _ _ _ _).trans (put_grown _ _ _ _)).trans (put_grown _ _ _ _)) (by simpa using fun e => hgw e.symm), cell_apart hc.2.2.1 (((put_grown _ _ _ _).trans (put_grown _ _ _ _)).trans (put_grown _ _ _ _)) (by simpa using fun e => hgw e.symm)⟩) (fun hHeld => ?_)
  clear hK K
  try simp only [Act.put, List.setIfInBounds_toArray, List.set_cons_zero, List.set_cons_succ]
  refine wpAnyH_take (i := 5) (v := ?v4) (by simp only [List.getElem?_toArray, List.getElem?_cons_succ, List.getElem?_cons_zero]; rfl) (by kernel_rfl) (by kernel_rfl) (by kernel_rfl) (by exact fun _ _ _ h => h) (Or.inl ⟨by rfl, fun w9 hS9 => ?hy4⟩) hHeld ?rest4
  case hy4 =>
    dsimp only at hS9
    obtain ⟨q0, q1, q2⟩ := hS9
    go_simp
    try with_reducible rfl
  try simp only [Act.put, List.setIfInBounds_toArray, List.set_cons_zero, List.set_cons_succ]
  refine wpAnyH_take (i := 6) (v := ?v5) (by simp only [List.getElem?_toArray, List.getElem?_cons_succ, List.getElem?_cons_zero]; rfl) (by kernel_rfl) (by kernel_rfl) (by kernel_rfl) (by exact fun _ _ _ h => h) (Or.inl ⟨by rfl, fun w9 hS9 => ?hy5⟩) hHeld ?rest5
  case hy5 =>
    dsimp only at hS9
    obtain ⟨q0, q1, q2⟩ := hS9
    go_simp
    try with_reducible rfl
  try simp only [Act.put, List.setIfInBounds_toArray, List.set_cons_zero, List.set_cons_succ]
  refine wpAnyH_done (by kernel_rfl) ?_ _
  go_wp2_with fail
  (try simp only [Exit.inBlock, Exit.then])
  refine bodyPost_ret (by simp [results, Try.results16, go_sem, z0, z1, z2]; try rfl) rfl ?_
  exact ⟨_, x, _, _, rfl, leaveM HX4.out (by have := HB1.out.size; omega) _ _ _, HOK.out, below_set3 (HB2.out.trans (HD4.out.below (B := w.heap.size) (by omega) HB2.out.size)) _ _ _⟩

set_option maxHeartbeats 8000000 in
set_option maxRecDepth 100000 in
theorem drawRunMachine_any (a : Option Addr) (n c : Nat) (w : World) (hC : Code w a n) : Calls Try.prog 11 #[.slice a n c] w (DrewRun w) := by
  obtain ⟨i0, hi, hz0, hz1, hz2⟩ := info_parts infoIntS
  have HI := Lib.hid (And.intro hi (And.intro hz0 (And.intro hz1 hz2)))
  clear hi hz0 hz1 hz2
  have HAL := Lib.hid (alloc_same w (.cells #[.int .i64 0, .slice none 0 0, .slice none 0 0] 27))
  have HGR := Lib.hid (heap_alloc_new w (.cells #[.int .i64 0, .slice none 0 0, .slice none 0 0] 27 (0, 0)))
  change Hid ((w.alloc (.cells #[.int .i64 0, .slice none 0 0, .slice none 0 0] 27)).heap[w.heap.size]? = _) at HGR
  have hCA := hC.same HAL.out
  have HCA := Lib.hid hCA
  have hsA : w.heap.size < (w.alloc (.cells #[.int .i64 0, .slice none 0 0, .slice none 0 0] 27)).heap.size := by simp
  clear hC hCA
  go_enter Try.func11, Try.ntmps11
  go_wp2_with fail
  generalize w.alloc (.cells #[.int .i64 0, .slice none 0 0, .slice none 0 0] 27) = WA at *
  refine (new_any a n c HCA.out.2 _ HCA.out.1).mono ?_
  rintro e w1 ⟨rfl, hc1, hb1⟩
  obtain ⟨b, hb⟩ : ∃ b, b = WA.heap.size := ⟨_, rfl⟩
  rw [← hb] at hc1 ⊢
  have HC1 := Lib.hid hc1
  have hb1l : b < w1.heap.size := hc1.lt
  have hbA : w.heap.size < b := by omega
  have HB1 : Hid (Below w.heap.size w w1) := Lib.hid (HAL.out.trans (hb1.mono (by omega)))
  have HGR1 := Lib.hid ((hb1.block w.heap.size hsA).trans HGR.out)
  clear hc1 hb1 hb
  go_wp2_with fail
  refine (l13Any_any b a n c _ HC1.out).mono ?_
  rintro e w2 ⟨v, x, rfl, ⟨p, k, r, q, m, d, rfl, ho1, ho2, hsep, hsp, hsq, hS, hr1, hr2⟩, hok, hd2⟩
  have hs2 := hd2.2.size
  have HOK := Lib.hid hok
  have hG1 := heap_alloc_new w2 (.cells #[.int .i64 x.st, .slice p k r, .slice q m d] 27 (0, 0))
  change (w2.alloc (.cells #[.int .i64 x.st, .slice p k r, .slice q m d] 27)).heap[w2.heap.size]? = _ at hG1
  have HX := Lib.hid (show BoxM w1.heap.size (w2.alloc (.cells #[.int .i64 x.st, .slice p k r, .slice q m d] 27)) w2.heap.size x p k r q m d from ⟨hs2, hG1, ho1.alloc _, ho2.alloc _, hsep, (fun ad e => by have := (hsp ad e).2; omega), (fun ad e => by have := (hsq ad e).2; omega)⟩)
  have hd3 := hd2.same (alloc_same w2 (.cells #[.int .i64 x.st, .slice p k r, .slice q m d] 27))
  have HB2 : Hid (Below w.heap.size w (w2.alloc (.cells #[.int .i64 x.st, .slice p k r, .slice q m d] 27))) := Lib.hid (HB1.out.trans (hd3.below (B := w.heap.size) (by omega) HB1.out.size))
  have hszb := HB1.out.size
  have HGR2 := Lib.hid ((hd3.2.block w.heap.size (by omega) (by omega)).trans HGR1.out)
  have HCX := Lib.hid hd3.1
  have hml := ho2.len
  have hm9 : m ≤ 9 := by have := hok.2.1; omega
  obtain ⟨G, hG⟩ : ∃ G, G = w2.heap.size := ⟨_, rfl⟩
  rw [← hG] at HX
  obtain ⟨e0, e1, e2, -, -, -⟩ := three_cells HX.out.heap
  have hsX : w1.heap.size ≤ (w2.alloc (.cells #[.int .i64 x.st, .slice p k r, .slice q m d] 27)).heap.size := by simp; omega
  clear hd2 hd3 ho1 ho2 hsep hsp hsq hS hG1 hr1 hr2 hok
  go_wp2_with fail
  rw [← hG]
  have HWG : Hid ((w2.alloc (.cells #[.int .i64 x.st, .slice p k r, .slice q m d] 27)).heap.size = G + 1) := Lib.hid (by rw [hG]; simp)
  clear e0 e1 e2 hG
  have HWO : Hid (Own .i64 3 ((w2.alloc (.cells #[.int .i64 x.st, .slice p k r, .slice q m d] 27)).alloc (.cells #[] 3)) (w2.alloc (.cells #[.int .i64 x.st, .slice p k r, .slice q m d] 27)).heap.size (some ⟨G + 1, 0, none⟩) 0 0 []) := Lib.hid (by rw [← HWG.out]; exact Own.empty (Nat.le_refl _))
  have HDX : Hid (Drawn b a n c (w2.alloc (.cells #[.int .i64 x.st, .slice p k r, .slice q m d] 27)) ((w2.alloc (.cells #[.int .i64 x.st, .slice p k r, .slice q m d] 27)).alloc (.cells #[] 3))) := Lib.hid ((Drawn.refl HCX.out).same (alloc_same _ _))
  generalize hgx : (w2.alloc (.cells #[.int .i64 x.st, .slice p k r, .slice q m d] 27)) = WX at *
  clear hgx
  try generalize hgy : (WX.alloc (.cells #[] 3)) = WY at *
  clear hgy
  refine (below_any b a n c 6 (by omega) (by omega) _ HDX.out.1).mono ?_
  rintro e w4 ⟨y4, hy0, hy1, rfl, hd4⟩
  obtain ⟨r4, rfl⟩ : ∃ r : Nat, y4 = r := ⟨y4.toNat, by omega⟩
  have hr4 : r4 ≤ 5 := by omega
  have HD4 := Lib.hid (HDX.out.trans hd4)
  have HW4 := Lib.hid (HWO.out.only hd4.2 HWO.out.span (Or.inl (by omega)))
  clear hd4 hy0 hy1 HWO HDX
  go_wp2_with fail
  go_loopw [6, 7, 8] (fun t u v wr => ∃ (j : Nat) (s : Int) (q6 : Option Addr) (m6 d6 : Nat) (l : List Int), v = .int .i64 j ∧ u = .int .i64 s ∧ t = .slice q6 m6 d6 ∧ m6 + j ≤ 5 ∧ Own .i64 3 wr WX.heap.size q6 m6 d6 l ∧ Hid (∀ z ∈ l, I64 z) ∧ Drawn b a n c WX wr) (fun _ _ v _ => (intOf v).toNat)
  case atStart => exact ⟨r4, 0, _, 0, 0, [], by go_num, rfl, rfl, by omega, HW4.out, Lib.hid (by simp), HD4.out⟩
  case round =>
    clear HD4 HW4
    obtain ⟨j, s, q6, m6, d6, l, rfl, rfl, rfl, hmj, ho, HL, hd⟩ := hrel
    have HO := Lib.hid ho
    have HD := Lib.hid hd
    clear ho hd
    by_cases h0 : 0 < j
    · have h0I : (0 : Int) < (j : Int) := by omega
      go_wp2_with fail
      refine (below_any b a n c 7 (by omega) (by omega) _ HD.out.1).mono ?_
      rintro e w5 ⟨y5, hy0, hy1, rfl, hd5⟩
      have HD5 := Lib.hid (HD.out.trans hd5)
      have HO5 := Lib.hid (HO.out.only hd5.2 HO.out.span (Or.inl (by omega)))
      clear hd5
      go_wp2_with fail
      go_loopw [7, 9, 10] (fun u7 u9 t wr => ∃ (kk : Nat), u7 = .int .i64 s ∧ u9 = .int .i64 (y5 - 3) ∧ t = .int .i64 kk ∧ kk ≤ m ∧ Own .i64 3 wr WX.heap.size q6 m6 d6 l ∧ Drawn b a n c WX wr) (fun _ _ t _ => m - (intOf t).toNat)
      case atStart => exact ⟨0, rfl, rfl, rfl, Nat.zero_le _, HO5.out, HD5.out⟩
      case round =>
        clear HD5 HO5 HO HD
        obtain ⟨kk, rfl, rfl, rfl, hkm, ho, hd⟩ := hrel
        have HO := Lib.hid ho
        have HD := Lib.hid hd
        have HXr := Lib.hid (HX.out.only hd.2 hb1l)
        obtain ⟨e0, e1, e2, -, -, -⟩ := three_cells HXr.out.heap
        clear ho hd
        by_cases hkl : kk < m
        · have hklI : (kk : Int) < (m : Int) := by omega
          go_wp2_with fail
          clear e0 e1 e2
          refine (once_any b a n c 2 (by omega) (by omega) _ HD.out.1).mono ?_
          rintro e w6 ⟨tb, rfl, hd6⟩
          have HD6 := Lib.hid (HD.out.trans hd6)
          have HO6 := Lib.hid (HO.out.only hd6.2 HO.out.span (Or.inl (by omega)))
          have HX6 := Lib.hid (HXr.out.only hd6.2 hb1l)
          clear hd6
          cases tb with
          | false =>
            go_wp2_with (at_builtin; refine wpl_app _ rfl (.tmp 71) (.tmp 73) 28 rfl .i64 3 i0 (.int .i64 0) 8 Try.underlying28 HI.out.1 HI.out.2.1 HI.out.2.2.1 HI.out.2.2.2 rfl rfl (HO6.out.alloc _) rfl (nums_new w6 .i64 (y5 - 3) 3) (by omega) ?ca ?cb ?_)
            case ca => omega
            case cb => have := HD6.out.2.size; simp; omega
            intro a7 c7 w7 ho7 hb7
            have HO7 := Lib.hid ho7
            have HD7 := Lib.hid (HD6.out.under HCX.out (((Below.refl WX.heap.size w6).alloc (by have := HD6.out.2.size; omega) _).trans hb7) (Nat.le_refl _))
            clear ho7 hb7
            go_wp2_with fail
            go_roundw
            case rel => exact ⟨j - 1, s, a7, m6 + 1, c7, _, by go_num, rfl, by simp, by omega, HO7.out, Lib.hid (fun u hu => by
              rcases List.mem_append.1 hu with g | g
              · exact HL.out u g
              · rw [List.mem_singleton.1 g]
                unfold I64; omega), HD7.out⟩
            case measure => simp [intOf]; omega
          | true =>
            obtain ⟨b5, o5, z, e5, hz, c0, c1, c2, c3⟩ := mvs_at (HX6.out.moves.items Mv.enc_len) hkl
            subst e5
            have hzm := HOK.out.2.2 z (List.mem_of_getElem? hz)
            obtain ⟨e0, e1, e2, -, -, -⟩ := three_cells HX6.out.heap
            clear hz
            by_cases hfs : z.frm = s
            · have f1 : (z.frm == s) = true := by simpa using hfs
              cases hsd : z.send with
              | true =>
                rw [hsd] at c1
                go_wp2_with (at_builtin; refine wpl_app _ rfl (.tmp 71) (.tmp 73) 28 rfl .i64 3 i0 (.int .i64 0) 8 Try.underlying28 HI.out.1 HI.out.2.1 HI.out.2.2.1 HI.out.2.2.2 rfl rfl (HO6.out.alloc _) rfl (nums_new w6 .i64 (z.msg) 3) (by omega) ?ca ?cb ?_)
                case ca => omega
                case cb => have := HD6.out.2.size; simp; omega
                intro a7 c7 w7 ho7 hb7
                have HO7 := Lib.hid ho7
                have HD7 := Lib.hid (HD6.out.under HCX.out (((Below.refl WX.heap.size w6).alloc (by have := HD6.out.2.size; omega) _).trans hb7) (Nat.le_refl _))
                clear ho7 hb7
                go_wp2_with fail
                go_roundw
                case rel => exact ⟨j - 1, z.to, a7, m6 + 1, c7, _, by go_num, rfl, by simp, by omega, HO7.out, Lib.hid (fun u hu => by
                  rcases List.mem_append.1 hu with g | g
                  · exact HL.out u g
                  · rw [List.mem_singleton.1 g]
                    exact hzm), HD7.out⟩
                case measure => simp [intOf]; omega
              | false =>
                rw [hsd] at c1
                have hzm2 := hzm
                unfold I64 at hzm2
                have ew : RowKit.wrap64 (RowKit.wrap64 (-z.msg) - 1) = -z.msg - 1 := by
                  unfold RowKit.wrap64
                  omega
                go_wp2_with (at_builtin; refine wpl_app _ rfl (.tmp 71) (.tmp 73) 28 rfl .i64 3 i0 (.int .i64 0) 8 Try.underlying28 HI.out.1 HI.out.2.1 HI.out.2.2.1 HI.out.2.2.2 rfl rfl (HO6.out.alloc _) rfl (nums_new w6 .i64 (-z.msg - 1) 3) (by omega) ?ca ?cb ?_)
                case ca => omega
                case cb => have := HD6.out.2.size; simp; omega
                intro a7 c7 w7 ho7 hb7
                have HO7 := Lib.hid ho7
                have HD7 := Lib.hid (HD6.out.under HCX.out (((Below.refl WX.heap.size w6).alloc (by have := HD6.out.2.size; omega) _).trans hb7) (Nat.le_refl _))
                clear ho7 hb7
                go_wp2_with fail
                go_roundw
                case rel => exact ⟨j - 1, z.to, a7, m6 + 1, c7, _, by go_num, rfl, by simp, by omega, HO7.out, Lib.hid (fun u hu => by
                  rcases List.mem_append.1 hu with g | g
                  · exact HL.out u g
                  · rw [List.mem_singleton.1 g]
                    unfold I64; omega), HD7.out⟩
                case measure => simp [intOf]; omega
            · have f1 : (z.frm == s) = false := by simpa using hfs
              go_wp2_with fail
              go_roundw
              case rel => exact ⟨kk + 1, rfl, rfl, by go_num, by omega, HO6.out, HD6.out⟩
              case measure => simp [intOf]; omega
        · obtain rfl : kk = m := by omega
          go_wp2_with (at_builtin; refine wpl_app _ rfl (.tmp 71) (.tmp 73) 28 rfl .i64 3 i0 (.int .i64 0) 8 Try.underlying28 HI.out.1 HI.out.2.1 HI.out.2.2.1 HI.out.2.2.2 rfl rfl (HO.out.alloc _) rfl (nums_new wr .i64 (y5 - 3) 3) (by omega) ?ca ?cb ?_)
          case ca => omega
          case cb => have := HD.out.2.size; simp; omega
          intro a7 c7 w7 ho7 hb7
          have HO7 := Lib.hid ho7
          have HD7 := Lib.hid (HD.out.under HCX.out (((Below.refl WX.heap.size wr).alloc (by have := HD.out.2.size; omega) _).trans hb7) (Nat.le_refl _))
          clear ho7 hb7
          go_wp2_with fail
          go_roundw
          case rel => exact ⟨j - 1, s, a7, m6 + 1, c7, _, by go_num, rfl, by simp, by omega, HO7.out, Lib.hid (fun u hu => by
            rcases List.mem_append.1 hu with g | g
            · exact HL.out u g
            · rw [List.mem_singleton.1 g]
              unfold I64; omega), HD7.out⟩
          case measure => simp [intOf]; omega
    · obtain rfl : j = 0 := by omega
      go_wp2_with fail
      refine (once_any b a n c 12 (by omega) (by omega) _ HD.out.1).mono ?_
      rintro e w5 ⟨tb, rfl, hd5⟩
      have HD5 := Lib.hid (HD.out.trans hd5)
      have HO5 := Lib.hid (HO.out.only hd5.2 HO.out.span (Or.inl (by omega)))
      have HX5 := Lib.hid (HX.out.only HD5.out.2 hb1l)
      clear hd5
      cases tb with
      | false =>
        have hh : (w5).heap[G]? = some (.cells #[.int .i64 x.st, .slice p k r, .slice q m d] 27 (0, 0)) := HX5.out.heap
        obtain ⟨e0, e1, e2, -, -, -⟩ := three_cells hh
        have hzz : (w5).heap[w.heap.size]? = some (.cells #[.int .i64 0, .slice none 0 0, .slice none 0 0] 27 (0, 0)) := (HD5.out.2.block w.heap.size (by omega) (by omega)).trans HGR2.out
        obtain ⟨m0, m1, m2, f0, f1, f2⟩ := three_cells hzz
        obtain ⟨z0, z1, z2, hZ⟩ := three_put hzz (.int .i64 x.st) (.slice p k r) (.slice q m d)
        clear hZ hh hzz
        go_wp2_with fail
        (try simp only [Exit.inBlock, Exit.then])
        refine bodyPost_ret (by simp [results, Try.results11, go_sem, z0, z1, z2]; try rfl) rfl ?_
        exact ⟨_, x, _, _, _, _, rfl, leaveM HX5.out (by have := HB1.out.size; omega) _ _ _, HOK.out, nums_set3 HO5.out (by omega) _ _ _, by omega, HL.out, below_set3 (HB2.out.trans (HD5.out.below (B := w.heap.size) (by omega) HB2.out.size)) _ _ _⟩
      | true =>
        go_wp2_with fail
        refine (pickNew b a n c [9223372036854775807, -9223372036854775808] 2 (by omega) (by omega) rfl rfl w5 HD5.out.1).mono ?_
        rintro e w6 ⟨z6, hz6, rfl, hd6⟩
        have hz6b : I64 z6 := list_i64 (by decide) hz6
        have HD6 := Lib.hid (HD5.out.trans hd6)
        have HO6 := Lib.hid (HO5.out.only hd6.2 HO5.out.span (Or.inl (by omega)))
        clear hd6 hz6
        go_wp2_with (at_builtin; refine wpl_app _ rfl (.tmp 77) (.tmp 81) 28 rfl .i64 3 i0 (.int .i64 0) 8 Try.underlying28 HI.out.1 HI.out.2.1 HI.out.2.2.1 HI.out.2.2.2 rfl rfl (HO6.out.alloc _) rfl (nums_new w6 .i64 z6 3) (by omega) ?ca ?cb ?_)
        case ca => omega
        case cb => have := HD6.out.2.size; simp; omega
        intro a7 c7 w7 ho7 hb7
        have HO7 := Lib.hid ho7
        have HD7 := Lib.hid (HD6.out.under HCX.out (((Below.refl WX.heap.size w6).alloc (by have := HD6.out.2.size; omega) _).trans hb7) (Nat.le_refl _))
        have HX7 := Lib.hid (HX.out.only HD7.out.2 hb1l)
        clear ho7 hb7
        have hh : (w7).heap[G]? = some (.cells #[.int .i64 x.st, .slice p k r, .slice q m d] 27 (0, 0)) := HX7.out.heap
        obtain ⟨e0, e1, e2, -, -, -⟩ := three_cells hh
        have hzz : (w7).heap[w.heap.size]? = some (.cells #[.int .i64 0, .slice none 0 0, .slice none 0 0] 27 (0, 0)) := (HD7.out.2.block w.heap.size (by omega) (by omega)).trans HGR2.out
        obtain ⟨m0, m1, m2, f0, f1, f2⟩ := three_cells hzz
        obtain ⟨z0, z1, z2, hZ⟩ := three_put hzz (.int .i64 x.st) (.slice p k r) (.slice q m d)
        clear hZ hh hzz
        go_wp2_with fail
        (try simp only [Exit.inBlock, Exit.then])
        refine bodyPost_ret (by simp [results, Try.results11, go_sem, z0, z1, z2]; try rfl) rfl ?_
        exact ⟨_, x, _, _, _, _, rfl, leaveM HX7.out (by have := HB1.out.size; omega) _ _ _, HOK.out, nums_set3 HO7.out (by omega) _ _ _, by omega, (fun u hu => by
          rcases List.mem_append.1 hu with g | g
          · exact HL.out u g
          · rw [List.mem_singleton.1 g]; exact hz6b), below_set3 (HB2.out.trans (HD7.out.below (B := w.heap.size) (by omega) HB2.out.size)) _ _ _⟩
end Go.Proofs.Ytaaogdhkehkamaa
