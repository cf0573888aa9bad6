/- A message read from its bytes, by the model. The helpers of the exact laws at lists of values: measured, copied, compared. A message read from the beginning of its bytes, and from all of them, by the model. What is written is read, and what is read was written: for the functions' answers. No function of the program is spoken of. The mathematics of the hash: a fold of numbers modulo a prime, one factor and two terms. No function of the program is spoken of. -/
import Derived.Test.YtjkjnhkamieljaaG6
import Derived.Test.YtjkjnhkamieljaaG4
import Derived.Test.YtjkjnhkamieljaaG2
import Derived.Deep.QuietTactic
import Derived.BigQuiet
import Derived.RegionTactic
import Derived.StillTailTactics
import Derived.Handy
namespace Go.Proofs.Ytjkjnhkamieljaa
open Go.ChangeShapes Go.WideShapes Go.ChangeAt Go.RowKit
set_option linter.unusedVariables false

/-- What a function leaves that reads a field's value at place k. -/
def RdTold (tI : TypeId) (x : Fd) (y : List Int) (k : Nat) (w : World) (e : Ending) (w' : World) : Prop :=
  match rdF x y k with
  | none => e = .returned (.tuple #[.agg #[.int .i64 0, .slice none 0 0], .int .i64 (-1)]) ∧ Below w.heap.size w w'
  | some (v, k') => ∃ p q g, e = .returned (.tuple #[.agg #[.int .i64 v.num, .slice p q g], .int .i64 k']) ∧ Own .i64 tI w' w.heap.size p q g v.items ∧ Below w.heap.size w w'
theorem rdF_end {x : Fd} {y : List Int} {k : Nat} (h : y.length ≤ k) : rdF x y k = none := by unfold rdF; rw [List.getElem?_eq_none h]
theorem rdF_num {x : Fd} {y : List Int} {k : Nat} {z : Int} (hz : y[k]? = some z) (hk : x.kind = 1) : rdF x y k = if fitsField x z [] = true then some (⟨z, []⟩, k + 1) else none := by unfold rdF; rw [hz]; dsimp only; rw [if_pos hk]
theorem rdF_out {x : Fd} {y : List Int} {k : Nat} {z : Int} (hz : y[k]? = some z) (hk : x.kind ≠ 1) (h : ¬ (0 ≤ z ∧ z ≤ (y.length : Int) - k - 1)) : rdF x y k = none := by unfold rdF; rw [hz]; dsimp only; rw [if_neg hk, if_neg h]
theorem rdF_row {x : Fd} {y : List Int} {k q : Nat} (hz : y[k]? = some (q : Int)) (hk : x.kind ≠ 1) (h : k + 1 + q ≤ y.length) : rdF x y k = if fitsField x 0 ((y.drop (k + 1)).take q) = true then some (⟨0, (y.drop (k + 1)).take q⟩, k + 1 + q) else none := by
  unfold rdF
  rw [hz]
  dsimp only
  rw [if_neg hk, if_pos ⟨by omega, by omega⟩, Int.toNat_natCast]

/-- Three blocks are made, one behind the other. -/
theorem three (w : World) (A B C : Array Value) (t1 t2 t3 : TypeId) :
    w.heap.size + 3 = (((w.alloc (.cells A t1)).alloc (.cells B t2)).alloc (.cells C t3)).heap.size ∧
    (((w.alloc (.cells A t1)).alloc (.cells B t2)).alloc (.cells C t3)).heap[w.heap.size]? = some (.cells A t1 (0, 0)) ∧
    (((w.alloc (.cells A t1)).alloc (.cells B t2)).alloc (.cells C t3)).heap[w.heap.size + 1]? = some (.cells B t2 (0, 0)) ∧
    (((w.alloc (.cells A t1)).alloc (.cells B t2)).alloc (.cells C t3)).heap[w.heap.size + 1 + 1]? = some (.cells C t3 (0, 0)) ∧
    Below w.heap.size w (((w.alloc (.cells A t1)).alloc (.cells B t2)).alloc (.cells C t3)) := by
  refine ⟨by simp, ?_, ?_, ?_, (((Below.refl _ w).alloc (Nat.le_refl _) _).alloc (by simp) _).alloc (by simp; omega) _⟩
  · rw [Below.heap_alloc _ _ _ (by simp; omega), Below.heap_alloc _ _ _ (by simp)]
    exact heap_alloc_new w _
  · rw [Below.heap_alloc _ _ _ (by simp)]
    have := heap_alloc_new (w.alloc (.cells A t1)) (.cells B t2)
    simpa using this
  · have := heap_alloc_new ((w.alloc (.cells A t1)).alloc (.cells B t2)) (.cells C t3)
    simpa using this
theorem two_cells {w : World} {g : Nat} {t : TypeId} {a b : Value} (h : w.heap[g]? = some (.cells #[a, b] t (0, 0))) : w.cell? ⟨g, 0, none⟩ = some a ∧ w.cell? ⟨g, 1, none⟩ = some b ∧ w.frozen? ⟨g, 0, none⟩ = false ∧ w.frozen? ⟨g, 1, none⟩ = false :=
  ⟨(block_cell h 0).trans rfl, (block_cell h 1).trans rfl, block_frozen h 0, block_frozen h 1⟩
theorem two_put {w : World} {g : Nat} {t : TypeId} {a b : Value} (h : w.heap[g]? = some (.cells #[a, b] t (0, 0))) (c d : Value) :
    (w.setCell ⟨g, 0, none⟩ c).cell? ⟨g, 0, none⟩ = some c ∧ ((w.setCell ⟨g, 0, none⟩ c).setCell ⟨g, 1, none⟩ d).cell? ⟨g, 1, none⟩ = some d ∧ ((w.setCell ⟨g, 0, none⟩ c).setCell ⟨g, 1, none⟩ d).heap[g]? = some (.cells #[c, d] t (0, 0)) := by
  have h1 := heap_setCell_same w g 0 _ _ c h
  have h2 := heap_setCell_same _ g 1 _ _ d h1
  exact ⟨(block_cell h1 0).trans rfl, (block_cell h2 1).trans rfl, h2⟩

set_option maxHeartbeats 4000000 in
set_option maxRecDepth 100000 in
theorem specRead_any (x : Fd) (a : Option Addr) (n c : Nat) (y : List Int) (k : Nat) (w : World) (h : Nums .i64 w a n y) (hc : n ≤ c ∧ (c : Int) ≤ 9223372036854775807) (hn : n ≤ 1000000000) (hk : k ≤ n) :
    Calls Try.prog 71 #[x.val, .slice a n c, .int .i64 k] w (RdTold 3 x y k w) := by
  obtain ⟨xk, xm, xt, xi⟩ := x
  have H := Lib.hid h
  have hyl := Lib.hid h.len
  obtain ⟨i0, hi, hz0, hz1, hz2⟩ := info_parts infoIntS
  have HI := Lib.hid (And.intro hi (And.intro hz0 (And.intro hz1 hz2)))
  clear h hi hz0 hz1 hz2
  unfold Fd.val RdTold
  by_cases h1 : k = n
  · rw [rdF_end (by rw [hyl.out]; omega)]
    subst h1
    dsimp only
    go_enter Try.func71, Try.ntmps71
    go_wp2_with fail
    go_returns
    exact ⟨rfl, ((Below.refl _ w).alloc (Nat.le_refl _) _).alloc (by simp) _⟩
  · have hlt : k < n := by omega
    obtain ⟨ad, z, rfl, hz, hcell⟩ := H.out.at_ hlt
    have ha2 : ∀ o1 o2, ((w.alloc o1).alloc o2).cell? (ad.add k) = some (.int .i64 z) := fun o1 o2 => by rw [(((Below.refl _ w).alloc (Nat.le_refl _) o1).alloc (by simp) o2).cell (cell_in hcell)]; exact hcell
    have ha3 : ∀ o1 o2 o3, (((w.alloc o1).alloc o2).alloc o3).cell? (ad.add k) = some (.int .i64 z) := fun o1 o2 o3 => by rw [((((Below.refl _ w).alloc (Nat.le_refl _) o1).alloc (by simp) o2).alloc (by simp; omega) o3).cell (cell_in hcell)]; exact hcell
    have hle : ¬ n ≤ k := by omega
    obtain ⟨hsz, hX, hM, hL, hB⟩ := three w #[.int .i64 xk, .int .i64 xm, .int .i64 xt, .int .i64 xi] #[.int .i64 0, .slice none 0 0] #[.int .i64 z, .slice none 0 0] 50 64 64
    by_cases h2 : xk = 1
    · subst h2
      rw [rdF_num hz rfl]
      have KV := Lib.hid (fun w0 => specFitsField_any ⟨1, xm, xt, xi⟩ z none 0 0 [] w0 Nums.none)
      unfold Fd.val at KV
      obtain ⟨f, hf⟩ : ∃ f, f = fitsField ⟨1, xm, xt, xi⟩ z [] := ⟨_, rfl⟩
      rw [← hf] at KV ⊢
      clear hz hf
      go_enter Try.func71, Try.ntmps71
      go_wp2_with fail
      generalize (((w.alloc (.cells #[.int .i64 1, .int .i64 xm, .int .i64 xt, .int .i64 xi] 50)).alloc (.cells #[.int .i64 0, .slice none 0 0] 64)).alloc (.cells #[.int .i64 z, .slice none 0 0] 64)) = W3 at *
      refine (KV.out _).mono ?_
      rintro e w1 ⟨rfl, hb1⟩
      have hM1 : w1.heap[w.heap.size + 1]? = some (.cells #[.int .i64 0, .slice none 0 0] 64 (0, 0)) := by rw [hb1.block _ (by omega)]; exact hM
      have hL1 : w1.heap[w.heap.size + 1 + 1]? = some (.cells #[.int .i64 z, .slice none 0 0] 64 (0, 0)) := by rw [hb1.block _ (by omega)]; exact hL
      have HB1 := Lib.hid (hB.trans (hb1.mono hB.size))
      obtain ⟨c0, c1, _, _⟩ := two_cells hL1
      obtain ⟨m0, m1, g0, g1⟩ := two_cells hM1
      clear hX hM hL hb1 hB
      cases f with
      | false =>
        obtain ⟨z0, z1, hZ⟩ := two_put hM1 (.int .i64 0) (.slice none 0 0)
        clear hM1 hL1 hZ
        go_wp2_with fail
        (try simp only [Exit.inBlock, Exit.then])
        refine bodyPost_ret (by simp [results, Try.results71, go_sem, z0, z1]; try rfl) rfl ?_
        exact ⟨rfl, (HB1.out.setCell (by dsimp only; omega) _).setCell (by dsimp only; omega) _⟩
      | true =>
        obtain ⟨z0, z1, hZ⟩ := two_put hM1 (.int .i64 z) (.slice none 0 0)
        clear hM1 hL1 hZ
        go_wp2_with fail
        (try simp only [Exit.inBlock, Exit.then])
        refine bodyPost_ret (by simp [results, Try.results71, go_sem, z0, z1]; try rfl) rfl ?_
        exact ⟨none, 0, 0, rfl, Own.nil, (HB1.out.setCell (by dsimp only; omega) _).setCell (by dsimp only; omega) _⟩
    · have b1 : (xk != 1) = true := by simpa using h2
      by_cases h3 : 0 ≤ z ∧ z ≤ (n : Int) - k - 1
      · obtain ⟨q, rfl⟩ : ∃ q : Nat, z = q := ⟨z.toNat, by omega⟩
        rw [rdF_row hz h2 (by rw [hyl.out]; omega)]
        have e1 : decide ((0 : Int) ≤ (q : Int) ∧ (q : Int) ≤ (n : Int) - k - 1) = true := decide_eq_true h3
        have hkq : k + 1 + q ≤ n := by omega
        obtain ⟨it, hit⟩ : ∃ it, it = (y.drop (k + 1)).take q := ⟨_, rfl⟩
        have HSUB := Lib.hid (fun (w0 : World) (hb0 : Below w.heap.size w w0) (b : Option Addr) (hb : 0 < q → ∀ ad', some ad = some ad' → b = some (ad'.add (k + 1))) => (H.out.same hb0).sub (k + 1) q (by omega) hb)
        rw [← hit] at HSUB ⊢
        have hitl : it.length = q := by rw [hit, List.length_take, List.length_drop, hyl.out]; omega
        have KV := Lib.hid (fun w0 p g (h0 : Nums .i64 w0 p q it) => specFitsField_any ⟨xk, xm, xt, xi⟩ 0 p q g it w0 h0)
        unfold Fd.val at KV
        obtain ⟨f, hf⟩ : ∃ f, f = fitsField ⟨xk, xm, xt, xi⟩ 0 it := ⟨_, rfl⟩
        rw [← hf] at KV ⊢
        have HIT := Lib.hid hitl
        clear hz h3 hf hit hitl h2
        by_cases hcc : k + 1 = c
        · obtain rfl : q = 0 := by omega
          obtain rfl : n = k + 1 := by omega
          subst hcc
          have e1 : decide ((0 : Int) ≤ 0 ∧ (0 : Int) ≤ (k : Int) + 1 - k - 1) = true := decide_eq_true ⟨by omega, by omega⟩
          have hkk : decide ((k : Int) + 1 ≤ (k : Int)) = false := decide_eq_false (by omega)
          go_enter Try.func71, Try.ntmps71
          go_wp2_with fail
          generalize (((w.alloc (.cells #[.int .i64 xk, .int .i64 xm, .int .i64 xt, .int .i64 xi] 50)).alloc (.cells #[.int .i64 0, .slice none 0 0] 64)).alloc (.cells #[.int .i64 0, .slice none 0 0] 64)) = W3 at *
          have h3c := cell_stay hcell hB
          have HXX := Lib.hid hX
          have HMM := Lib.hid hM
          have HLL := Lib.hid hL
          have HB3 := Lib.hid hB
          have HSZ := Lib.hid hsz
          have HO0 : Hid (Own .i64 3 (W3.alloc (.cells #[] 3)) W3.heap.size (some ⟨W3.heap.size, 0, none⟩) 0 0 []) := Lib.hid (Own.empty (Nat.le_refl _))
          clear hX hM hL hB ha2 ha3 hcell
          obtain rfl : it = [] := List.eq_nil_of_length_eq_zero HIT.out
          have ho4 := HO0.out
          have hb4 := Below.refl W3.heap.size (W3.alloc (.cells #[] 3))
          have hbw : Below W3.heap.size W3 (W3.alloc (.cells #[] 3)) := (alloc_same W3 (.cells #[] 3)).trans hb4
          have HB4 := Lib.hid (HB3.out.trans (hbw.mono HB3.out.size))
          have hs := HSZ.out
          have hs4 := hbw.size
          have hL4 : (W3.alloc (.cells #[] 3)).heap[w.heap.size + 1 + 1]? = some (.cells #[.int .i64 0, .slice none 0 0] 64 (0, 0)) := by rw [hbw.block _ (by omega)]; exact HLL.out
          have hM4 : (W3.alloc (.cells #[] 3)).heap[w.heap.size + 1]? = some (.cells #[.int .i64 0, .slice none 0 0] 64 (0, 0)) := by rw [hbw.block _ (by omega)]; exact HMM.out
          have hX4 : (W3.alloc (.cells #[] 3)).heap[w.heap.size]? = some (.cells #[.int .i64 xk, .int .i64 xm, .int .i64 xt, .int .i64 xi] 50 (0, 0)) := by rw [hbw.block _ (by omega)]; exact HXX.out
          obtain ⟨c0, c1, f0, f1⟩ := two_cells hL4
          obtain ⟨p0, p1, hP⟩ := two_put hL4 (.int .i64 0) (.slice (some (⟨W3.heap.size, 0, none⟩ : Addr)) 0 0)
          have hX5 : (((W3.alloc (.cells #[] 3)).setCell ⟨w.heap.size + 1 + 1, 0, none⟩ (.int .i64 0)).setCell ⟨w.heap.size + 1 + 1, 1, none⟩ (.slice (some (⟨W3.heap.size, 0, none⟩ : Addr)) 0 0)).heap[w.heap.size]? = some (.cells #[.int .i64 xk, .int .i64 xm, .int .i64 xt, .int .i64 xi] 50 (0, 0)) := by
            rw [Below.heap_setCell _ _ _ _ (by dsimp only; omega), Below.heap_setCell _ _ _ _ (by dsimp only; omega)]; exact hX4
          have hM5 : (((W3.alloc (.cells #[] 3)).setCell ⟨w.heap.size + 1 + 1, 0, none⟩ (.int .i64 0)).setCell ⟨w.heap.size + 1 + 1, 1, none⟩ (.slice (some (⟨W3.heap.size, 0, none⟩ : Addr)) 0 0)).heap[w.heap.size + 1]? = some (.cells #[.int .i64 0, .slice none 0 0] 64 (0, 0)) := by
            rw [Below.heap_setCell _ _ _ _ (by dsimp only; omega), Below.heap_setCell _ _ _ _ (by dsimp only; omega)]; exact hM4
          have x0 := (block_cell hX5 0).trans rfl
          have x1 := (block_cell hX5 1).trans rfl
          have x2 := (block_cell hX5 2).trans rfl
          have x3 := (block_cell hX5 3).trans rfl
          obtain ⟨l0, l1, _, _⟩ := two_cells hP
          have HP := Lib.hid hP
          have HM5 := Lib.hid hM5
          have hout : ∀ x, x < w.heap.size + 3 → ∀ ad, (some (⟨W3.heap.size, 0, none⟩ : Addr)) = some ad → ad.block ≠ x := fun x hx ad e => by
            have := (ho4.span ad e).1
            omega
          have HO5 : Hid (Own .i64 3 (((W3.alloc (.cells #[] 3)).setCell ⟨w.heap.size + 1 + 1, 0, none⟩ (.int .i64 0)).setCell ⟨w.heap.size + 1 + 1, 1, none⟩ (.slice (some (⟨W3.heap.size, 0, none⟩ : Addr)) 0 0)) W3.heap.size (some (⟨W3.heap.size, 0, none⟩ : Addr)) 0 0 []) := Lib.hid ((ho4.set (hout _ (by omega)) _ _).set (hout _ (by omega)) _ _)
          have HB5 : Hid (Below w.heap.size w (((W3.alloc (.cells #[] 3)).setCell ⟨w.heap.size + 1 + 1, 0, none⟩ (.int .i64 0)).setCell ⟨w.heap.size + 1 + 1, 1, none⟩ (.slice (some (⟨W3.heap.size, 0, none⟩ : Addr)) 0 0))) := Lib.hid ((HB4.out.setCell (by dsimp only; omega) _).setCell (by dsimp only; omega) _)
          have hs5 : (W3.alloc (.cells #[] 3)).heap.size ≤ (((W3.alloc (.cells #[] 3)).setCell ⟨w.heap.size + 1 + 1, 0, none⟩ (.int .i64 0)).setCell ⟨w.heap.size + 1 + 1, 1, none⟩ (.slice (some (⟨W3.heap.size, 0, none⟩ : Addr)) 0 0)).heap.size := by simp [World.setCell]
          have HOUT := Lib.hid hout
          clear ho4 hb4 hbw hL4 hM4 hX4 hP hX5 hM5 hout
          go_wp2_with (go_at_call 50; refine (l1R_any _ _ _ _).mono ?_; rw [e1]; rintro e w' ⟨rfl, rfl⟩)
          clear x0 x1 x2 x3 l0 l1 p0 p1 c0 c1 f0 f1
          generalize (((W3.alloc (.cells #[] 3)).setCell ⟨w.heap.size + 1 + 1, 0, none⟩ (.int .i64 0)).setCell ⟨w.heap.size + 1 + 1, 1, none⟩ (.slice (some (⟨W3.heap.size, 0, none⟩ : Addr)) 0 0)) = W5 at *
          refine (KV.out W5 (some (⟨W3.heap.size, 0, none⟩ : Addr)) 0 HO5.out.nums).mono ?_
          rintro e w6 ⟨rfl, hb6⟩
          have hM6 : w6.heap[w.heap.size + 1]? = some (.cells #[.int .i64 0, .slice none 0 0] 64 (0, 0)) := by rw [hb6.block _ (by omega)]; exact HM5.out
          have hL6 : w6.heap[w.heap.size + 1 + 1]? = some (.cells #[.int .i64 0, .slice (some (⟨W3.heap.size, 0, none⟩ : Addr)) 0 0] 64 (0, 0)) := by rw [hb6.block _ (by omega)]; exact HP.out
          have HB6 := Lib.hid (HB5.out.trans (hb6.mono HB5.out.size))
          have HO6 := Lib.hid (HO5.out.same hb6)
          obtain ⟨c0, c1, _, _⟩ := two_cells hL6
          obtain ⟨m0, m1, g0, g1⟩ := two_cells hM6
          clear hb6
          cases f with
          | false =>
            obtain ⟨z0, z1, hZ⟩ := two_put hM6 (.int .i64 0) (.slice none 0 0)
            clear hM6 hL6 hZ
            go_wp2_with fail
            (try simp only [Exit.inBlock, Exit.then])
            refine bodyPost_ret (by simp [results, Try.results71, go_sem, z0, z1]; try rfl) rfl ?_
            exact ⟨rfl, (HB6.out.setCell (by dsimp only; omega) _).setCell (by dsimp only; omega) _⟩
          | true =>
            obtain ⟨z0, z1, hZ⟩ := two_put hM6 (.int .i64 0) (.slice (some (⟨W3.heap.size, 0, none⟩ : Addr)) 0 0)
            clear hM6 hL6 hZ
            go_wp2_with fail
            (try simp only [Exit.inBlock, Exit.then])
            refine bodyPost_ret (by simp [results, Try.results71, go_sem, z0, z1]; try rfl) rfl ?_
            exact ⟨(some (⟨W3.heap.size, 0, none⟩ : Addr)), 0, 0, rfl, ((HO6.out.lower (by omega)).set (HOUT.out _ (by omega)) _ _).set (HOUT.out _ (by omega)) _ _, (HB6.out.setCell (by dsimp only; omega) _).setCell (by dsimp only; omega) _⟩
        · have hck : k + 1 < c := by omega
          go_enter Try.func71, Try.ntmps71
          go_wp2_with fail
          generalize (((w.alloc (.cells #[.int .i64 xk, .int .i64 xm, .int .i64 xt, .int .i64 xi] 50)).alloc (.cells #[.int .i64 0, .slice none 0 0] 64)).alloc (.cells #[.int .i64 q, .slice none 0 0] 64)) = W3 at *
          have h3c := cell_stay hcell hB
          have HXX := Lib.hid hX
          have HMM := Lib.hid hM
          have HLL := Lib.hid hL
          have HB3 := Lib.hid hB
          have HSZ := Lib.hid hsz
          have HN : Hid (Nums .i64 (W3.alloc (.cells #[] 3)) (some ⟨ad.block, ad.off + (k + 1), none⟩) (k + 1 + q - (k + 1)) it) := Lib.hid (by
            rw [show k + 1 + q - (k + 1) = q by omega]
            exact (HSUB.out W3 hB _ (fun _ ad' e => by cases e; simp [Addr.add])).same (alloc_same W3 (.cells #[] 3)))
          have HO0 : Hid (Own .i64 3 (W3.alloc (.cells #[] 3)) W3.heap.size (some ⟨W3.heap.size, 0, none⟩) 0 0 []) := Lib.hid (Own.empty (Nat.le_refl _))
          clear hX hM hL hB ha2 ha3 hcell
          go_wp2_with (first | (at_builtin; refine wpl_app _ rfl (.tmp 44) (.tmp 49) 32 rfl .i64 3 i0 (.int .i64 0) 8 Try.underlying32 HI.out.1 HI.out.2.1 HI.out.2.2.1 HI.out.2.2.2 rfl rfl HO0.out rfl HN.out (by omega) ?c1 ?c2 ?_) | (go_at_call 50; refine (l1R_any _ _ _ _).mono ?_; rw [e1]; rintro e w' ⟨rfl, rfl⟩))
          case c1 => omega
          case c2 => simp
          intro a4 c4 w4 ho4 hb4
          have hbw : Below W3.heap.size W3 w4 := (alloc_same W3 (.cells #[] 3)).trans hb4
          have HB4 := Lib.hid (HB3.out.trans (hbw.mono HB3.out.size))
          have hs := HSZ.out
          have hs4 := hbw.size
          have hL4 : w4.heap[w.heap.size + 1 + 1]? = some (.cells #[.int .i64 q, .slice none 0 0] 64 (0, 0)) := by rw [hbw.block _ (by omega)]; exact HLL.out
          have hM4 : w4.heap[w.heap.size + 1]? = some (.cells #[.int .i64 0, .slice none 0 0] 64 (0, 0)) := by rw [hbw.block _ (by omega)]; exact HMM.out
          have hX4 : w4.heap[w.heap.size]? = some (.cells #[.int .i64 xk, .int .i64 xm, .int .i64 xt, .int .i64 xi] 50 (0, 0)) := by rw [hbw.block _ (by omega)]; exact HXX.out
          obtain ⟨c0, c1, f0, f1⟩ := two_cells hL4
          obtain ⟨p0, p1, hP⟩ := two_put hL4 (.int .i64 0) (.slice a4 q c4)
          have hX5 : ((w4.setCell ⟨w.heap.size + 1 + 1, 0, none⟩ (.int .i64 0)).setCell ⟨w.heap.size + 1 + 1, 1, none⟩ (.slice a4 q c4)).heap[w.heap.size]? = some (.cells #[.int .i64 xk, .int .i64 xm, .int .i64 xt, .int .i64 xi] 50 (0, 0)) := by
            rw [Below.heap_setCell _ _ _ _ (by dsimp only; omega), Below.heap_setCell _ _ _ _ (by dsimp only; omega)]; exact hX4
          have hM5 : ((w4.setCell ⟨w.heap.size + 1 + 1, 0, none⟩ (.int .i64 0)).setCell ⟨w.heap.size + 1 + 1, 1, none⟩ (.slice a4 q c4)).heap[w.heap.size + 1]? = some (.cells #[.int .i64 0, .slice none 0 0] 64 (0, 0)) := by
            rw [Below.heap_setCell _ _ _ _ (by dsimp only; omega), Below.heap_setCell _ _ _ _ (by dsimp only; omega)]; exact hM4
          have x0 := (block_cell hX5 0).trans rfl
          have x1 := (block_cell hX5 1).trans rfl
          have x2 := (block_cell hX5 2).trans rfl
          have x3 := (block_cell hX5 3).trans rfl
          obtain ⟨l0, l1, _, _⟩ := two_cells hP
          have HP := Lib.hid hP
          have HM5 := Lib.hid hM5
          have hout : ∀ x, x < w.heap.size + 3 → ∀ ad, a4 = some ad → ad.block ≠ x := fun x hx ad e => by
            have := (ho4.span ad e).1
            omega
          have HO5 : Hid (Own .i64 3 ((w4.setCell ⟨w.heap.size + 1 + 1, 0, none⟩ (.int .i64 0)).setCell ⟨w.heap.size + 1 + 1, 1, none⟩ (.slice a4 q c4)) W3.heap.size a4 q c4 it) := Lib.hid ((ho4.set (hout _ (by omega)) _ _).set (hout _ (by omega)) _ _)
          have HB5 : Hid (Below w.heap.size w ((w4.setCell ⟨w.heap.size + 1 + 1, 0, none⟩ (.int .i64 0)).setCell ⟨w.heap.size + 1 + 1, 1, none⟩ (.slice a4 q c4))) := Lib.hid ((HB4.out.setCell (by dsimp only; omega) _).setCell (by dsimp only; omega) _)
          have hs5 : w4.heap.size ≤ ((w4.setCell ⟨w.heap.size + 1 + 1, 0, none⟩ (.int .i64 0)).setCell ⟨w.heap.size + 1 + 1, 1, none⟩ (.slice a4 q c4)).heap.size := by simp [World.setCell]
          have HOUT := Lib.hid hout
          clear ho4 hb4 hbw hL4 hM4 hX4 hP hX5 hM5 hout
          go_wp2_with fail
          clear x0 x1 x2 x3 l0 l1 p0 p1 c0 c1 f0 f1
          generalize ((w4.setCell ⟨w.heap.size + 1 + 1, 0, none⟩ (.int .i64 0)).setCell ⟨w.heap.size + 1 + 1, 1, none⟩ (.slice a4 q c4)) = W5 at *
          refine (KV.out W5 a4 c4 HO5.out.nums).mono ?_
          rintro e w6 ⟨rfl, hb6⟩
          have hM6 : w6.heap[w.heap.size + 1]? = some (.cells #[.int .i64 0, .slice none 0 0] 64 (0, 0)) := by rw [hb6.block _ (by omega)]; exact HM5.out
          have hL6 : w6.heap[w.heap.size + 1 + 1]? = some (.cells #[.int .i64 0, .slice a4 q c4] 64 (0, 0)) := by rw [hb6.block _ (by omega)]; exact HP.out
          have HB6 := Lib.hid (HB5.out.trans (hb6.mono HB5.out.size))
          have HO6 := Lib.hid (HO5.out.same hb6)
          obtain ⟨c0, c1, _, _⟩ := two_cells hL6
          obtain ⟨m0, m1, g0, g1⟩ := two_cells hM6
          clear hb6
          cases f with
          | false =>
            obtain ⟨z0, z1, hZ⟩ := two_put hM6 (.int .i64 0) (.slice none 0 0)
            clear hM6 hL6 hZ
            go_wp2_with fail
            (try simp only [Exit.inBlock, Exit.then])
            refine bodyPost_ret (by simp [results, Try.results71, go_sem, z0, z1]; try rfl) rfl ?_
            exact ⟨rfl, (HB6.out.setCell (by dsimp only; omega) _).setCell (by dsimp only; omega) _⟩
          | true =>
            obtain ⟨z0, z1, hZ⟩ := two_put hM6 (.int .i64 0) (.slice a4 q c4)
            clear hM6 hL6 hZ
            go_wp2_with fail
            (try simp only [Exit.inBlock, Exit.then])
            refine bodyPost_ret (by simp [results, Try.results71, go_sem, z0, z1]; try rfl) rfl ?_
            exact ⟨a4, q, c4, rfl, ((HO6.out.lower (by omega)).set (HOUT.out _ (by omega)) _ _).set (HOUT.out _ (by omega)) _ _, (HB6.out.setCell (by dsimp only; omega) _).setCell (by dsimp only; omega) _⟩
      · rw [rdF_out hz h2 (by rw [hyl.out]; exact h3)]
        have e1 : decide ((0 : Int) ≤ z ∧ z ≤ (n : Int) - k - 1) = false := decide_eq_false h3
        dsimp only
        obtain ⟨z0, z1, hZ⟩ := two_put hM (.int .i64 0) (.slice none 0 0)
        obtain ⟨m0, m1, g0, g1⟩ := two_cells hM
        have HB := Lib.hid hB
        clear hz h3 hsz hX hL hM hB hZ h2
        go_enter Try.func71, Try.ntmps71
        go_wp2_with (go_at_call 50; refine (l1R_any _ _ _ _).mono ?_; rw [e1]; rintro e w' ⟨rfl, rfl⟩)
        go_returns
        exact ⟨rfl, HB.out⟩
end Go.Proofs.Ytjkjnhkamieljaa
namespace Go.Proofs.Ytjkjnhkamieljaa
open Go.ChangeShapes Go.WideShapes Go.ChangeAt Go.RowKit
set_option linter.unusedVariables false

theorem infoValueS : (Try.prog.info? 64).map (fun i => (i.zero, i.size, i.bytes)) = some (some (.agg #[.int .i64 0, .slice none 0 0]), 2, 32) := by kernel_rfl

/-- What is left of a bound. -/
def leftOf (left : Int) (n : Nat) : Int := if (n : Int) ≤ left then left - n else -1
theorem put_step {l : List Vl} {j n : Nat} {x : Vl} (hj : l[j]? = some x) (hn : l.length = n) : (l.take j ++ List.replicate (n - j) (⟨0, []⟩ : Vl)).set j x = l.take (j + 1) ++ List.replicate (n - (j + 1)) (⟨0, []⟩ : Vl) := by
  have hlt : j < l.length := lt_of_some hj
  have hl : (l.take j).length = j := by rw [List.length_take]; omega
  rw [List.set_append_right _ _ (by omega), hl, Nat.sub_self, show n - j = (n - (j + 1)) + 1 by omega, List.replicate_succ, List.set_cons_zero, List.take_add_one, hj]
  simp
end Go.Proofs.Ytjkjnhkamieljaa
namespace Go.Proofs.Ytjkjnhkamieljaa
open Go.ChangeShapes Go.WideShapes Go.ChangeAt Go.RowKit
set_option linter.unusedVariables false

/-- The message that b begins with, and how many bytes it has; nothing and -1 if there is none. -/
noncomputable def rpV (l : List Fd) (y : List Int) : List Vl := (rdP l y).elim [] (fun s => s.1)
noncomputable def rpK (l : List Fd) (y : List Int) : Int := (rdP l y).elim (-1) (fun s => (s.2 : Int))
theorem rp_none {l : List Fd} {y : List Int} (h : rdP l y = none) : rpV l y = [] ∧ rpK l y = -1 := by unfold rpV rpK; rw [h]; exact ⟨rfl, rfl⟩
theorem rp_some {l : List Fd} {y : List Int} {v : List Vl} {k : Nat} (h : rdP l y = some (v, k)) : rpV l y = v ∧ rpK l y = k := by unfold rpV rpK; rw [h]; exact ⟨rfl, rfl⟩
/-- Whether all bytes are those of a message, and of which. -/
noncomputable def dmOk (l : List Fd) (y : List Int) : Bool := decide (rpK l y = (y.length : Int))
noncomputable def dmV (l : List Fd) (y : List Int) : List Vl := if dmOk l y = true then rpV l y else []
theorem rpV_few (l : List Fd) (y : List Int) : (rpV l y).length ≤ 6 ∧ itemsOf (rpV l y) ≤ 30 := by
  cases h : rdP l y with
  | none => rw [(rp_none h).1]; simp [itemsOf]
  | some s =>
    obtain ⟨v, k⟩ := s
    rw [(rp_some h).1]
    obtain ⟨h1, h2, h3⟩ := fitsFmt_parts (rdP_form h).1
    have h4 := isFmt_iff.1 h1
    have h5 := h4.1
    have hs : ∀ j, j ≤ v.length → itemsOf (v.take j) ≤ 5 * j := by
      intro j
      induction j with
      | zero => intro _; simp [itemsOf]
      | succ j ih =>
        intro hj
        obtain ⟨x, hx⟩ : ∃ x, l[j]? = some x := ⟨_, List.getElem?_eq_getElem (by omega)⟩
        obtain ⟨z, hz⟩ : ∃ z, v[j]? = some z := ⟨_, List.getElem?_eq_getElem (by omega)⟩
        have h6 := h3 j x z (by omega) hx hz
        have h7 : z.items.length ≤ 5 := by
          cases ht : isThere l v j with
          | false =>
            rw [fitsAt_not ht] at h6
            unfold emptyV at h6
            rw [Bool.and_eq_true, decide_eq_true_eq, decide_eq_true_eq] at h6
            rw [h6.2]
            simp
          | true =>
            rw [fitsAt_there ht] at h6
            have h8 := h4.2 j x (by omega) hx
            unfold fieldOk at h8
            rw [Bool.and_eq_true, decide_eq_true_eq] at h8
            have h9 := h8.1
            unfold mostOf at h9
            unfold fitsField fitIts at h6
            split at h6
            · rw [Bool.and_eq_true, decide_eq_true_eq, decide_eq_true_eq] at h6
              omega
            · rename_i hk
              rw [if_neg hk] at h9
              have h10 : x.max ≤ 5 := by
                revert h9
                repeat' split
                all_goals omega
              split at h6
              · rw [Bool.and_eq_true, Bool.and_eq_true, decide_eq_true_eq, decide_eq_true_eq] at h6
                omega
              · split at h6
                · rw [Bool.and_eq_true, Bool.and_eq_true, decide_eq_true_eq, decide_eq_true_eq] at h6
                  omega
                · cases h6
        rw [itemsOf_at hz]
        have := ih (by omega)
        omega
    have h6 := hs v.length (Nat.le_refl _)
    rw [List.take_of_length_le (Nat.le_refl _)] at h6
    omega
theorem dmV_few (l : List Fd) (y : List Int) : (dmV l y).length ≤ 6 ∧ itemsOf (dmV l y) ≤ 30 := by
  unfold dmV
  split
  · exact rpV_few l y
  · simp [itemsOf]
/-- What a function leaves that reads the beginning of some bytes, and one that reads all of them. -/
def RpTold (tO tI : TypeId) (l : List Fd) (y : List Int) (w : World) (e : Ending) (w' : World) : Prop :=
  ∃ a n c, e = .returned (.tuple #[.slice a n c, .int .i64 (rpK l y)]) ∧ OwnV tO tI w' w.heap.size a n c (rpV l y) ∧ Below w.heap.size w w'
def DmTold (tO tI : TypeId) (l : List Fd) (y : List Int) (w : World) (e : Ending) (w' : World) : Prop :=
  ∃ a n c, e = .returned (.tuple #[.slice a n c, .bool (dmOk l y)]) ∧ OwnV tO tI w' w.heap.size a n c (dmV l y) ∧ Below w.heap.size w w'

set_option maxHeartbeats 8000000 in
set_option maxRecDepth 100000 in
theorem specReadPrefix_any (a : Option Addr) (n c : Nat) (l : List Fd) (b : Option Addr) (m d : Nat) (y : List Int) (w : World) (h : Fds w a n l) (hv : Nums .i64 w b m y) (hc : m ≤ d ∧ (d : Int) ≤ 9223372036854775807) (hn : n ≤ 1000000000) (hm : m ≤ 1000000000) :
    Calls Try.prog 53 #[.slice a n c, .slice b m d] w (RpTold 64 3 l y w) := by
  have H := Lib.hid h
  have HV := Lib.hid hv
  have hl := Lib.hid h.len
  have hyl := Lib.hid hv.len
  have KF := Lib.hid (fun (w0 : World) (hb : Below w.heap.size w w0) => specIsFormat_any a n c l w0 (h.same hb) hn)
  have KR := Lib.hid (fun (x : Fd) (k : Nat) (hk : k ≤ m) (w0 : World) (hb : Below w.heap.size w w0) => specRead_any x b m d y k w0 (hv.same hb) hc hm hk)
  obtain ⟨i0, hi, hz0, hz1, hz2⟩ := info_parts infoValueS
  have HI := Lib.hid (And.intro hi (And.intro hz0 (And.intro hz1 hz2)))
  clear h hv hi hz0 hz1 hz2
  have HB0 : Hid (Below w.heap.size w (w.alloc (.cells #[] 64))) := Lib.hid (alloc_same _ _)
  have HO0 : Hid (OwnV 64 3 (w.alloc (.cells #[] 64)) w.heap.size (some ⟨w.heap.size, 0, none⟩) 0 0 []) := Lib.hid (OwnV.empty (Nat.le_refl _))
  unfold RpTold
  cases hf : isFmt l with
  | false =>
    have HE := Lib.hid (rp_none (y := y) (rdP_not hf))
    rw [hf] at KF
    clear hf
    go_enter Try.func53, Try.ntmps53
    go_wp2_with fail
    refine (KF.out _ HB0.out).mono ?_
    rintro e w1 ⟨rfl, hb1⟩
    have HB1 := Lib.hid (HB0.out.trans (hb1.mono HB0.out.size))
    have HO1 := Lib.hid (HO0.out.same hb1)
    clear hb1
    go_wp2_with fail
    go_ret2
    exact ⟨_, _, _, by rw [HE.out.2]; rfl, by rw [HE.out.1]; exact HO1.out, HB1.out⟩
  | true =>
    have hF := isFmt_iff.1 hf
    have hn6 : n ≤ 6 := by have := hF.1; have := hl.out; omega
    have HSTOP := Lib.hid (fun (j : Nat) (hj : j ≤ l.length) (hr : rdTo l y j = none) => rp_none (rdP_stop hr hj))
    have HALL := Lib.hid (fun (s : List Vl) (k : Nat) (hr : rdTo l y l.length = some (s, k)) => rp_some (rdP_all hf hr))
    have HFORM := Lib.hid (fun (j k : Nat) (v : List Vl) (hj : j ≤ l.length) (hr : rdTo l y j = some (v, k)) => rdTo_form hF.2 j v k hj hr)
    rw [hf] at KF
    clear hf hF
    go_enter Try.func53, Try.ntmps53
    go_wp2_with fail
    refine (KF.out _ HB0.out).mono ?_
    rintro e w1 ⟨rfl, hb1⟩
    have HB1 := Lib.hid (HB0.out.trans (hb1.mono HB0.out.size))
    have HO1 := Lib.hid (HO0.out.same hb1)
    clear hb1
    go_wp2_with fail
    go_loopw [6, 7, 8] (fun s q i wr => ∃ (a' : Option Addr) (c' j k : Nat) (v : List Vl), s = .slice a' j c' ∧ q = .int .i64 k ∧ i = .int .i64 j ∧ j ≤ n ∧ rdTo l y j = some (v, k) ∧ OwnV 64 3 wr w.heap.size a' j c' v ∧ Below w.heap.size w wr) (fun _ _ i _ => n - (intOf i).toNat)
    case atStart => exact ⟨_, _, 0, 0, [], rfl, rfl, rfl, Nat.zero_le _, rfl, HO1.out, HB1.out⟩
    case round =>
      obtain ⟨a', c', j, k, v, rfl, rfl, rfl, hj, hr, ho, hb⟩ := hrel
      have hkm : k ≤ m := by have := (HFORM.out j k v (by rw [hl.out]; exact hj) hr).2.1; rw [hyl.out] at this; exact this
      have HO := Lib.hid ho
      have HB := Lib.hid hb
      have HR := Lib.hid hr
      clear ho hb hr
      by_cases hlt : j < n
      · have hltI : (j : Int) < (n : Int) := by omega
        obtain ⟨bb, o, ⟨xk, xm, xt, xi⟩, rfl, hx, hc0, hc1, hc2, hc3⟩ := fds_at H.out hlt
        dsimp only at hc0 hc1 hc2 hc3
        have KTJ := specIsThere_any _ n c l a' j c' v j wr (H.out.same HB.out) HO.out.vals hn (by omega)
        cases ht : isThere l v j with
        | false =>
          have HS : Hid (rdTo l y (j + 1) = some (v ++ [⟨0, []⟩], k)) := Lib.hid (by rw [rdTo_step HR.out, rdStep_not hx ht])
          rw [ht] at KTJ
          clear ht hx hc0 hc1 hc2 hc3
          go_wp2_with fail
          refine KTJ.mono ?_
          rintro e w2 ⟨rfl, hb2⟩
          have HB2 := Lib.hid (HB.out.trans (hb2.mono HB.out.size))
          have HO2 := Lib.hid (HO.out.same hb2)
          have hs2 := HB2.out.size
          clear hb2 KTJ
          go_wp2_with (at_builtin; refine wpl_appV _ rfl (.tmp 27) (.tmp 29) 34 rfl 64 3 i0 (.agg #[.int .i64 0, .slice none 0 0]) 32 Try.underlying34 HI.out.1 HI.out.2.1 HI.out.2.2.1 HI.out.2.2.2 rfl rfl (HO2.out.lim.same (alloc_same _ _)) rfl (items_new Vh.enc_len w2 ⟨0, none, 0, 0⟩ 64) Own.nil (fun ad e => by cases e) (by omega) ?c1 ?c2 ?_)
          case c1 => omega
          case c2 => simp; omega
          intro a3 c3 w3 ho3 hb3
          have HO3 := Lib.hid ho3
          have HB3 := Lib.hid (HB2.out.trans (((alloc_same _ _).mono HB2.out.size).trans hb3))
          clear ho3 hb3
          go_wp2_with fail
          go_roundw
          case rel => exact ⟨_, _, j + 1, k, _, rfl, rfl, by go_num, by omega, HS.out, HO3.out, HB3.out⟩
          case measure => simp [intOf]; omega
        | true =>
          have HS := Lib.hid (rdTo_step HR.out)
          have HT := Lib.hid (rdStep_there (b := y) (k := k) hx ht)
          rw [ht] at KTJ
          have C0 := Lib.hid hc0
          have C1 := Lib.hid hc1
          have C2 := Lib.hid hc2
          have C3 := Lib.hid hc3
          clear ht hx hc0 hc1 hc2 hc3
          go_wp2_with fail
          refine KTJ.mono ?_
          rintro e w2 ⟨rfl, hb2⟩
          have HB2 := Lib.hid (HB.out.trans (hb2.mono HB.out.size))
          have HO2 := Lib.hid (HO.out.same hb2)
          have hs2 := HB2.out.size
          have c0 := cell_stay C0.out HB2.out
          have c1 := cell_stay C1.out HB2.out
          have c2 := cell_stay C2.out HB2.out
          have c3 := cell_stay C3.out HB2.out
          clear hb2 KTJ
          have KRJ := KR.out ⟨xk, xm, xt, xi⟩ k hkm w2 HB2.out
          unfold Fd.val RdTold at KRJ
          go_wp2_with fail
          cases hrd : rdF ⟨xk, xm, xt, xi⟩ y k with
          | none =>
            rw [hrd] at KRJ
            have HE := Lib.hid (HSTOP.out (j + 1) (by rw [hl.out]; omega) (by rw [HS.out, HT.out, hrd]; rfl))
            clear hrd c0 c1 c2 c3
            refine KRJ.mono ?_
            rintro e w3 ⟨rfl, hb3⟩
            have HB3 := Lib.hid (HB2.out.trans (hb3.mono HB2.out.size))
            have hs3 := HB3.out.size
            have HEM : Hid (OwnV 64 3 ((w3.alloc (.cells #[.int .i64 0, .slice none 0 0] 64)).alloc (.cells #[] 64)) w.heap.size (some ⟨w3.heap.size + 1, 0, none⟩) 0 0 []) := Lib.hid (by
              have := OwnV.empty (tO := 64) (tI := 3) (w := w3.alloc (.cells #[.int .i64 0, .slice none 0 0] 64)) (B := w.heap.size) (by simp; omega)
              rw [show (w3.alloc (.cells #[.int .i64 0, .slice none 0 0] 64)).heap.size = w3.heap.size + 1 by simp] at this
              exact this)
            clear hb3
            go_wp2_with fail
            go_ret2
            exact ⟨_, _, _, by rw [HE.out.2]; rfl, by rw [HE.out.1]; exact HEM.out, (HB3.out.alloc (by omega) _).alloc (by simp; omega) _⟩
          | some s =>
            obtain ⟨⟨zn, zi⟩, k2⟩ := s
            rw [hrd] at KRJ
            have HN : Hid (rdTo l y (j + 1) = some (v ++ [⟨zn, zi⟩], k2)) := Lib.hid (by rw [HS.out, HT.out, hrd]; rfl)
            clear hrd c0 c1 c2 c3
            refine KRJ.mono ?_
            rintro e w3 ⟨p, q, g, rfl, ho3, hb3⟩
            have HB3 := Lib.hid (HB2.out.trans (hb3.mono HB2.out.size))
            have HO3 := Lib.hid (HO2.out.lim.same hb3)
            have HF3 : Hid (∀ ad, p = some ad → w2.heap.size ≤ ad.block) := Lib.hid fun ad e => (ho3.span ad e).1
            have HP3 := Lib.hid (ho3.lower hs2)
            have hs3 := HB3.out.size
            dsimp only at HP3
            have HNN : Hid (Items Vh.enc 2 ((w3.alloc (.cells #[.int .i64 zn, .slice p q g] 64)).alloc (.cells #[.int .i64 zn, .slice p q g] 64)) (some ⟨w3.heap.size + 1, 0, none⟩) 1 [⟨zn, p, q, g⟩]) := Lib.hid (by
              have := items_new Vh.enc_len (w3.alloc (.cells #[.int .i64 zn, .slice p q g] 64)) ⟨zn, p, q, g⟩ 64
              rw [show (w3.alloc (.cells #[.int .i64 zn, .slice p q g] 64)).heap.size = w3.heap.size + 1 by simp] at this
              exact this)
            have HA := Lib.hid ((HO3.out.same (alloc_same w3 (.cells #[.int .i64 zn, .slice p q g] 64))).same (alloc_same _ (.cells #[.int .i64 zn, .slice p q g] 64)))
            have HPA := Lib.hid ((HP3.out.alloc (.cells #[.int .i64 zn, .slice p q g] 64)).alloc (.cells #[.int .i64 zn, .slice p q g] 64))
            clear ho3 hb3
            have hk2 : ¬ (k2 : Int) < 0 := by omega
            go_wp2_with (at_builtin; refine wpl_appV _ rfl (.tmp 44) (.tmp 46) 34 rfl 64 3 i0 (.agg #[.int .i64 0, .slice none 0 0]) 32 Try.underlying34 HI.out.1 HI.out.2.1 HI.out.2.2.1 HI.out.2.2.2 rfl rfl HA.out rfl HNN.out HPA.out HF3.out (by omega) ?c3 ?c4 ?_)
            case c3 => omega
            case c4 => simp; omega
            intro a5 c5 w5 ho5 hb5
            have HO5 := Lib.hid ho5
            have HB5 := Lib.hid (HB3.out.trans ((((alloc_same _ _).mono HB3.out.size).trans ((alloc_same _ _).mono (by simp; omega))).trans hb5))
            clear ho5 hb5
            go_wp2_with fail
            go_roundw
            case rel => exact ⟨_, _, j + 1, k2, _, rfl, rfl, by go_num, by omega, HN.out, HO5.out, HB5.out⟩
            case measure => simp [intOf]; omega
      · obtain rfl : j = n := by omega
        have HE := Lib.hid (HALL.out v k (by rw [hl.out]; exact HR.out))
        go_wp2_with fail
        go_ret2
        exact ⟨_, _, _, by rw [HE.out.2]; rfl, by rw [HE.out.1]; exact HO.out, HB.out⟩
set_option maxHeartbeats 2000000 in
set_option maxRecDepth 100000 in
theorem specDecodeMessage_any (a : Option Addr) (n c : Nat) (l : List Fd) (b : Option Addr) (m d : Nat) (y : List Int) (w : World) (h : Fds w a n l) (hv : Nums .i64 w b m y) (hc : m ≤ d ∧ (d : Int) ≤ 9223372036854775807) (hn : n ≤ 1000000000) (hm : m ≤ 1000000000) :
    Calls Try.prog 51 #[.slice a n c, .slice b m d] w (DmTold 64 3 l y w) := by
  have K := Lib.hid (specReadPrefix_any a n c l b m d y w h hv hc hn hm)
  have hyl := hv.len
  clear h hv
  unfold RpTold at K
  unfold DmTold
  by_cases hk : rpK l y = (m : Int)
  · have hok : dmOk l y = true := by unfold dmOk; rw [hyl]; exact decide_eq_true hk
    have HE : Hid (dmOk l y = true ∧ dmV l y = rpV l y) := Lib.hid ⟨hok, by unfold dmV; rw [if_pos hok]⟩
    rw [hk] at K
    clear hk hok
    go_enter Try.func51, Try.ntmps51
    go_wp2_with fail
    refine K.out.mono ?_
    rintro e w1 ⟨a1, n1, c1, rfl, ho, hb⟩
    have HB := Lib.hid hb
    have HO := Lib.hid ho
    clear ho hb
    go_wp2_with fail
    go_ret2
    exact ⟨_, _, _, by rw [HE.out.1]; rfl, by rw [HE.out.2]; exact HO.out, HB.out⟩
  · have hok : dmOk l y = false := by unfold dmOk; rw [hyl]; exact decide_eq_false hk
    have HE : Hid (dmOk l y = false ∧ dmV l y = []) := Lib.hid ⟨hok, by unfold dmV; rw [if_neg (by rw [hok]; decide)]⟩
    obtain ⟨t, ht⟩ : ∃ t, t = rpK l y := ⟨_, rfl⟩
    rw [← ht] at K hk
    have b1 : (t != (m : Int)) = true := by simpa using hk
    clear hok ht hk
    go_enter Try.func51, Try.ntmps51
    go_wp2_with fail
    refine K.out.mono ?_
    rintro e w1 ⟨a1, n1, c1, rfl, ho, hb⟩
    have HB := Lib.hid hb
    have hs := hb.size
    clear ho hb
    go_wp2_with fail
    go_ret2
    exact ⟨_, _, _, by rw [HE.out.1]; rfl, by rw [HE.out.2]; exact OwnV.empty hs, HB.out.alloc hs _⟩
end Go.Proofs.Ytjkjnhkamieljaa
namespace Go.Proofs.Ytjkjnhkamieljaa
open Go.ChangeShapes Go.WideShapes Go.ChangeAt Go.RowKit
set_option linter.unusedVariables false

theorem rp_code {l : List Fd} {v : List Vl} (h : fitsFmt l v = true) (r : List Int) : rpV l (encOf l v ++ r) = v ∧ rpK l (encOf l v ++ r) = ((encOf l v).length : Int) := by
  rw [encOf_yes h]
  exact rp_some (rdP_code h r)
theorem dm_code {l : List Fd} {v : List Vl} (h : fitsFmt l v = true) : dmOk l (encOf l v) = true ∧ dmV l (encOf l v) = v := by
  have h1 := rp_code h []
  rw [List.append_nil] at h1
  have h2 : dmOk l (encOf l v) = true := by unfold dmOk; exact decide_eq_true h1.2
  exact ⟨h2, by unfold dmV; rw [if_pos h2]; exact h1.1⟩
theorem dm_not {l : List Fd} {y : List Int} (h : dmOk l y = false) : dmV l y = [] := by unfold dmV; rw [if_neg (by rw [h]; decide)]
theorem dm_form {l : List Fd} {y : List Int} (h : dmOk l y = true) : fitsFmt l (dmV l y) = true ∧ encOf l (dmV l y) = y := by
  have h0 : dmV l y = rpV l y := by unfold dmV; rw [if_pos h]
  rw [h0]
  unfold dmOk at h
  rw [decide_eq_true_eq] at h
  cases hr : rdP l y with
  | none =>
    rw [(rp_none hr).2] at h
    omega
  | some s =>
    obtain ⟨v, k⟩ := s
    have h1 := rp_some hr
    rw [h1.2] at h
    rw [h1.1]
    obtain ⟨q1, q2, q3⟩ := rdP_form hr
    refine ⟨q1, ?_⟩
    rw [encOf_yes q1, ← q3, List.take_of_length_le (by omega)]
theorem long_code {l : List Fd} {v : List Vl} (h : fitsFmt l v = true) : ((encOf l v).length : Int) ≤ longOf l := by
  rw [encOf_yes h]
  exact codeOf_long h
theorem len_code {l : List Fd} {v : List Vl} (h : fitsFmt l v = true) : lenOf l v = ((encOf l v).length : Int) := by unfold lenOf; rw [if_pos h]
end Go.Proofs.Ytjkjnhkamieljaa
namespace Go.Proofs.Ytjkjnhkamieljaa
set_option linter.unusedVariables false

/-- One value is taken into the hash. -/
def hstep (a v : Int) : Int := (a * 1000003 + v % 2147483647 + 13) % 2147483647
def hashFrom (a : Int) (l : List Int) : Int := l.foldl hstep a
def hashOf (l : List Int) : Int := hashFrom 11 l
def khash (k : Int) (l : List Int) : Int := hstep (hashFrom (hstep 11 k) l) k
theorem hstep_bd (a v : Int) : 0 ≤ hstep a v ∧ hstep a v < 2147483647 := by unfold hstep; omega
theorem hashFrom_nil (a : Int) : hashFrom a [] = a := rfl
theorem hashFrom_snoc (a : Int) (l : List Int) (x : Int) : hashFrom a (l ++ [x]) = hstep (hashFrom a l) x := by unfold hashFrom; rw [List.foldl_append]; rfl
theorem hashFrom_bd (l : List Int) : ∀ a : Int, 0 ≤ a → a < 2147483647 → 0 ≤ hashFrom a l ∧ hashFrom a l < 2147483647 := by
  induction l with
  | nil => intro a h1 h2; exact ⟨h1, h2⟩
  | cons x r ih => intro a _ _; exact ih _ (hstep_bd a x).1 (hstep_bd a x).2
theorem hashOf_bd (l : List Int) : 0 ≤ hashOf l ∧ hashOf l < 2147483647 := hashFrom_bd l 11 (by omega) (by omega)
theorem khash_bd (k : Int) (l : List Int) : 0 ≤ khash k l ∧ khash k l < 2147483647 := hstep_bd _ _
theorem khash_eq (k : Int) (l : List Int) : hashOf (([k] ++ l) ++ [k]) = khash k l := by
  unfold hashOf khash
  rw [hashFrom_snoc]
  rfl
theorem take_step (l : List Int) (j : Nat) (x : Int) (h : l[j]? = some x) : l.take (j + 1) = l.take j ++ [x] := by rw [List.take_add_one, h]; rfl
theorem hashFrom_take (a : Int) (l : List Int) (j : Nat) (x : Int) (h : l[j]? = some x) : hashFrom a (l.take (j + 1)) = hstep (hashFrom a (l.take j)) x := by rw [take_step l j x h, hashFrom_snoc]

/-- What comes in differently goes out differently: the factor is no multiple of the modulus, which is prime. -/
theorem acc_dvd {a b r : Int} (h : (a * 1000003 + r + 13) % 2147483647 = (b * 1000003 + r + 13) % 2147483647) : (2147483647 : Int) ∣ (a - b) * 1000003 := by
  have h2 : (2147483647 : Int) ∣ (a * 1000003 + r + 13) - (b * 1000003 + r + 13) := Int.dvd_of_emod_eq_zero (Int.emod_eq_emod_iff_emod_sub_eq_zero.1 h)
  have e : (a - b) * 1000003 = a * 1000003 + r + 13 - (b * 1000003 + r + 13) := by rw [Int.sub_mul]; omega
  rw [e]
  exact h2
theorem acc_abs (d : Int) (h : (2147483647 : Int) ∣ d * 1000003) : (2147483647 : Nat) ∣ d.natAbs * 1000003 := by
  have h3 := Int.natAbs_dvd_natAbs.2 h
  rw [Int.natAbs_mul] at h3
  simpa using h3
theorem acc_apart : Nat.Coprime 2147483647 1000003 := by decide +kernel
theorem acc_zero (n : Nat) (h : (2147483647 : Nat) ∣ n * 1000003) (hn : n < 2147483647) : n = 0 := Nat.eq_zero_of_dvd_of_lt (Nat.Coprime.dvd_of_dvd_mul_right acc_apart h) hn
theorem hstep_acc {a b v : Int} (h : hstep a v = hstep b v) (ha : 0 ≤ a) (ha' : a < 2147483647) (hb : 0 ≤ b) (hb' : b < 2147483647) : a = b := by
  have h4 := acc_zero _ (acc_abs _ (acc_dvd h)) (by omega)
  omega
theorem hstep_val {a v v' : Int} (h : hstep a v = hstep a v') : v % 2147483647 = v' % 2147483647 := by
  unfold hstep at h
  generalize a * 1000003 = r at h
  omega
theorem hashFrom_acc (l : List Int) : ∀ {a b : Int}, hashFrom a l = hashFrom b l → 0 ≤ a → a < 2147483647 → 0 ≤ b → b < 2147483647 → a = b := by
  induction l with
  | nil => intro a b h _ _ _ _; exact h
  | cons x r ih =>
    intro a b h h1 h2 h3 h4
    exact hstep_acc (ih (a := hstep a x) (b := hstep b x) h (hstep_bd _ _).1 (hstep_bd _ _).2 (hstep_bd _ _).1 (hstep_bd _ _).2) h1 h2 h3 h4
theorem hashFrom_append (a : Int) (l r : List Int) : hashFrom a (l ++ r) = hashFrom (hashFrom a l) r := by unfold hashFrom; rw [List.foldl_append]
theorem khash_mid {k x y : Int} {l r : List Int} (h : khash k (l ++ y :: r) = khash k (l ++ x :: r)) : y % 2147483647 = x % 2147483647 := by
  have hs := hstep_bd 11 k
  have hl := hashFrom_bd l _ hs.1 hs.2
  unfold khash at h
  have e : ∀ z, hashFrom (hstep 11 k) (l ++ z :: r) = hashFrom (hstep (hashFrom (hstep 11 k) l) z) r := fun z => hashFrom_append _ _ _
  have hb : ∀ z, 0 ≤ hashFrom (hstep 11 k) (l ++ z :: r) ∧ hashFrom (hstep 11 k) (l ++ z :: r) < 2147483647 := fun z => hashFrom_bd _ _ hs.1 hs.2
  have h1 := hstep_acc h (hb y).1 (hb y).2 (hb x).1 (hb x).2
  rw [e, e] at h1
  exact hstep_val (hashFrom_acc r h1 (hstep_bd _ _).1 (hstep_bd _ _).2 (hstep_bd _ _).1 (hstep_bd _ _).2)
theorem khash_set {k : Int} {l : List Int} {i : Nat} {x y : Int} (hx : l[i]? = some x) (h : khash k (l.set i y) = khash k l) : y % 2147483647 = x % 2147483647 := by
  have hi : i < l.length := by
    rcases Nat.lt_or_ge i l.length with h1 | h1
    · exact h1
    · rw [List.getElem?_eq_none h1] at hx; cases hx
  have hxe : l[i] = x := by rw [List.getElem?_eq_getElem hi] at hx; exact Option.some.inj hx
  have e1 : l = l.take i ++ x :: l.drop (i + 1) := by
    rw [← hxe, ← List.drop_eq_getElem_cons hi, List.take_append_drop]
  have e2 : l.set i y = l.take i ++ y :: l.drop (i + 1) := by rw [List.set_eq_take_append_cons_drop, if_pos hi]
  rw [e2] at h
  exact khash_mid (h.trans (congrArg (khash k) e1))
end Go.Proofs.Ytjkjnhkamieljaa
