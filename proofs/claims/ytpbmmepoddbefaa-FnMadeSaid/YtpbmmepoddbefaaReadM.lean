/- A message read from its bytes, by the model. -/
import Derived.Test.YtpbmmepoddbefaaEncM
import Derived.Test.YtpbmmepoddbefaaValB
namespace Go.Proofs.Ytpbmmepoddbefaa
open Go.ChangeShapes Go.WideShapes Go.ChangeAt Go.RowKit
set_option linter.unusedVariables false

/-- What a function leaves that reads a field's value at place k. -/
def RdTold (tI : TypeId) (x : Fd) (y : List Int) (k : Nat) (w : World) (e : Ending) (w' : World) : Prop :=
  match rdF x y k with
  | none => e = .returned (.tuple #[.agg #[.int .i64 0, .slice none 0 0], .int .i64 (-1)]) ∧ Below w.heap.size w w'
  | some (v, k') => ∃ p q g, e = .returned (.tuple #[.agg #[.int .i64 v.num, .slice p q g], .int .i64 k']) ∧ Own .i64 tI w' w.heap.size p q g v.items ∧ Below w.heap.size w w'
theorem rdF_end {x : Fd} {y : List Int} {k : Nat} (h : y.length ≤ k) : rdF x y k = none := by unfold rdF; rw [List.getElem?_eq_none h]
theorem rdF_num {x : Fd} {y : List Int} {k : Nat} {z : Int} (hz : y[k]? = some z) (hk : x.kind = 1) : rdF x y k = if fitsField x z [] = true then some (⟨z, []⟩, k + 1) else none := by unfold rdF; rw [hz]; dsimp only; rw [if_pos hk]
theorem rdF_out {x : Fd} {y : List Int} {k : Nat} {z : Int} (hz : y[k]? = some z) (hk : x.kind ≠ 1) (h : ¬ (0 ≤ z ∧ z ≤ (y.length : Int) - k - 1)) : rdF x y k = none := by unfold rdF; rw [hz]; dsimp only; rw [if_neg hk, if_neg h]
theorem rdF_row {x : Fd} {y : List Int} {k q : Nat} (hz : y[k]? = some (q : Int)) (hk : x.kind ≠ 1) (h : k + 1 + q ≤ y.length) : rdF x y k = if fitsField x 0 ((y.drop (k + 1)).take q) = true then some (⟨0, (y.drop (k + 1)).take q⟩, k + 1 + q) else none := by
  unfold rdF
  rw [hz]
  dsimp only
  rw [if_neg hk, if_pos ⟨by omega, by omega⟩, Int.toNat_natCast]

/-- Three blocks are made, one behind the other. -/
theorem three (w : World) (A B C : Array Value) (t1 t2 t3 : TypeId) :
    w.heap.size + 3 = (((w.alloc (.cells A t1)).alloc (.cells B t2)).alloc (.cells C t3)).heap.size ∧
    (((w.alloc (.cells A t1)).alloc (.cells B t2)).alloc (.cells C t3)).heap[w.heap.size]? = some (.cells A t1 (0, 0)) ∧
    (((w.alloc (.cells A t1)).alloc (.cells B t2)).alloc (.cells C t3)).heap[w.heap.size + 1]? = some (.cells B t2 (0, 0)) ∧
    (((w.alloc (.cells A t1)).alloc (.cells B t2)).alloc (.cells C t3)).heap[w.heap.size + 1 + 1]? = some (.cells C t3 (0, 0)) ∧
    Below w.heap.size w (((w.alloc (.cells A t1)).alloc (.cells B t2)).alloc (.cells C t3)) := by
  refine ⟨by simp, ?_, ?_, ?_, (((Below.refl _ w).alloc (Nat.le_refl _) _).alloc (by simp) _).alloc (by simp; omega) _⟩
  · rw [Below.heap_alloc _ _ _ (by simp; omega), Below.heap_alloc _ _ _ (by simp)]
    exact heap_alloc_new w _
  · rw [Below.heap_alloc _ _ _ (by simp)]
    have := heap_alloc_new (w.alloc (.cells A t1)) (.cells B t2)
    simpa using this
  · have := heap_alloc_new ((w.alloc (.cells A t1)).alloc (.cells B t2)) (.cells C t3)
    simpa using this
theorem two_cells {w : World} {g : Nat} {t : TypeId} {a b : Value} (h : w.heap[g]? = some (.cells #[a, b] t (0, 0))) : w.cell? ⟨g, 0, none⟩ = some a ∧ w.cell? ⟨g, 1, none⟩ = some b ∧ w.frozen? ⟨g, 0, none⟩ = false ∧ w.frozen? ⟨g, 1, none⟩ = false :=
  ⟨(block_cell h 0).trans rfl, (block_cell h 1).trans rfl, block_frozen h 0, block_frozen h 1⟩
theorem two_put {w : World} {g : Nat} {t : TypeId} {a b : Value} (h : w.heap[g]? = some (.cells #[a, b] t (0, 0))) (c d : Value) :
    (w.setCell ⟨g, 0, none⟩ c).cell? ⟨g, 0, none⟩ = some c ∧ ((w.setCell ⟨g, 0, none⟩ c).setCell ⟨g, 1, none⟩ d).cell? ⟨g, 1, none⟩ = some d ∧ ((w.setCell ⟨g, 0, none⟩ c).setCell ⟨g, 1, none⟩ d).heap[g]? = some (.cells #[c, d] t (0, 0)) := by
  have h1 := heap_setCell_same w g 0 _ _ c h
  have h2 := heap_setCell_same _ g 1 _ _ d h1
  exact ⟨(block_cell h1 0).trans rfl, (block_cell h2 1).trans rfl, h2⟩

set_option maxHeartbeats 4000000 in
set_option maxRecDepth 100000 in
theorem specRead_any (x : Fd) (a : Option Addr) (n c : Nat) (y : List Int) (k : Nat) (w : World) (h : Nums .i64 w a n y) (hc : n ≤ c ∧ (c : Int) ≤ 9223372036854775807) (hn : n ≤ 1000000000) (hk : k ≤ n) :
    Calls Try.prog 85 #[x.val, .slice a n c, .int .i64 k] w (RdTold 3 x y k w) := by
  obtain ⟨xk, xm, xt, xi⟩ := x
  have H := Lib.hid h
  have hyl := Lib.hid h.len
  obtain ⟨i0, hi, hz0, hz1, hz2⟩ := info_parts infoIntS
  have HI := Lib.hid (And.intro hi (And.intro hz0 (And.intro hz1 hz2)))
  clear h hi hz0 hz1 hz2
  unfold Fd.val RdTold
  by_cases h1 : k = n
  · rw [rdF_end (by rw [hyl.out]; omega)]
    subst h1
    dsimp only
    go_enter Try.func85, Try.ntmps85
    go_wp2_with fail
    go_returns
    exact ⟨rfl, ((Below.refl _ w).alloc (Nat.le_refl _) _).alloc (by simp) _⟩
  · have hlt : k < n := by omega
    obtain ⟨ad, z, rfl, hz, hcell⟩ := H.out.at_ hlt
    have ha2 : ∀ o1 o2, ((w.alloc o1).alloc o2).cell? (ad.add k) = some (.int .i64 z) := fun o1 o2 => by rw [(((Below.refl _ w).alloc (Nat.le_refl _) o1).alloc (by simp) o2).cell (cell_in hcell)]; exact hcell
    have ha3 : ∀ o1 o2 o3, (((w.alloc o1).alloc o2).alloc o3).cell? (ad.add k) = some (.int .i64 z) := fun o1 o2 o3 => by rw [((((Below.refl _ w).alloc (Nat.le_refl _) o1).alloc (by simp) o2).alloc (by simp; omega) o3).cell (cell_in hcell)]; exact hcell
    have hle : ¬ n ≤ k := by omega
    obtain ⟨hsz, hX, hM, hL, hB⟩ := three w #[.int .i64 xk, .int .i64 xm, .int .i64 xt, .int .i64 xi] #[.int .i64 0, .slice none 0 0] #[.int .i64 z, .slice none 0 0] 56 59 59
    by_cases h2 : xk = 1
    · subst h2
      rw [rdF_num hz rfl]
      have KV := Lib.hid (fun w0 => specFitsField_any ⟨1, xm, xt, xi⟩ z none 0 0 [] w0 Nums.none)
      unfold Fd.val at KV
      obtain ⟨f, hf⟩ : ∃ f, f = fitsField ⟨1, xm, xt, xi⟩ z [] := ⟨_, rfl⟩
      rw [← hf] at KV ⊢
      clear hz hf
      go_enter Try.func85, Try.ntmps85
      go_wp2_with fail
      generalize (((w.alloc (.cells #[.int .i64 1, .int .i64 xm, .int .i64 xt, .int .i64 xi] 56)).alloc (.cells #[.int .i64 0, .slice none 0 0] 59)).alloc (.cells #[.int .i64 z, .slice none 0 0] 59)) = W3 at *
      refine (KV.out _).mono ?_
      rintro e w1 ⟨rfl, hb1⟩
      have hM1 : w1.heap[w.heap.size + 1]? = some (.cells #[.int .i64 0, .slice none 0 0] 59 (0, 0)) := by rw [hb1.block _ (by omega)]; exact hM
      have hL1 : w1.heap[w.heap.size + 1 + 1]? = some (.cells #[.int .i64 z, .slice none 0 0] 59 (0, 0)) := by rw [hb1.block _ (by omega)]; exact hL
      have HB1 := Lib.hid (hB.trans (hb1.mono hB.size))
      obtain ⟨c0, c1, _, _⟩ := two_cells hL1
      obtain ⟨m0, m1, g0, g1⟩ := two_cells hM1
      clear hX hM hL hb1 hB
      cases f with
      | false =>
        obtain ⟨z0, z1, hZ⟩ := two_put hM1 (.int .i64 0) (.slice none 0 0)
        clear hM1 hL1 hZ
        go_wp2_with fail
        (try simp only [Exit.inBlock, Exit.then])
        refine bodyPost_ret (by simp [results, Try.results85, go_sem, z0, z1]; try rfl) rfl ?_
        exact ⟨rfl, (HB1.out.setCell (by dsimp only; omega) _).setCell (by dsimp only; omega) _⟩
      | true =>
        obtain ⟨z0, z1, hZ⟩ := two_put hM1 (.int .i64 z) (.slice none 0 0)
        clear hM1 hL1 hZ
        go_wp2_with fail
        (try simp only [Exit.inBlock, Exit.then])
        refine bodyPost_ret (by simp [results, Try.results85, go_sem, z0, z1]; try rfl) rfl ?_
        exact ⟨none, 0, 0, rfl, Own.nil, (HB1.out.setCell (by dsimp only; omega) _).setCell (by dsimp only; omega) _⟩
    · have b1 : (xk != 1) = true := by simpa using h2
      by_cases h3 : 0 ≤ z ∧ z ≤ (n : Int) - k - 1
      · obtain ⟨q, rfl⟩ : ∃ q : Nat, z = q := ⟨z.toNat, by omega⟩
        rw [rdF_row hz h2 (by rw [hyl.out]; omega)]
        have e1 : decide ((0 : Int) ≤ (q : Int) ∧ (q : Int) ≤ (n : Int) - k - 1) = true := decide_eq_true h3
        have hkq : k + 1 + q ≤ n := by omega
        obtain ⟨it, hit⟩ : ∃ it, it = (y.drop (k + 1)).take q := ⟨_, rfl⟩
        have HSUB := Lib.hid (fun (w0 : World) (hb0 : Below w.heap.size w w0) (b : Option Addr) (hb : 0 < q → ∀ ad', some ad = some ad' → b = some (ad'.add (k + 1))) => (H.out.same hb0).sub (k + 1) q (by omega) hb)
        rw [← hit] at HSUB ⊢
        have hitl : it.length = q := by rw [hit, List.length_take, List.length_drop, hyl.out]; omega
        have KV := Lib.hid (fun w0 p g (h0 : Nums .i64 w0 p q it) => specFitsField_any ⟨xk, xm, xt, xi⟩ 0 p q g it w0 h0)
        unfold Fd.val at KV
        obtain ⟨f, hf⟩ : ∃ f, f = fitsField ⟨xk, xm, xt, xi⟩ 0 it := ⟨_, rfl⟩
        rw [← hf] at KV ⊢
        have HIT := Lib.hid hitl
        clear hz h3 hf hit hitl h2
        by_cases hcc : k + 1 = c
        · obtain rfl : q = 0 := by omega
          obtain rfl : n = k + 1 := by omega
          subst hcc
          have e1 : decide ((0 : Int) ≤ 0 ∧ (0 : Int) ≤ (k : Int) + 1 - k - 1) = true := decide_eq_true ⟨by omega, by omega⟩
          have hkk : decide ((k : Int) + 1 ≤ (k : Int)) = false := decide_eq_false (by omega)
          go_enter Try.func85, Try.ntmps85
          go_wp2_with fail
          generalize (((w.alloc (.cells #[.int .i64 xk, .int .i64 xm, .int .i64 xt, .int .i64 xi] 56)).alloc (.cells #[.int .i64 0, .slice none 0 0] 59)).alloc (.cells #[.int .i64 0, .slice none 0 0] 59)) = W3 at *
          have h3c := cell_stay hcell hB
          have HXX := Lib.hid hX
          have HMM := Lib.hid hM
          have HLL := Lib.hid hL
          have HB3 := Lib.hid hB
          have HSZ := Lib.hid hsz
          have HO0 : Hid (Own .i64 3 (W3.alloc (.cells #[] 3)) W3.heap.size (some ⟨W3.heap.size, 0, none⟩) 0 0 []) := Lib.hid (Own.empty (Nat.le_refl _))
          clear hX hM hL hB ha2 ha3 hcell
          obtain rfl : it = [] := List.eq_nil_of_length_eq_zero HIT.out
          have ho4 := HO0.out
          have hb4 := Below.refl W3.heap.size (W3.alloc (.cells #[] 3))
          have hbw : Below W3.heap.size W3 (W3.alloc (.cells #[] 3)) := (alloc_same W3 (.cells #[] 3)).trans hb4
          have HB4 := Lib.hid (HB3.out.trans (hbw.mono HB3.out.size))
          have hs := HSZ.out
          have hs4 := hbw.size
          have hL4 : (W3.alloc (.cells #[] 3)).heap[w.heap.size + 1 + 1]? = some (.cells #[.int .i64 0, .slice none 0 0] 59 (0, 0)) := by rw [hbw.block _ (by omega)]; exact HLL.out
          have hM4 : (W3.alloc (.cells #[] 3)).heap[w.heap.size + 1]? = some (.cells #[.int .i64 0, .slice none 0 0] 59 (0, 0)) := by rw [hbw.block _ (by omega)]; exact HMM.out
          have hX4 : (W3.alloc (.cells #[] 3)).heap[w.heap.size]? = some (.cells #[.int .i64 xk, .int .i64 xm, .int .i64 xt, .int .i64 xi] 56 (0, 0)) := by rw [hbw.block _ (by omega)]; exact HXX.out
          obtain ⟨c0, c1, f0, f1⟩ := two_cells hL4
          obtain ⟨p0, p1, hP⟩ := two_put hL4 (.int .i64 0) (.slice (some (⟨W3.heap.size, 0, none⟩ : Addr)) 0 0)
          have hX5 : (((W3.alloc (.cells #[] 3)).setCell ⟨w.heap.size + 1 + 1, 0, none⟩ (.int .i64 0)).setCell ⟨w.heap.size + 1 + 1, 1, none⟩ (.slice (some (⟨W3.heap.size, 0, none⟩ : Addr)) 0 0)).heap[w.heap.size]? = some (.cells #[.int .i64 xk, .int .i64 xm, .int .i64 xt, .int .i64 xi] 56 (0, 0)) := by
            rw [Below.heap_setCell _ _ _ _ (by dsimp only; omega), Below.heap_setCell _ _ _ _ (by dsimp only; omega)]; exact hX4
          have hM5 : (((W3.alloc (.cells #[] 3)).setCell ⟨w.heap.size + 1 + 1, 0, none⟩ (.int .i64 0)).setCell ⟨w.heap.size + 1 + 1, 1, none⟩ (.slice (some (⟨W3.heap.size, 0, none⟩ : Addr)) 0 0)).heap[w.heap.size + 1]? = some (.cells #[.int .i64 0, .slice none 0 0] 59 (0, 0)) := by
            rw [Below.heap_setCell _ _ _ _ (by dsimp only; omega), Below.heap_setCell _ _ _ _ (by dsimp only; omega)]; exact hM4
          have x0 := (block_cell hX5 0).trans rfl
          have x1 := (block_cell hX5 1).trans rfl
          have x2 := (block_cell hX5 2).trans rfl
          have x3 := (block_cell hX5 3).trans rfl
          obtain ⟨l0, l1, _, _⟩ := two_cells hP
          have HP := Lib.hid hP
          have HM5 := Lib.hid hM5
          have hout : ∀ x, x < w.heap.size + 3 → ∀ ad, (some (⟨W3.heap.size, 0, none⟩ : Addr)) = some ad → ad.block ≠ x := fun x hx ad e => by
            have := (ho4.span ad e).1
            omega
          have HO5 : Hid (Own .i64 3 (((W3.alloc (.cells #[] 3)).setCell ⟨w.heap.size + 1 + 1, 0, none⟩ (.int .i64 0)).setCell ⟨w.heap.size + 1 + 1, 1, none⟩ (.slice (some (⟨W3.heap.size, 0, none⟩ : Addr)) 0 0)) W3.heap.size (some (⟨W3.heap.size, 0, none⟩ : Addr)) 0 0 []) := Lib.hid ((ho4.set (hout _ (by omega)) _ _).set (hout _ (by omega)) _ _)
          have HB5 : Hid (Below w.heap.size w (((W3.alloc (.cells #[] 3)).setCell ⟨w.heap.size + 1 + 1, 0, none⟩ (.int .i64 0)).setCell ⟨w.heap.size + 1 + 1, 1, none⟩ (.slice (some (⟨W3.heap.size, 0, none⟩ : Addr)) 0 0))) := Lib.hid ((HB4.out.setCell (by dsimp only; omega) _).setCell (by dsimp only; omega) _)
          have hs5 : (W3.alloc (.cells #[] 3)).heap.size ≤ (((W3.alloc (.cells #[] 3)).setCell ⟨w.heap.size + 1 + 1, 0, none⟩ (.int .i64 0)).setCell ⟨w.heap.size + 1 + 1, 1, none⟩ (.slice (some (⟨W3.heap.size, 0, none⟩ : Addr)) 0 0)).heap.size := by simp [World.setCell]
          have HOUT := Lib.hid hout
          clear ho4 hb4 hbw hL4 hM4 hX4 hP hX5 hM5 hout
          go_wp2_with (go_at_call 49; refine (l1R_any _ _ _ _).mono ?_; rw [e1]; rintro e w' ⟨rfl, rfl⟩)
          clear x0 x1 x2 x3 l0 l1 p0 p1 c0 c1 f0 f1
          generalize (((W3.alloc (.cells #[] 3)).setCell ⟨w.heap.size + 1 + 1, 0, none⟩ (.int .i64 0)).setCell ⟨w.heap.size + 1 + 1, 1, none⟩ (.slice (some (⟨W3.heap.size, 0, none⟩ : Addr)) 0 0)) = W5 at *
          refine (KV.out W5 (some (⟨W3.heap.size, 0, none⟩ : Addr)) 0 HO5.out.nums).mono ?_
          rintro e w6 ⟨rfl, hb6⟩
          have hM6 : w6.heap[w.heap.size + 1]? = some (.cells #[.int .i64 0, .slice none 0 0] 59 (0, 0)) := by rw [hb6.block _ (by omega)]; exact HM5.out
          have hL6 : w6.heap[w.heap.size + 1 + 1]? = some (.cells #[.int .i64 0, .slice (some (⟨W3.heap.size, 0, none⟩ : Addr)) 0 0] 59 (0, 0)) := by rw [hb6.block _ (by omega)]; exact HP.out
          have HB6 := Lib.hid (HB5.out.trans (hb6.mono HB5.out.size))
          have HO6 := Lib.hid (HO5.out.same hb6)
          obtain ⟨c0, c1, _, _⟩ := two_cells hL6
          obtain ⟨m0, m1, g0, g1⟩ := two_cells hM6
          clear hb6
          cases f with
          | false =>
            obtain ⟨z0, z1, hZ⟩ := two_put hM6 (.int .i64 0) (.slice none 0 0)
            clear hM6 hL6 hZ
            go_wp2_with fail
            (try simp only [Exit.inBlock, Exit.then])
            refine bodyPost_ret (by simp [results, Try.results85, go_sem, z0, z1]; try rfl) rfl ?_
            exact ⟨rfl, (HB6.out.setCell (by dsimp only; omega) _).setCell (by dsimp only; omega) _⟩
          | true =>
            obtain ⟨z0, z1, hZ⟩ := two_put hM6 (.int .i64 0) (.slice (some (⟨W3.heap.size, 0, none⟩ : Addr)) 0 0)
            clear hM6 hL6 hZ
            go_wp2_with fail
            (try simp only [Exit.inBlock, Exit.then])
            refine bodyPost_ret (by simp [results, Try.results85, go_sem, z0, z1]; try rfl) rfl ?_
            exact ⟨(some (⟨W3.heap.size, 0, none⟩ : Addr)), 0, 0, rfl, ((HO6.out.lower (by omega)).set (HOUT.out _ (by omega)) _ _).set (HOUT.out _ (by omega)) _ _, (HB6.out.setCell (by dsimp only; omega) _).setCell (by dsimp only; omega) _⟩
        · have hck : k + 1 < c := by omega
          go_enter Try.func85, Try.ntmps85
          go_wp2_with fail
          generalize (((w.alloc (.cells #[.int .i64 xk, .int .i64 xm, .int .i64 xt, .int .i64 xi] 56)).alloc (.cells #[.int .i64 0, .slice none 0 0] 59)).alloc (.cells #[.int .i64 q, .slice none 0 0] 59)) = W3 at *
          have h3c := cell_stay hcell hB
          have HXX := Lib.hid hX
          have HMM := Lib.hid hM
          have HLL := Lib.hid hL
          have HB3 := Lib.hid hB
          have HSZ := Lib.hid hsz
          have HN : Hid (Nums .i64 (W3.alloc (.cells #[] 3)) (some ⟨ad.block, ad.off + (k + 1), none⟩) (k + 1 + q - (k + 1)) it) := Lib.hid (by
            rw [show k + 1 + q - (k + 1) = q by omega]
            exact (HSUB.out W3 hB _ (fun _ ad' e => by cases e; simp [Addr.add])).same (alloc_same W3 (.cells #[] 3)))
          have HO0 : Hid (Own .i64 3 (W3.alloc (.cells #[] 3)) W3.heap.size (some ⟨W3.heap.size, 0, none⟩) 0 0 []) := Lib.hid (Own.empty (Nat.le_refl _))
          clear hX hM hL hB ha2 ha3 hcell
          go_wp2_with (first | (at_builtin; refine wpl_app _ rfl (.tmp 44) (.tmp 49) 29 rfl .i64 3 i0 (.int .i64 0) 8 Try.underlying29 HI.out.1 HI.out.2.1 HI.out.2.2.1 HI.out.2.2.2 rfl rfl HO0.out rfl HN.out (by omega) ?c1 ?c2 ?_) | (go_at_call 49; refine (l1R_any _ _ _ _).mono ?_; rw [e1]; rintro e w' ⟨rfl, rfl⟩))
          case c1 => omega
          case c2 => simp
          intro a4 c4 w4 ho4 hb4
          have hbw : Below W3.heap.size W3 w4 := (alloc_same W3 (.cells #[] 3)).trans hb4
          have HB4 := Lib.hid (HB3.out.trans (hbw.mono HB3.out.size))
          have hs := HSZ.out
          have hs4 := hbw.size
          have hL4 : w4.heap[w.heap.size + 1 + 1]? = some (.cells #[.int .i64 q, .slice none 0 0] 59 (0, 0)) := by rw [hbw.block _ (by omega)]; exact HLL.out
          have hM4 : w4.heap[w.heap.size + 1]? = some (.cells #[.int .i64 0, .slice none 0 0] 59 (0, 0)) := by rw [hbw.block _ (by omega)]; exact HMM.out
          have hX4 : w4.heap[w.heap.size]? = some (.cells #[.int .i64 xk, .int .i64 xm, .int .i64 xt, .int .i64 xi] 56 (0, 0)) := by rw [hbw.block _ (by omega)]; exact HXX.out
          obtain ⟨c0, c1, f0, f1⟩ := two_cells hL4
          obtain ⟨p0, p1, hP⟩ := two_put hL4 (.int .i64 0) (.slice a4 q c4)
          have hX5 : ((w4.setCell ⟨w.heap.size + 1 + 1, 0, none⟩ (.int .i64 0)).setCell ⟨w.heap.size + 1 + 1, 1, none⟩ (.slice a4 q c4)).heap[w.heap.size]? = some (.cells #[.int .i64 xk, .int .i64 xm, .int .i64 xt, .int .i64 xi] 56 (0, 0)) := by
            rw [Below.heap_setCell _ _ _ _ (by dsimp only; omega), Below.heap_setCell _ _ _ _ (by dsimp only; omega)]; exact hX4
          have hM5 : ((w4.setCell ⟨w.heap.size + 1 + 1, 0, none⟩ (.int .i64 0)).setCell ⟨w.heap.size + 1 + 1, 1, none⟩ (.slice a4 q c4)).heap[w.heap.size + 1]? = some (.cells #[.int .i64 0, .slice none 0 0] 59 (0, 0)) := by
            rw [Below.heap_setCell _ _ _ _ (by dsimp only; omega), Below.heap_setCell _ _ _ _ (by dsimp only; omega)]; exact hM4
          have x0 := (block_cell hX5 0).trans rfl
          have x1 := (block_cell hX5 1).trans rfl
          have x2 := (block_cell hX5 2).trans rfl
          have x3 := (block_cell hX5 3).trans rfl
          obtain ⟨l0, l1, _, _⟩ := two_cells hP
          have HP := Lib.hid hP
          have HM5 := Lib.hid hM5
          have hout : ∀ x, x < w.heap.size + 3 → ∀ ad, a4 = some ad → ad.block ≠ x := fun x hx ad e => by
            have := (ho4.span ad e).1
            omega
          have HO5 : Hid (Own .i64 3 ((w4.setCell ⟨w.heap.size + 1 + 1, 0, none⟩ (.int .i64 0)).setCell ⟨w.heap.size + 1 + 1, 1, none⟩ (.slice a4 q c4)) W3.heap.size a4 q c4 it) := Lib.hid ((ho4.set (hout _ (by omega)) _ _).set (hout _ (by omega)) _ _)
          have HB5 : Hid (Below w.heap.size w ((w4.setCell ⟨w.heap.size + 1 + 1, 0, none⟩ (.int .i64 0)).setCell ⟨w.heap.size + 1 + 1, 1, none⟩ (.slice a4 q c4))) := Lib.hid ((HB4.out.setCell (by dsimp only; omega) _).setCell (by dsimp only; omega) _)
          have hs5 : w4.heap.size ≤ ((w4.setCell ⟨w.heap.size + 1 + 1, 0, none⟩ (.int .i64 0)).setCell ⟨w.heap.size + 1 + 1, 1, none⟩ (.slice a4 q c4)).heap.size := by simp [World.setCell]
          have HOUT := Lib.hid hout
          clear ho4 hb4 hbw hL4 hM4 hX4 hP hX5 hM5 hout
          go_wp2_with fail
          clear x0 x1 x2 x3 l0 l1 p0 p1 c0 c1 f0 f1
          generalize ((w4.setCell ⟨w.heap.size + 1 + 1, 0, none⟩ (.int .i64 0)).setCell ⟨w.heap.size + 1 + 1, 1, none⟩ (.slice a4 q c4)) = W5 at *
          refine (KV.out W5 a4 c4 HO5.out.nums).mono ?_
          rintro e w6 ⟨rfl, hb6⟩
          have hM6 : w6.heap[w.heap.size + 1]? = some (.cells #[.int .i64 0, .slice none 0 0] 59 (0, 0)) := by rw [hb6.block _ (by omega)]; exact HM5.out
          have hL6 : w6.heap[w.heap.size + 1 + 1]? = some (.cells #[.int .i64 0, .slice a4 q c4] 59 (0, 0)) := by rw [hb6.block _ (by omega)]; exact HP.out
          have HB6 := Lib.hid (HB5.out.trans (hb6.mono HB5.out.size))
          have HO6 := Lib.hid (HO5.out.same hb6)
          obtain ⟨c0, c1, _, _⟩ := two_cells hL6
          obtain ⟨m0, m1, g0, g1⟩ := two_cells hM6
          clear hb6
          cases f with
          | false =>
            obtain ⟨z0, z1, hZ⟩ := two_put hM6 (.int .i64 0) (.slice none 0 0)
            clear hM6 hL6 hZ
            go_wp2_with fail
            (try simp only [Exit.inBlock, Exit.then])
            refine bodyPost_ret (by simp [results, Try.results85, go_sem, z0, z1]; try rfl) rfl ?_
            exact ⟨rfl, (HB6.out.setCell (by dsimp only; omega) _).setCell (by dsimp only; omega) _⟩
          | true =>
            obtain ⟨z0, z1, hZ⟩ := two_put hM6 (.int .i64 0) (.slice a4 q c4)
            clear hM6 hL6 hZ
            go_wp2_with fail
            (try simp only [Exit.inBlock, Exit.then])
            refine bodyPost_ret (by simp [results, Try.results85, go_sem, z0, z1]; try rfl) rfl ?_
            exact ⟨a4, q, c4, rfl, ((HO6.out.lower (by omega)).set (HOUT.out _ (by omega)) _ _).set (HOUT.out _ (by omega)) _ _, (HB6.out.setCell (by dsimp only; omega) _).setCell (by dsimp only; omega) _⟩
      · rw [rdF_out hz h2 (by rw [hyl.out]; exact h3)]
        have e1 : decide ((0 : Int) ≤ z ∧ z ≤ (n : Int) - k - 1) = false := decide_eq_false h3
        dsimp only
        obtain ⟨z0, z1, hZ⟩ := two_put hM (.int .i64 0) (.slice none 0 0)
        obtain ⟨m0, m1, g0, g1⟩ := two_cells hM
        have HB := Lib.hid hB
        clear hz h3 hsz hX hL hM hB hZ h2
        go_enter Try.func85, Try.ntmps85
        go_wp2_with (go_at_call 49; refine (l1R_any _ _ _ _).mono ?_; rw [e1]; rintro e w' ⟨rfl, rfl⟩)
        go_returns
        exact ⟨rfl, HB.out⟩
end Go.Proofs.Ytpbmmepoddbefaa
