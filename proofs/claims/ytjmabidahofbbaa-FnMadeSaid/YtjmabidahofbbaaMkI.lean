/- The value that is made of a field, and the message that is made of a format, by the program. -/
import Derived.Test.YtjmabidahofbbaaSeq
import Derived.Test.YtjmabidahofbbaaRpI
namespace Go.Proofs.Ytjmabidahofbbaa
open Go.ChangeShapes Go.WideShapes Go.ChangeAt Go.RowKit
set_option linter.unusedVariables false

/-- What a function leaves that hands back a value whose items are its own. -/
def MkvTold (tI : TypeId) (v : Vl) (w : World) (e : Ending) (w' : World) : Prop :=
  ∃ a n c, e = .returned (.agg #[.int .i64 v.num, .slice a n c]) ∧ Own .i64 tI w' w.heap.size a n c v.items ∧ Below w.heap.size w w'

set_option maxHeartbeats 4000000 in
set_option maxRecDepth 100000 in
theorem makeValue_any (x : Fd) (s p : Int) (w : World) (hs : Fit64 s) (hp : 0 ≤ p ∧ p ≤ 1000) (hx : 1 ≤ x.max ∧ x.max ≤ 99) :
    Calls Try.prog 53 #[x.val, .int .i64 s, .int .i64 p] w (MkvTold 3 (mkVal x s p) w) := by
  obtain ⟨xk, xm, xt, xi⟩ := x
  dsimp only at hx
  have HS := Lib.hid hs
  have hbd := pickOf_bd s p (xm + 1)
  obtain ⟨q, hq⟩ : ∃ q : Nat, pickOf s p (xm + 1) = q := ⟨(pickOf s p (xm + 1)).toNat, by omega⟩
  have hq99 : q ≤ 99 := by have := hbd.2.2 (by omega); omega
  have KP := Lib.hid (fun w0 : World => pickOf_any s p (xm + 1) w0 hs (fit_mk (by omega) (by omega)) (fit_mk (by omega) (by omega)))
  rw [hq] at KP
  have KV1 : Hid (xk = 1 → mkVal ⟨xk, xm, xt, xi⟩ s p = ⟨(q : Int), []⟩) := Lib.hid fun h => by rw [mkVal_num h, hq]
  have KV2 : Hid (xk ≠ 1 → mkVal ⟨xk, xm, xt, xi⟩ s p = ⟨0, picks s (p + 1) q⟩) := Lib.hid fun h => by rw [mkVal_more h, hq, Int.toNat_natCast]
  clear hs hbd hq
  unfold Fd.val MkvTold
  have hL0 : ((w.alloc (.cells #[.int .i64 xk, .int .i64 xm, .int .i64 xt, .int .i64 xi] 70)).alloc (.cells #[.int .i64 0, .slice none 0 0] 73)).heap[w.heap.size]? = some (.cells #[.int .i64 xk, .int .i64 xm, .int .i64 xt, .int .i64 xi] 70 (0, 0)) := by
    rw [Below.heap_alloc _ _ _ (by simp)]
    exact heap_alloc_new w _
  have hM0 : ((w.alloc (.cells #[.int .i64 xk, .int .i64 xm, .int .i64 xt, .int .i64 xi] 70)).alloc (.cells #[.int .i64 0, .slice none 0 0] 73)).heap[w.heap.size + 1]? = some (.cells #[.int .i64 0, .slice none 0 0] 73 (0, 0)) := by
    have := heap_alloc_new (w.alloc (.cells #[.int .i64 xk, .int .i64 xm, .int .i64 xt, .int .i64 xi] 70)) (.cells #[.int .i64 0, .slice none 0 0] 73 (0, 0))
    simpa using this
  have HB0 : Hid (Below w.heap.size w ((w.alloc (.cells #[.int .i64 xk, .int .i64 xm, .int .i64 xt, .int .i64 xi] 70)).alloc (.cells #[.int .i64 0, .slice none 0 0] 73))) := Lib.hid (((Below.refl _ w).alloc (Nat.le_refl _) _).alloc (by simp) _)
  have hsz : w.heap.size + 2 = ((w.alloc (.cells #[.int .i64 xk, .int .i64 xm, .int .i64 xt, .int .i64 xi] 70)).alloc (.cells #[.int .i64 0, .slice none 0 0] 73)).heap.size := by simp
  have x1 := (block_cell hL0 1).trans rfl
  go_enter Try.func53, Try.ntmps53
  go_wp2_with fail
  generalize ((w.alloc (.cells #[.int .i64 xk, .int .i64 xm, .int .i64 xt, .int .i64 xi] 70)).alloc (.cells #[.int .i64 0, .slice none 0 0] 73)) = W0 at *
  refine (KP.out W0).mono ?_
  rintro e w1 ⟨rfl, hb1⟩
  have hL1 : w1.heap[w.heap.size]? = some (.cells #[.int .i64 xk, .int .i64 xm, .int .i64 xt, .int .i64 xi] 70 (0, 0)) := by rw [hb1.block _ (by omega)]; exact hL0
  have hM1 : w1.heap[w.heap.size + 1]? = some (.cells #[.int .i64 0, .slice none 0 0] 73 (0, 0)) := by rw [hb1.block _ (by omega)]; exact hM0
  have HB1 := Lib.hid (HB0.out.trans (hb1.mono HB0.out.size))
  have hs1 := hb1.size
  have y0 := (block_cell hL1 0).trans rfl
  clear x1 hL0 hM0 hb1 hL1
  by_cases hk : xk = 1
  · subst hk
    have HV := Lib.hid (KV1.out rfl)
    have hM2 := heap_setCell_same w1 (w.heap.size + 1) 0 _ _ (.int .i64 q) hM1
    have hM3 := heap_setCell_same _ (w.heap.size + 1) 1 _ _ (.slice none 0 0) hM2
    have g0 := block_frozen hM1 0
    have g1 := block_frozen hM1 1
    have m0 := (block_cell hM1 0).trans rfl
    have m1 := (block_cell hM1 1).trans rfl
    have z0 : (w1.setCell ⟨w.heap.size + 1, 0, none⟩ (.int .i64 q)).cell? ⟨w.heap.size + 1, 0, none⟩ = some (.int .i64 q) := (block_cell hM2 0).trans rfl
    have z1 : ((w1.setCell ⟨w.heap.size + 1, 0, none⟩ (.int .i64 q)).setCell ⟨w.heap.size + 1, 1, none⟩ (.slice none 0 0)).cell? ⟨w.heap.size + 1, 1, none⟩ = some (.slice none 0 0) := (block_cell hM3 1).trans rfl
    clear hM1 hM2 hM3
    go_wp2_with fail
    (try simp only [Exit.inBlock, Exit.then])
    refine bodyPost_ret (by simp [results, Try.results53, go_sem, z0, z1]; try rfl) rfl ?_
    exact ⟨none, 0, 0, by rw [HV.out], by rw [HV.out]; exact Own.nil, (HB1.out.setCell (p := ⟨w.heap.size + 1, 0, none⟩) (Nat.le_succ _) _).setCell (p := ⟨w.heap.size + 1, 1, none⟩) (Nat.le_succ _) _⟩
  · have HV := Lib.hid (KV2.out hk)
    go_wp2_with fail
    refine (itemPicks_any s (p + 1) q w1).mono ?_
    rintro e w2 ⟨rfl, hC2, hb2⟩
    have HC2 := Lib.hid hC2
    clear hC2
    go_wp2_with fail
    refine (collect_any w1.heap.size s (p + 1) q w2 HS.out (by omega) (by omega) HC2.out).mono ?_
    rintro e w3 ⟨a, d, rfl, ho, hb3⟩
    have hs2 := hb2.size
    have hM4 : w3.heap[w.heap.size + 1]? = some (.cells #[.int .i64 0, .slice none 0 0] 73 (0, 0)) := by rw [hb3.block _ (by omega), hb2.block _ (by omega)]; exact hM1
    have HB3 := Lib.hid ((HB1.out.trans (hb2.mono HB1.out.size)).trans (hb3.mono (by have := HB1.out.size; omega)))
    have hM5 := heap_setCell_same w3 (w.heap.size + 1) 0 _ _ (.int .i64 0) hM4
    have hM6 := heap_setCell_same _ (w.heap.size + 1) 1 _ _ (.slice a q d) hM5
    have g0 := block_frozen hM4 0
    have g1 := block_frozen hM4 1
    have m0 := (block_cell hM4 0).trans rfl
    have m1 := (block_cell hM4 1).trans rfl
    have z0 : (w3.setCell ⟨w.heap.size + 1, 0, none⟩ (.int .i64 0)).cell? ⟨w.heap.size + 1, 0, none⟩ = some (.int .i64 0) := (block_cell hM5 0).trans rfl
    have z1 : ((w3.setCell ⟨w.heap.size + 1, 0, none⟩ (.int .i64 0)).setCell ⟨w.heap.size + 1, 1, none⟩ (.slice a q d)).cell? ⟨w.heap.size + 1, 1, none⟩ = some (.slice a q d) := (block_cell hM6 1).trans rfl
    have HSP := Lib.hid ho.span
    have HO := Lib.hid (ho.lower (B' := w.heap.size) (by omega))
    clear hM1 hM4 hM5 hM6 hb2 hb3 ho
    go_wp2_with fail
    (try simp only [Exit.inBlock, Exit.then])
    refine bodyPost_ret (by simp [results, Try.results53, go_sem, z0, z1]; try rfl) rfl ?_
    have hd : ∀ ad, a = some ad → ad.block ≠ w.heap.size + 1 := fun ad e => by
      have := (HSP.out ad e).1
      omega
    exact ⟨a, q, d, by rw [HV.out], by rw [HV.out]; exact (HO.out.set hd _ _).set hd _ _, (HB3.out.setCell (p := ⟨w.heap.size + 1, 0, none⟩) (Nat.le_succ _) _).setCell (p := ⟨w.heap.size + 1, 1, none⟩) (Nat.le_succ _) _⟩
end Go.Proofs.Ytjmabidahofbbaa
