/- One number off the cursor, and one value: a number, or a row of numbers behind their count. -/
import Derived.Test.YtjmabidahofbbaaCurI
import Derived.Test.YtjmabidahofbbaaWrI
namespace Go.Proofs.Ytjmabidahofbbaa
open Go.ChangeShapes Go.WideShapes Go.ChangeAt Go.RowKit
set_option linter.unusedVariables false

theorem grown_set2 {w w1 : World} {row : Option Nat} {R : Nat} (h : w.grownBy w1 row) (hR : w.heap.size ≤ R) (u v : Value) : w.grownBy ((w1.setCell ⟨R, 0, none⟩ u).setCell ⟨R, 1, none⟩ v) row :=
  grown_on h ((set_grown w1 R 0 u).trans (set_grown _ R 1 v)) (fun r e => Or.inr (by cases e; exact hR))
theorem Cur.set2 {w : World} {g m d k R : Nat} {b : Option Addr} (h : Cur w g b m d k) (hR : g ≠ R) (u v : Value) : Cur ((w.setCell ⟨R, 0, none⟩ u).setCell ⟨R, 1, none⟩ v) g b m d k := by
  unfold Cur
  rw [Below.heap_setCell _ _ _ _ (by dsimp only; omega), Below.heap_setCell _ _ _ _ (by dsimp only; omega)]
  exact h
theorem addr_none (ad : Addr) : ad.add 0 = ad := by unfold Addr.add; simp
/-- The cells of b are the list y, whatever happens to the cursor in block g. -/
def Fix (w : World) (g : Nat) (b : Option Addr) (m : Nat) (y : List Int) : Prop := ∀ w', w.grownBy w' (some g) → Nums .i64 w' b m y
theorem Fix.same {w w' : World} {g m : Nat} {b : Option Addr} {y : List Int} (h : Fix w g b m y) (hb : Below w.heap.size w w') : Fix w' g b m y := fun w2 hg => h w2 ((grown_below hb _).trans hg)
theorem Fix.on {w w' : World} {g m : Nat} {b : Option Addr} {y : List Int} (h : Fix w g b m y) (hb : w.grownBy w' (some g)) : Fix w' g b m y := fun w2 hg => h w2 (hb.trans hg)
theorem Fix.len {w : World} {g m : Nat} {b : Option Addr} {y : List Int} (h : Fix w g b m y) : y.length = m := (h w (grown_below (Below.refl _ _) _)).len
/-- What a function leaves that finds no value, and one that finds one. -/
def Rdn (g : Nat) (w : World) (e : Ending) (w' : World) : Prop := e = .returned (.tuple #[.agg #[.int .i64 0, .slice none 0 0], .bool false]) ∧ w.grownBy w' (some g)
def Rdd (g : Nat) (b : Option Addr) (m d : Nat) (num : Int) (q : Nat) (it : List Int) (k' : Nat) (w : World) (e : Ending) (w' : World) : Prop :=
  ∃ p r, e = .returned (.tuple #[.agg #[.int .i64 num, .slice p q r], .bool true]) ∧ Fix w g p q it ∧ Cur w' g b m d k' ∧ w.grownBy w' (some g)

set_option maxHeartbeats 1000000 in
set_option maxRecDepth 100000 in
theorem next_no (g : Nat) (b : Option Addr) (m d : Nat) (w : World) (h : Cur w g b m d m) (hm : m ≤ 1000000000) :
    Calls Try.prog 111 #[.pointer (some ⟨g, 0, none⟩)] w (Told (.tuple #[.int .i64 0, .bool false]) w) := by
  have KT := Lib.hid (take_no g b m d m 1 w h (Nat.le_refl _) hm (by omega))
  clear h
  go_enter Try.func111, Try.ntmps111
  go_wp2_with fail
  refine KT.out.mono ?_
  rintro e w1 ⟨rfl, hb⟩
  have HB := Lib.hid hb
  clear hb
  go_wp2_with fail
  go_ret2
  exact ⟨rfl, HB.out⟩
set_option maxHeartbeats 1000000 in
set_option maxRecDepth 100000 in
theorem next_yes (g : Nat) (b : Option Addr) (m d k : Nat) (y : List Int) (z : Int) (w : World) (h : Cur w g b m d k) (hv : Fix w g b m y) (hd : m ≤ d ∧ (d : Int) ≤ 9223372036854775807) (hm : m ≤ 1000000000) (hz : y[k]? = some z) :
    Calls Try.prog 111 #[.pointer (some ⟨g, 0, none⟩)] w (fun e w' => e = .returned (.tuple #[.int .i64 z, .bool true]) ∧ Cur w' g b m d (k + 1) ∧ w.grownBy w' (some g)) := by
  have hk : k + 1 ≤ m := by have := lt_of_some hz; have := hv.len; omega
  have KT := Lib.hid (take_yes g b m d k 1 w h hd hk hm)
  rw [show ((1 : Nat) : Int) = 1 from rfl] at KT
  have HV := Lib.hid hv
  have HZ := Lib.hid hz
  clear h hv hz
  go_enter Try.func111, Try.ntmps111
  go_wp2_with fail
  refine KT.out.mono ?_
  rintro e w1 ⟨p, rfl, hp, hc, hg⟩
  obtain ⟨ad, u, e, hu, hcell⟩ := ((HV.out w1 hg).sub k 1 hk (b := p) hp).at_ (j := 0) (by omega)
  have : u = z := by
    have h2 := HZ.out
    simp only [List.getElem?_take, List.getElem?_drop] at hu
    simp at hu
    rw [h2] at hu
    cases hu
    rfl
  subst this
  subst e
  have hcell2 : w1.cell? ad = some (.int .i64 u) := by rw [addr_none] at hcell; exact hcell
  have HC := Lib.hid hc
  have HG := Lib.hid hg
  clear hp hc hg hu
  go_wp2_with fail
  go_ret2
  exact ⟨rfl, HC.out, HG.out⟩

set_option maxHeartbeats 1000000 in
set_option maxRecDepth 100000 in
theorem readNum_no (g : Nat) (b : Option Addr) (m d : Nat) (w : World) (h : Cur w g b m d m) (hm : m ≤ 1000000000) :
    Calls Try.prog 105 #[.pointer (some ⟨g, 0, none⟩)] w (Rdn g w) := by
  have hgl := h.lt
  have HB : Hid (Below w.heap.size w (w.alloc (.cells #[.int .i64 0, .slice none 0 0] 73))) := Lib.hid (alloc_same _ _)
  have KN := Lib.hid (next_no g b m d _ (h.same HB.out) hm)
  have hs : w.heap.size < (w.alloc (.cells #[.int .i64 0, .slice none 0 0] 73)).heap.size := by simp
  have hM : (w.alloc (.cells #[.int .i64 0, .slice none 0 0] 73)).heap[w.heap.size]? = some (.cells #[.int .i64 0, .slice none 0 0] 73 (0, 0)) := heap_alloc_new w _
  clear h
  unfold Rdn
  go_enter Try.func105, Try.ntmps105
  go_wp2_with fail
  generalize (w.alloc (.cells #[.int .i64 0, .slice none 0 0] 73)) = w0 at *
  refine KN.out.mono ?_
  rintro e w1 ⟨rfl, hb⟩
  have hM1 : w1.heap[w.heap.size]? = some (.cells #[.int .i64 0, .slice none 0 0] 73 (0, 0)) := by rw [hb.block _ hs]; exact hM
  have HG := Lib.hid (grown_below (HB.out.trans (hb.mono HB.out.size)) (some g))
  obtain ⟨m0, m1, g0, g1⟩ := two_cells hM1
  obtain ⟨z0, z1, hZ⟩ := two_put hM1 (.int .i64 0) (.slice none 0 0)
  clear hM hM1 hb hZ
  go_wp2_with fail
  (try simp only [Exit.inBlock, Exit.then])
  refine bodyPost_ret (by simp [results, Try.results105, go_sem, z0, z1]; try rfl) rfl ?_
  exact ⟨rfl, grown_set2 HG.out (Nat.le_refl _) _ _⟩
set_option maxHeartbeats 1000000 in
set_option maxRecDepth 100000 in
theorem readNum_yes (g : Nat) (b : Option Addr) (m d k : Nat) (y : List Int) (z : Int) (w : World) (h : Cur w g b m d k) (hv : Fix w g b m y) (hd : m ≤ d ∧ (d : Int) ≤ 9223372036854775807) (hm : m ≤ 1000000000) (hz : y[k]? = some z) :
    Calls Try.prog 105 #[.pointer (some ⟨g, 0, none⟩)] w (Rdd g b m d z 0 [] (k + 1) w) := by
  have hgl := h.lt
  have HB : Hid (Below w.heap.size w (w.alloc (.cells #[.int .i64 0, .slice none 0 0] 73))) := Lib.hid (alloc_same _ _)
  have KN := Lib.hid (next_yes g b m d k y z _ (h.same HB.out) (hv.same HB.out) hd hm hz)
  have hs : w.heap.size < (w.alloc (.cells #[.int .i64 0, .slice none 0 0] 73)).heap.size := by simp
  have hM : (w.alloc (.cells #[.int .i64 0, .slice none 0 0] 73)).heap[w.heap.size]? = some (.cells #[.int .i64 0, .slice none 0 0] 73 (0, 0)) := heap_alloc_new w _
  clear h hv hz
  unfold Rdd
  go_enter Try.func105, Try.ntmps105
  go_wp2_with fail
  generalize (w.alloc (.cells #[.int .i64 0, .slice none 0 0] 73)) = w0 at *
  refine KN.out.mono ?_
  rintro e w1 ⟨rfl, hc, hg⟩
  have hM1 : w1.heap[w.heap.size]? = some (.cells #[.int .i64 0, .slice none 0 0] 73 (0, 0)) := by rw [hg.block _ hs (by simp; omega)]; exact hM
  have HG := Lib.hid ((grown_below HB.out (some g)).trans hg)
  have HC := Lib.hid hc
  obtain ⟨m0, m1, g0, g1⟩ := two_cells hM1
  obtain ⟨z0, z1, hZ⟩ := two_put hM1 (.int .i64 z) (.slice none 0 0)
  clear hM hM1 hg hc hZ
  go_wp2_with fail
  (try simp only [Exit.inBlock, Exit.then])
  refine bodyPost_ret (by simp [results, Try.results105, go_sem, z0, z1]; try rfl) rfl ?_
  exact ⟨none, 0, rfl, fun _ _ => Nums.none, HC.out.set2 (by omega) _ _, grown_set2 HG.out (Nat.le_refl _) _ _⟩

set_option maxHeartbeats 1000000 in
set_option maxRecDepth 100000 in
theorem readItems_no (g : Nat) (b : Option Addr) (m d : Nat) (w : World) (h : Cur w g b m d m) (hm : m ≤ 1000000000) :
    Calls Try.prog 102 #[.pointer (some ⟨g, 0, none⟩)] w (Rdn g w) := by
  have hgl := h.lt
  have HB : Hid (Below w.heap.size w (w.alloc (.cells #[.int .i64 0, .slice none 0 0] 73))) := Lib.hid (alloc_same _ _)
  have KN := Lib.hid (next_no g b m d _ (h.same HB.out) hm)
  have hs : w.heap.size < (w.alloc (.cells #[.int .i64 0, .slice none 0 0] 73)).heap.size := by simp
  have hM : (w.alloc (.cells #[.int .i64 0, .slice none 0 0] 73)).heap[w.heap.size]? = some (.cells #[.int .i64 0, .slice none 0 0] 73 (0, 0)) := heap_alloc_new w _
  clear h
  unfold Rdn
  go_enter Try.func102, Try.ntmps102
  go_wp2_with fail
  generalize (w.alloc (.cells #[.int .i64 0, .slice none 0 0] 73)) = w0 at *
  refine KN.out.mono ?_
  rintro e w1 ⟨rfl, hb⟩
  have hM1 : w1.heap[w.heap.size]? = some (.cells #[.int .i64 0, .slice none 0 0] 73 (0, 0)) := by rw [hb.block _ hs]; exact hM
  have HG := Lib.hid (grown_below (HB.out.trans (hb.mono HB.out.size)) (some g))
  obtain ⟨m0, m1, g0, g1⟩ := two_cells hM1
  obtain ⟨z0, z1, hZ⟩ := two_put hM1 (.int .i64 0) (.slice none 0 0)
  clear hM hM1 hb hZ
  go_wp2_with fail
  (try simp only [Exit.inBlock, Exit.then])
  refine bodyPost_ret (by simp [results, Try.results102, go_sem, z0, z1]; try rfl) rfl ?_
  exact ⟨rfl, grown_set2 HG.out (Nat.le_refl _) _ _⟩
set_option maxHeartbeats 1000000 in
set_option maxRecDepth 100000 in
theorem readItems_out (g : Nat) (b : Option Addr) (m d k : Nat) (y : List Int) (z : Int) (w : World) (h : Cur w g b m d k) (hv : Fix w g b m y) (hd : m ≤ d ∧ (d : Int) ≤ 9223372036854775807) (hm : m ≤ 1000000000) (hz : y[k]? = some z) (ho : ¬ (0 ≤ z ∧ z ≤ (m : Int) - k - 1)) :
    Calls Try.prog 102 #[.pointer (some ⟨g, 0, none⟩)] w (Rdn g w) := by
  have hgl := h.lt
  have hk : k + 1 ≤ m := by have := lt_of_some hz; have := hv.len; omega
  have HB : Hid (Below w.heap.size w (w.alloc (.cells #[.int .i64 0, .slice none 0 0] 73))) := Lib.hid (alloc_same _ _)
  have KN := Lib.hid (next_yes g b m d k y z _ (h.same HB.out) (hv.same HB.out) hd hm hz)
  have KT := Lib.hid (fun (w0 : World) (h0 : Cur w0 g b m d (k + 1)) => take_no g b m d (k + 1) z w0 h0 hk hm (by omega))
  have hs : w.heap.size < (w.alloc (.cells #[.int .i64 0, .slice none 0 0] 73)).heap.size := by simp
  have hM : (w.alloc (.cells #[.int .i64 0, .slice none 0 0] 73)).heap[w.heap.size]? = some (.cells #[.int .i64 0, .slice none 0 0] 73 (0, 0)) := heap_alloc_new w _
  clear h hv hz ho
  unfold Rdn
  go_enter Try.func102, Try.ntmps102
  go_wp2_with fail
  generalize (w.alloc (.cells #[.int .i64 0, .slice none 0 0] 73)) = w0 at *
  refine KN.out.mono ?_
  rintro e w1 ⟨rfl, hc, hg⟩
  have hM1 : w1.heap[w.heap.size]? = some (.cells #[.int .i64 0, .slice none 0 0] 73 (0, 0)) := by rw [hg.block _ hs (by simp; omega)]; exact hM
  have hs1 := Nat.lt_of_lt_of_le hs hg.size
  have HG := Lib.hid ((grown_below HB.out (some g)).trans hg)
  have HC := Lib.hid hc
  clear hM hg hc
  go_wp2_with fail
  refine (KT.out w1 HC.out).mono ?_
  rintro e w2 ⟨rfl, hb⟩
  have hM2 : w2.heap[w.heap.size]? = some (.cells #[.int .i64 0, .slice none 0 0] 73 (0, 0)) := by rw [hb.block _ hs1]; exact hM1
  have HG2 := Lib.hid (HG.out.trans (grown_below hb (some g)))
  obtain ⟨m0, m1, g0, g1⟩ := two_cells hM2
  obtain ⟨z0, z1, hZ⟩ := two_put hM2 (.int .i64 0) (.slice none 0 0)
  clear hM1 hM2 hb hZ
  go_wp2_with fail
  (try simp only [Exit.inBlock, Exit.then])
  refine bodyPost_ret (by simp [results, Try.results102, go_sem, z0, z1]; try rfl) rfl ?_
  exact ⟨rfl, grown_set2 HG2.out (Nat.le_refl _) _ _⟩
set_option maxHeartbeats 1000000 in
set_option maxRecDepth 100000 in
theorem readItems_yes (g : Nat) (b : Option Addr) (m d k q : Nat) (y : List Int) (w : World) (h : Cur w g b m d k) (hv : Fix w g b m y) (hd : m ≤ d ∧ (d : Int) ≤ 9223372036854775807) (hm : m ≤ 1000000000) (hz : y[k]? = some (q : Int)) (ho : k + 1 + q ≤ m) :
    Calls Try.prog 102 #[.pointer (some ⟨g, 0, none⟩)] w (Rdd g b m d 0 q ((y.drop (k + 1)).take q) (k + 1 + q) w) := by
  have hgl := h.lt
  have hk : k + 1 ≤ m := by omega
  have HV := Lib.hid hv
  have HB : Hid (Below w.heap.size w (w.alloc (.cells #[.int .i64 0, .slice none 0 0] 73))) := Lib.hid (alloc_same _ _)
  have KN := Lib.hid (next_yes g b m d k y q _ (h.same HB.out) (hv.same HB.out) hd hm hz)
  have KT := Lib.hid (fun (w0 : World) (h0 : Cur w0 g b m d (k + 1)) => take_yes g b m d (k + 1) q w0 h0 hd ho hm)
  have hs : w.heap.size < (w.alloc (.cells #[.int .i64 0, .slice none 0 0] 73)).heap.size := by simp
  have hM : (w.alloc (.cells #[.int .i64 0, .slice none 0 0] 73)).heap[w.heap.size]? = some (.cells #[.int .i64 0, .slice none 0 0] 73 (0, 0)) := heap_alloc_new w _
  clear h hv hz
  unfold Rdd
  go_enter Try.func102, Try.ntmps102
  go_wp2_with fail
  generalize (w.alloc (.cells #[.int .i64 0, .slice none 0 0] 73)) = w0 at *
  refine KN.out.mono ?_
  rintro e w1 ⟨rfl, hc, hg⟩
  have hM1 : w1.heap[w.heap.size]? = some (.cells #[.int .i64 0, .slice none 0 0] 73 (0, 0)) := by rw [hg.block _ hs (by simp; omega)]; exact hM
  have hs1 := Nat.lt_of_lt_of_le hs hg.size
  have HG := Lib.hid ((grown_below HB.out (some g)).trans hg)
  have HC := Lib.hid hc
  clear hM hg hc
  go_wp2_with fail
  refine (KT.out w1 HC.out).mono ?_
  rintro e w2 ⟨p, rfl, hp, hc, hg⟩
  have hM2 : w2.heap[w.heap.size]? = some (.cells #[.int .i64 0, .slice none 0 0] 73 (0, 0)) := by rw [hg.block _ hs1 (by simp; omega)]; exact hM1
  have HG2 := Lib.hid (HG.out.trans hg)
  have HC2 := Lib.hid hc
  have HP := Lib.hid hp
  obtain ⟨m0, m1, g0, g1⟩ := two_cells hM2
  obtain ⟨z0, z1, hZ⟩ := two_put hM2 (.int .i64 0) (.slice p q q)
  clear hM1 hM2 hg hc hp hZ
  go_wp2_with fail
  (try simp only [Exit.inBlock, Exit.then])
  refine bodyPost_ret (by simp [results, Try.results102, go_sem, z0, z1]; try rfl) rfl ?_
  exact ⟨p, q, rfl, fun w' hg => (HV.out w' hg).sub (k + 1) q ho HP.out, HC2.out.set2 (by omega) _ _, grown_set2 HG2.out (Nat.le_refl _) _ _⟩
end Go.Proofs.Ytjmabidahofbbaa
