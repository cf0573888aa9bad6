/- The cursor over a list of bytes, by the program: what is taken, and what is left. One number off the cursor, and one value: a number, or a row of numbers behind their count. The helpers of the exact laws at lists of values: measured, copied, compared. A message read from the beginning of its bytes, and from all of them, by the model. -/
import Derived.Test.YtcpnchjgklemgaaG9
import Derived.Test.YtcpnchjgklemgaaG10
import Derived.Test.YtcpnchjgklemgaaG4
import Derived.Test.YtcpnchjgklemgaaG5
import Derived.Test.YtcpnchjgklemgaaG8
import Derived.Deep.QuietTactic
import Derived.BigQuiet
import Derived.RegionTactic
import Derived.StillTailTactics
import Derived.Handy
namespace Go.Proofs.Ytcpnchjgklemgaa
open Go.ChangeShapes Go.WideShapes Go.ChangeAt Go.RowKit
set_option linter.unusedVariables false

/-- A cursor in block g over m numbers from b on, k of them read. -/
def Cur (w : World) (g : Nat) (b : Option Addr) (m d k : Nat) : Prop := w.heap[g]? = some (.cells #[.slice b m d, .int .i64 k] 72 (0, 0))
theorem Cur.lt {w : World} {g m d k : Nat} {b : Option Addr} (h : Cur w g b m d k) : g < w.heap.size := (Array.getElem?_eq_some_iff.1 h).1
theorem Cur.same {w w' : World} {g m d k : Nat} {b : Option Addr} (h : Cur w g b m d k) (hb : Below w.heap.size w w') : Cur w' g b m d k := (hb.block _ h.lt).trans h

set_option maxHeartbeats 1000000 in
set_option maxRecDepth 100000 in
theorem take_no (g : Nat) (b : Option Addr) (m d k : Nat) (z : Int) (w : World) (h : Cur w g b m d k) (hk : k ≤ m) (hm : m ≤ 1000000000) (hz : ¬ (0 ≤ z ∧ z ≤ (m : Int) - k)) :
    Calls Try.prog 97 #[.pointer (some ⟨g, 0, none⟩), .int .i64 z] w (Told (.tuple #[.slice none 0 0, .bool false]) w) := by
  obtain ⟨c0, c1, f0, f1⟩ := two_cells h
  have e1 : decide (0 ≤ z ∧ z ≤ (m : Int) - k) = false := decide_eq_false hz
  have hkI : (k : Int) ≤ (m : Int) := by omega
  have hmI : (m : Int) ≤ 1000000000 := by omega
  clear h hz
  go_enter Try.func97, Try.ntmps97
  go_wp2_with fail
  go_quiet ((go_at_call 119; exact Calls.quiet_of_same (inR_t e1 _)))
  go_wp2_with fail
  go_ret2
  exact ⟨rfl, by first | exact drewN_same _ _ | exact (Below.refl _ _).drew | exact Below.refl _ _⟩
set_option maxHeartbeats 1000000 in
set_option maxRecDepth 100000 in
theorem take_yes (g : Nat) (b : Option Addr) (m d k q : Nat) (w : World) (h : Cur w g b m d k) (hd : m ≤ d ∧ (d : Int) ≤ 9223372036854775807) (hk : k + q ≤ m) (hm : m ≤ 1000000000) :
    Calls Try.prog 97 #[.pointer (some ⟨g, 0, none⟩), .int .i64 q] w (fun e w' => ∃ p, e = .returned (.tuple #[.slice p q q, .bool true]) ∧ (0 < q → ∀ ad, b = some ad → p = some (ad.add k)) ∧ Cur w' g b m d (k + q) ∧ w.grownBy w' (some g)) := by
  obtain ⟨c0, c1, f0, f1⟩ := two_cells h
  have HC := Lib.hid h
  have e1 : decide ((0 : Int) ≤ (q : Int) ∧ (q : Int) ≤ (m : Int) - k) = true := decide_eq_true (by omega)
  have hkI : (k : Int) ≤ (m : Int) := by omega
  have hmI : (m : Int) ≤ 1000000000 := by omega
  have hqI : (k : Int) + (q : Int) ≤ (m : Int) := by omega
  clear h
  go_enter Try.func97, Try.ntmps97
  go_wp2_with fail
  go_quiet ((go_at_call 119; exact Calls.quiet_of_same (inR_t e1 _)))
  go_wp2_with fail
  have h1 : ((w.drewN nq).setCell ⟨g, 1, none⟩ (.int .i64 ((k : Int) + (q : Int)))).heap[g]? = some (.cells #[.slice b m d, .int .i64 ((k : Int) + (q : Int))] 72 (0, 0)) := heap_setCell_same (w.drewN nq) g 1 _ _ _ (HC.out.same (drewN_same w nq))
  have hg1 : w.grownBy ((w.drewN nq).setCell ⟨g, 1, none⟩ (.int .i64 ((k : Int) + (q : Int)))) (some g) := (grown_below (drewN_same w nq) _).trans (set_grown _ g 1 _)
  clear c0 c1 f0 f1
  generalize (w.drewN nq).setCell ⟨g, 1, none⟩ (.int .i64 ((k : Int) + (q : Int))) = w2 at *
  obtain ⟨c0, c1, _, _⟩ := two_cells h1
  have H1 : Hid (Cur w2 g b m d (k + q)) := Lib.hid (by unfold Cur; rw [h1]; simp)
  have HG1 := Lib.hid hg1
  clear h1 hg1
  by_cases h0 : q = 0
  · subst h0
    go_quiet (fail)
    go_wp2_with fail
    go_ret2
    exact ⟨_, rfl, fun h => absurd h (by omega), H1.out.same (drewN_same _ _), HG1.out.trans (grown_below (drewN_same _ _) _)⟩
  · have h3 : 0 < q := by omega
    clear h0
    go_quiet (fail)
    go_wp2_with fail
    go_ret2
    exact ⟨b.map fun x => x.add k, by rw [Nat.add_sub_cancel_left]; rfl, fun _ ad e => by rw [e]; rfl, H1.out.same (drewN_same _ _), HG1.out.trans (grown_below (drewN_same _ _) _)⟩
end Go.Proofs.Ytcpnchjgklemgaa
namespace Go.Proofs.Ytcpnchjgklemgaa
open Go.ChangeShapes Go.WideShapes Go.ChangeAt Go.RowKit
set_option linter.unusedVariables false

theorem grown_set2 {w w1 : World} {row : Option Nat} {R : Nat} (h : w.grownBy w1 row) (hR : w.heap.size ≤ R) (u v : Value) : w.grownBy ((w1.setCell ⟨R, 0, none⟩ u).setCell ⟨R, 1, none⟩ v) row :=
  grown_on h ((set_grown w1 R 0 u).trans (set_grown _ R 1 v)) (fun r e => Or.inr (by cases e; exact hR))
theorem Cur.set2 {w : World} {g m d k R : Nat} {b : Option Addr} (h : Cur w g b m d k) (hR : g ≠ R) (u v : Value) : Cur ((w.setCell ⟨R, 0, none⟩ u).setCell ⟨R, 1, none⟩ v) g b m d k := by
  unfold Cur
  rw [Below.heap_setCell _ _ _ _ (by dsimp only; omega), Below.heap_setCell _ _ _ _ (by dsimp only; omega)]
  exact h
theorem addr_none (ad : Addr) : ad.add 0 = ad := by unfold Addr.add; simp
/-- The cells of b are the list y, whatever happens to the cursor in block g. -/
def Fix (w : World) (g : Nat) (b : Option Addr) (m : Nat) (y : List Int) : Prop := ∀ w', w.grownBy w' (some g) → Nums .i64 w' b m y
theorem Fix.same {w w' : World} {g m : Nat} {b : Option Addr} {y : List Int} (h : Fix w g b m y) (hb : Below w.heap.size w w') : Fix w' g b m y := fun w2 hg => h w2 ((grown_below hb _).trans hg)
theorem Fix.on {w w' : World} {g m : Nat} {b : Option Addr} {y : List Int} (h : Fix w g b m y) (hb : w.grownBy w' (some g)) : Fix w' g b m y := fun w2 hg => h w2 (hb.trans hg)
theorem Fix.len {w : World} {g m : Nat} {b : Option Addr} {y : List Int} (h : Fix w g b m y) : y.length = m := (h w (grown_below (Below.refl _ _) _)).len
/-- What a function leaves that finds no value, and one that finds one. -/
def Rdn (g : Nat) (w : World) (e : Ending) (w' : World) : Prop := e = .returned (.tuple #[.agg #[.int .i64 0, .slice none 0 0], .bool false]) ∧ w.grownBy w' (some g)
def Rdd (g : Nat) (b : Option Addr) (m d : Nat) (num : Int) (q : Nat) (it : List Int) (k' : Nat) (w : World) (e : Ending) (w' : World) : Prop :=
  ∃ p r, e = .returned (.tuple #[.agg #[.int .i64 num, .slice p q r], .bool true]) ∧ Fix w g p q it ∧ Cur w' g b m d k' ∧ w.grownBy w' (some g)

set_option maxHeartbeats 1000000 in
set_option maxRecDepth 100000 in
theorem next_no (g : Nat) (b : Option Addr) (m d : Nat) (w : World) (h : Cur w g b m d m) (hm : m ≤ 1000000000) :
    Calls Try.prog 96 #[.pointer (some ⟨g, 0, none⟩)] w (Told (.tuple #[.int .i64 0, .bool false]) w) := by
  have KT := Lib.hid (take_no g b m d m 1 w h (Nat.le_refl _) hm (by omega))
  clear h
  go_enter Try.func96, Try.ntmps96
  go_wp2_with fail
  refine KT.out.mono ?_
  rintro e w1 ⟨rfl, hb⟩
  have HB := Lib.hid hb
  clear hb
  go_wp2_with fail
  go_ret2
  exact ⟨rfl, HB.out⟩
set_option maxHeartbeats 1000000 in
set_option maxRecDepth 100000 in
theorem next_yes (g : Nat) (b : Option Addr) (m d k : Nat) (y : List Int) (z : Int) (w : World) (h : Cur w g b m d k) (hv : Fix w g b m y) (hd : m ≤ d ∧ (d : Int) ≤ 9223372036854775807) (hm : m ≤ 1000000000) (hz : y[k]? = some z) :
    Calls Try.prog 96 #[.pointer (some ⟨g, 0, none⟩)] w (fun e w' => e = .returned (.tuple #[.int .i64 z, .bool true]) ∧ Cur w' g b m d (k + 1) ∧ w.grownBy w' (some g)) := by
  have hk : k + 1 ≤ m := by have := lt_of_some hz; have := hv.len; omega
  have KT := Lib.hid (take_yes g b m d k 1 w h hd hk hm)
  rw [show ((1 : Nat) : Int) = 1 from rfl] at KT
  have HV := Lib.hid hv
  have HZ := Lib.hid hz
  clear h hv hz
  go_enter Try.func96, Try.ntmps96
  go_wp2_with fail
  refine KT.out.mono ?_
  rintro e w1 ⟨p, rfl, hp, hc, hg⟩
  obtain ⟨ad, u, e, hu, hcell⟩ := ((HV.out w1 hg).sub k 1 hk (b := p) hp).at_ (j := 0) (by omega)
  have : u = z := by
    have h2 := HZ.out
    simp only [List.getElem?_take, List.getElem?_drop] at hu
    simp at hu
    rw [h2] at hu
    cases hu
    rfl
  subst this
  subst e
  have hcell2 : w1.cell? ad = some (.int .i64 u) := by rw [addr_none] at hcell; exact hcell
  have HC := Lib.hid hc
  have HG := Lib.hid hg
  clear hp hc hg hu
  go_wp2_with fail
  go_ret2
  exact ⟨rfl, HC.out, HG.out⟩

set_option maxHeartbeats 1000000 in
set_option maxRecDepth 100000 in
theorem readNum_no (g : Nat) (b : Option Addr) (m d : Nat) (w : World) (h : Cur w g b m d m) (hm : m ≤ 1000000000) :
    Calls Try.prog 135 #[.pointer (some ⟨g, 0, none⟩)] w (Rdn g w) := by
  have hgl := h.lt
  have HB : Hid (Below w.heap.size w (w.alloc (.cells #[.int .i64 0, .slice none 0 0] 74))) := Lib.hid (alloc_same _ _)
  have KN := Lib.hid (next_no g b m d _ (h.same HB.out) hm)
  have hs : w.heap.size < (w.alloc (.cells #[.int .i64 0, .slice none 0 0] 74)).heap.size := by simp
  have hM : (w.alloc (.cells #[.int .i64 0, .slice none 0 0] 74)).heap[w.heap.size]? = some (.cells #[.int .i64 0, .slice none 0 0] 74 (0, 0)) := heap_alloc_new w _
  clear h
  unfold Rdn
  go_enter Try.func135, Try.ntmps135
  go_wp2_with fail
  generalize (w.alloc (.cells #[.int .i64 0, .slice none 0 0] 74)) = w0 at *
  refine KN.out.mono ?_
  rintro e w1 ⟨rfl, hb⟩
  have hM1 : w1.heap[w.heap.size]? = some (.cells #[.int .i64 0, .slice none 0 0] 74 (0, 0)) := by rw [hb.block _ hs]; exact hM
  have HG := Lib.hid (grown_below (HB.out.trans (hb.mono HB.out.size)) (some g))
  obtain ⟨m0, m1, g0, g1⟩ := two_cells hM1
  obtain ⟨z0, z1, hZ⟩ := two_put hM1 (.int .i64 0) (.slice none 0 0)
  clear hM hM1 hb hZ
  go_wp2_with fail
  (try simp only [Exit.inBlock, Exit.then])
  refine bodyPost_ret (by simp [results, Try.results135, go_sem, z0, z1]; try rfl) rfl ?_
  exact ⟨rfl, grown_set2 HG.out (Nat.le_refl _) _ _⟩
set_option maxHeartbeats 1000000 in
set_option maxRecDepth 100000 in
theorem readNum_yes (g : Nat) (b : Option Addr) (m d k : Nat) (y : List Int) (z : Int) (w : World) (h : Cur w g b m d k) (hv : Fix w g b m y) (hd : m ≤ d ∧ (d : Int) ≤ 9223372036854775807) (hm : m ≤ 1000000000) (hz : y[k]? = some z) :
    Calls Try.prog 135 #[.pointer (some ⟨g, 0, none⟩)] w (Rdd g b m d z 0 [] (k + 1) w) := by
  have hgl := h.lt
  have HB : Hid (Below w.heap.size w (w.alloc (.cells #[.int .i64 0, .slice none 0 0] 74))) := Lib.hid (alloc_same _ _)
  have KN := Lib.hid (next_yes g b m d k y z _ (h.same HB.out) (hv.same HB.out) hd hm hz)
  have hs : w.heap.size < (w.alloc (.cells #[.int .i64 0, .slice none 0 0] 74)).heap.size := by simp
  have hM : (w.alloc (.cells #[.int .i64 0, .slice none 0 0] 74)).heap[w.heap.size]? = some (.cells #[.int .i64 0, .slice none 0 0] 74 (0, 0)) := heap_alloc_new w _
  clear h hv hz
  unfold Rdd
  go_enter Try.func135, Try.ntmps135
  go_wp2_with fail
  generalize (w.alloc (.cells #[.int .i64 0, .slice none 0 0] 74)) = w0 at *
  refine KN.out.mono ?_
  rintro e w1 ⟨rfl, hc, hg⟩
  have hM1 : w1.heap[w.heap.size]? = some (.cells #[.int .i64 0, .slice none 0 0] 74 (0, 0)) := by rw [hg.block _ hs (by simp; omega)]; exact hM
  have HG := Lib.hid ((grown_below HB.out (some g)).trans hg)
  have HC := Lib.hid hc
  obtain ⟨m0, m1, g0, g1⟩ := two_cells hM1
  obtain ⟨z0, z1, hZ⟩ := two_put hM1 (.int .i64 z) (.slice none 0 0)
  clear hM hM1 hg hc hZ
  go_wp2_with fail
  (try simp only [Exit.inBlock, Exit.then])
  refine bodyPost_ret (by simp [results, Try.results135, go_sem, z0, z1]; try rfl) rfl ?_
  exact ⟨none, 0, rfl, fun _ _ => Nums.none, HC.out.set2 (by omega) _ _, grown_set2 HG.out (Nat.le_refl _) _ _⟩

set_option maxHeartbeats 1000000 in
set_option maxRecDepth 100000 in
theorem readItems_no (g : Nat) (b : Option Addr) (m d : Nat) (w : World) (h : Cur w g b m d m) (hm : m ≤ 1000000000) :
    Calls Try.prog 53 #[.pointer (some ⟨g, 0, none⟩)] w (Rdn g w) := by
  have hgl := h.lt
  have HB : Hid (Below w.heap.size w (w.alloc (.cells #[.int .i64 0, .slice none 0 0] 74))) := Lib.hid (alloc_same _ _)
  have KN := Lib.hid (next_no g b m d _ (h.same HB.out) hm)
  have hs : w.heap.size < (w.alloc (.cells #[.int .i64 0, .slice none 0 0] 74)).heap.size := by simp
  have hM : (w.alloc (.cells #[.int .i64 0, .slice none 0 0] 74)).heap[w.heap.size]? = some (.cells #[.int .i64 0, .slice none 0 0] 74 (0, 0)) := heap_alloc_new w _
  clear h
  unfold Rdn
  go_enter Try.func53, Try.ntmps53
  go_wp2_with fail
  generalize (w.alloc (.cells #[.int .i64 0, .slice none 0 0] 74)) = w0 at *
  refine KN.out.mono ?_
  rintro e w1 ⟨rfl, hb⟩
  have hM1 : w1.heap[w.heap.size]? = some (.cells #[.int .i64 0, .slice none 0 0] 74 (0, 0)) := by rw [hb.block _ hs]; exact hM
  have HG := Lib.hid (grown_below (HB.out.trans (hb.mono HB.out.size)) (some g))
  obtain ⟨m0, m1, g0, g1⟩ := two_cells hM1
  obtain ⟨z0, z1, hZ⟩ := two_put hM1 (.int .i64 0) (.slice none 0 0)
  clear hM hM1 hb hZ
  go_wp2_with fail
  (try simp only [Exit.inBlock, Exit.then])
  refine bodyPost_ret (by simp [results, Try.results53, go_sem, z0, z1]; try rfl) rfl ?_
  exact ⟨rfl, grown_set2 HG.out (Nat.le_refl _) _ _⟩
set_option maxHeartbeats 1000000 in
set_option maxRecDepth 100000 in
theorem readItems_out (g : Nat) (b : Option Addr) (m d k : Nat) (y : List Int) (z : Int) (w : World) (h : Cur w g b m d k) (hv : Fix w g b m y) (hd : m ≤ d ∧ (d : Int) ≤ 9223372036854775807) (hm : m ≤ 1000000000) (hz : y[k]? = some z) (ho : ¬ (0 ≤ z ∧ z ≤ (m : Int) - k - 1)) :
    Calls Try.prog 53 #[.pointer (some ⟨g, 0, none⟩)] w (Rdn g w) := by
  have hgl := h.lt
  have hk : k + 1 ≤ m := by have := lt_of_some hz; have := hv.len; omega
  have HB : Hid (Below w.heap.size w (w.alloc (.cells #[.int .i64 0, .slice none 0 0] 74))) := Lib.hid (alloc_same _ _)
  have KN := Lib.hid (next_yes g b m d k y z _ (h.same HB.out) (hv.same HB.out) hd hm hz)
  have KT := Lib.hid (fun (w0 : World) (h0 : Cur w0 g b m d (k + 1)) => take_no g b m d (k + 1) z w0 h0 hk hm (by omega))
  have hs : w.heap.size < (w.alloc (.cells #[.int .i64 0, .slice none 0 0] 74)).heap.size := by simp
  have hM : (w.alloc (.cells #[.int .i64 0, .slice none 0 0] 74)).heap[w.heap.size]? = some (.cells #[.int .i64 0, .slice none 0 0] 74 (0, 0)) := heap_alloc_new w _
  clear h hv hz ho
  unfold Rdn
  go_enter Try.func53, Try.ntmps53
  go_wp2_with fail
  generalize (w.alloc (.cells #[.int .i64 0, .slice none 0 0] 74)) = w0 at *
  refine KN.out.mono ?_
  rintro e w1 ⟨rfl, hc, hg⟩
  have hM1 : w1.heap[w.heap.size]? = some (.cells #[.int .i64 0, .slice none 0 0] 74 (0, 0)) := by rw [hg.block _ hs (by simp; omega)]; exact hM
  have hs1 := Nat.lt_of_lt_of_le hs hg.size
  have HG := Lib.hid ((grown_below HB.out (some g)).trans hg)
  have HC := Lib.hid hc
  clear hM hg hc
  go_wp2_with fail
  refine (KT.out w1 HC.out).mono ?_
  rintro e w2 ⟨rfl, hb⟩
  have hM2 : w2.heap[w.heap.size]? = some (.cells #[.int .i64 0, .slice none 0 0] 74 (0, 0)) := by rw [hb.block _ hs1]; exact hM1
  have HG2 := Lib.hid (HG.out.trans (grown_below hb (some g)))
  obtain ⟨m0, m1, g0, g1⟩ := two_cells hM2
  obtain ⟨z0, z1, hZ⟩ := two_put hM2 (.int .i64 0) (.slice none 0 0)
  clear hM1 hM2 hb hZ
  go_wp2_with fail
  (try simp only [Exit.inBlock, Exit.then])
  refine bodyPost_ret (by simp [results, Try.results53, go_sem, z0, z1]; try rfl) rfl ?_
  exact ⟨rfl, grown_set2 HG2.out (Nat.le_refl _) _ _⟩
set_option maxHeartbeats 1000000 in
set_option maxRecDepth 100000 in
theorem readItems_yes (g : Nat) (b : Option Addr) (m d k q : Nat) (y : List Int) (w : World) (h : Cur w g b m d k) (hv : Fix w g b m y) (hd : m ≤ d ∧ (d : Int) ≤ 9223372036854775807) (hm : m ≤ 1000000000) (hz : y[k]? = some (q : Int)) (ho : k + 1 + q ≤ m) :
    Calls Try.prog 53 #[.pointer (some ⟨g, 0, none⟩)] w (Rdd g b m d 0 q ((y.drop (k + 1)).take q) (k + 1 + q) w) := by
  have hgl := h.lt
  have hk : k + 1 ≤ m := by omega
  have HV := Lib.hid hv
  have HB : Hid (Below w.heap.size w (w.alloc (.cells #[.int .i64 0, .slice none 0 0] 74))) := Lib.hid (alloc_same _ _)
  have KN := Lib.hid (next_yes g b m d k y q _ (h.same HB.out) (hv.same HB.out) hd hm hz)
  have KT := Lib.hid (fun (w0 : World) (h0 : Cur w0 g b m d (k + 1)) => take_yes g b m d (k + 1) q w0 h0 hd ho hm)
  have hs : w.heap.size < (w.alloc (.cells #[.int .i64 0, .slice none 0 0] 74)).heap.size := by simp
  have hM : (w.alloc (.cells #[.int .i64 0, .slice none 0 0] 74)).heap[w.heap.size]? = some (.cells #[.int .i64 0, .slice none 0 0] 74 (0, 0)) := heap_alloc_new w _
  clear h hv hz
  unfold Rdd
  go_enter Try.func53, Try.ntmps53
  go_wp2_with fail
  generalize (w.alloc (.cells #[.int .i64 0, .slice none 0 0] 74)) = w0 at *
  refine KN.out.mono ?_
  rintro e w1 ⟨rfl, hc, hg⟩
  have hM1 : w1.heap[w.heap.size]? = some (.cells #[.int .i64 0, .slice none 0 0] 74 (0, 0)) := by rw [hg.block _ hs (by simp; omega)]; exact hM
  have hs1 := Nat.lt_of_lt_of_le hs hg.size
  have HG := Lib.hid ((grown_below HB.out (some g)).trans hg)
  have HC := Lib.hid hc
  clear hM hg hc
  go_wp2_with fail
  refine (KT.out w1 HC.out).mono ?_
  rintro e w2 ⟨p, rfl, hp, hc, hg⟩
  have hM2 : w2.heap[w.heap.size]? = some (.cells #[.int .i64 0, .slice none 0 0] 74 (0, 0)) := by rw [hg.block _ hs1 (by simp; omega)]; exact hM1
  have HG2 := Lib.hid (HG.out.trans hg)
  have HC2 := Lib.hid hc
  have HP := Lib.hid hp
  obtain ⟨m0, m1, g0, g1⟩ := two_cells hM2
  obtain ⟨z0, z1, hZ⟩ := two_put hM2 (.int .i64 0) (.slice p q q)
  clear hM1 hM2 hg hc hp hZ
  go_wp2_with fail
  (try simp only [Exit.inBlock, Exit.then])
  refine bodyPost_ret (by simp [results, Try.results53, go_sem, z0, z1]; try rfl) rfl ?_
  exact ⟨p, q, rfl, fun w' hg => (HV.out w' hg).sub (k + 1) q ho HP.out, HC2.out.set2 (by omega) _ _, grown_set2 HG2.out (Nat.le_refl _) _ _⟩
end Go.Proofs.Ytcpnchjgklemgaa
namespace Go.Proofs.Ytcpnchjgklemgaa
open Go.ChangeShapes Go.WideShapes Go.ChangeAt Go.RowKit
set_option linter.unusedVariables false

theorem infoValueS : (Try.prog.info? 74).map (fun i => (i.zero, i.size, i.bytes)) = some (some (.agg #[.int .i64 0, .slice none 0 0]), 2, 32) := by kernel_rfl

/-- What is left of a bound. -/
def leftOf (left : Int) (n : Nat) : Int := if (n : Int) ≤ left then left - n else -1
set_option maxRecDepth 100000 in
theorem szIntS_any (a : Option Addr) (n c : Nat) (left : Int) (w : World) (hn : (n : Int) ≤ 9223372036854775807) (h0 : 0 ≤ left) (hl : left ≤ 1048576) :
    Calls Try.prog 77 #[.slice a n c, .int .i64 left] w fun e w' => e = .returned (.int .i64 (leftOf left n)) ∧ w = w' := by
  by_cases h : (n : Int) ≤ left
  · have e : leftOf left n = left - n := if_pos h
    rw [e]
    go_enter Try.func77, Try.ntmps77
    go_wp2
    go_ret
    exact ⟨rfl, rfl⟩
  · have e : leftOf left n = -1 := if_neg h
    rw [e]
    go_enter Try.func77, Try.ntmps77
    go_wp2
    go_ret
    exact ⟨rfl, rfl⟩
theorem put_step {l : List Vl} {j n : Nat} {x : Vl} (hj : l[j]? = some x) (hn : l.length = n) : (l.take j ++ List.replicate (n - j) (⟨0, []⟩ : Vl)).set j x = l.take (j + 1) ++ List.replicate (n - (j + 1)) (⟨0, []⟩ : Vl) := by
  have hlt : j < l.length := lt_of_some hj
  have hl : (l.take j).length = j := by rw [List.length_take]; omega
  rw [List.set_append_right _ _ (by omega), hl, Nat.sub_self, show n - j = (n - (j + 1)) + 1 by omega, List.replicate_succ, List.set_cons_zero, List.take_add_one, hj]
  simp
end Go.Proofs.Ytcpnchjgklemgaa
namespace Go.Proofs.Ytcpnchjgklemgaa
open Go.ChangeShapes Go.WideShapes Go.ChangeAt Go.RowKit
set_option linter.unusedVariables false

/-- The message that b begins with, and how many bytes it has; nothing and -1 if there is none. -/
noncomputable def rpV (l : List Fd) (y : List Int) : List Vl := (rdP l y).elim [] (fun s => s.1)
noncomputable def rpK (l : List Fd) (y : List Int) : Int := (rdP l y).elim (-1) (fun s => (s.2 : Int))
theorem rp_none {l : List Fd} {y : List Int} (h : rdP l y = none) : rpV l y = [] ∧ rpK l y = -1 := by unfold rpV rpK; rw [h]; exact ⟨rfl, rfl⟩
theorem rp_some {l : List Fd} {y : List Int} {v : List Vl} {k : Nat} (h : rdP l y = some (v, k)) : rpV l y = v ∧ rpK l y = k := by unfold rpV rpK; rw [h]; exact ⟨rfl, rfl⟩
/-- Whether all bytes are those of a message, and of which. -/
noncomputable def dmOk (l : List Fd) (y : List Int) : Bool := decide (rpK l y = (y.length : Int))
noncomputable def dmV (l : List Fd) (y : List Int) : List Vl := if dmOk l y = true then rpV l y else []
theorem rpV_few (l : List Fd) (y : List Int) : (rpV l y).length ≤ 6 ∧ itemsOf (rpV l y) ≤ 30 := by
  cases h : rdP l y with
  | none => rw [(rp_none h).1]; simp [itemsOf]
  | some s =>
    obtain ⟨v, k⟩ := s
    rw [(rp_some h).1]
    obtain ⟨h1, h2, h3⟩ := fitsFmt_parts (rdP_form h).1
    have h4 := isFmt_iff.1 h1
    have h5 := h4.1
    have hs : ∀ j, j ≤ v.length → itemsOf (v.take j) ≤ 5 * j := by
      intro j
      induction j with
      | zero => intro _; simp [itemsOf]
      | succ j ih =>
        intro hj
        obtain ⟨x, hx⟩ : ∃ x, l[j]? = some x := ⟨_, List.getElem?_eq_getElem (by omega)⟩
        obtain ⟨z, hz⟩ : ∃ z, v[j]? = some z := ⟨_, List.getElem?_eq_getElem (by omega)⟩
        have h6 := h3 j x z (by omega) hx hz
        have h7 : z.items.length ≤ 5 := by
          cases ht : isThere l v j with
          | false =>
            rw [fitsAt_not ht] at h6
            unfold emptyV at h6
            rw [Bool.and_eq_true, decide_eq_true_eq, decide_eq_true_eq] at h6
            rw [h6.2]
            simp
          | true =>
            rw [fitsAt_there ht] at h6
            have h8 := h4.2 j x (by omega) hx
            unfold fieldOk at h8
            rw [Bool.and_eq_true, decide_eq_true_eq] at h8
            have h9 := h8.1
            unfold mostOf at h9
            unfold fitsField fitIts at h6
            split at h6
            · rw [Bool.and_eq_true, decide_eq_true_eq, decide_eq_true_eq] at h6
              omega
            · rename_i hk
              rw [if_neg hk] at h9
              have h10 : x.max ≤ 5 := by
                revert h9
                repeat' split
                all_goals omega
              split at h6
              · rw [Bool.and_eq_true, Bool.and_eq_true, decide_eq_true_eq, decide_eq_true_eq] at h6
                omega
              · split at h6
                · rw [Bool.and_eq_true, Bool.and_eq_true, decide_eq_true_eq, decide_eq_true_eq] at h6
                  omega
                · cases h6
        rw [itemsOf_at hz]
        have := ih (by omega)
        omega
    have h6 := hs v.length (Nat.le_refl _)
    rw [List.take_of_length_le (Nat.le_refl _)] at h6
    omega
theorem dmV_few (l : List Fd) (y : List Int) : (dmV l y).length ≤ 6 ∧ itemsOf (dmV l y) ≤ 30 := by
  unfold dmV
  split
  · exact rpV_few l y
  · simp [itemsOf]
/-- What a function leaves that reads the beginning of some bytes, and one that reads all of them. -/
def RpTold (tO tI : TypeId) (l : List Fd) (y : List Int) (w : World) (e : Ending) (w' : World) : Prop :=
  ∃ a n c, e = .returned (.tuple #[.slice a n c, .int .i64 (rpK l y)]) ∧ OwnV tO tI w' w.heap.size a n c (rpV l y) ∧ Below w.heap.size w w'
def DmTold (tO tI : TypeId) (l : List Fd) (y : List Int) (w : World) (e : Ending) (w' : World) : Prop :=
  ∃ a n c, e = .returned (.tuple #[.slice a n c, .bool (dmOk l y)]) ∧ OwnV tO tI w' w.heap.size a n c (dmV l y) ∧ Below w.heap.size w w'

end Go.Proofs.Ytcpnchjgklemgaa
