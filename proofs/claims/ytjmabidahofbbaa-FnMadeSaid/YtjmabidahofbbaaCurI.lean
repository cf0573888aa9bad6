/- The cursor over a list of bytes, by the program: what is taken, and what is left. -/
import Derived.Test.YtjmabidahofbbaaTabI
import Derived.Test.YtjmabidahofbbaaReadM
namespace Go.Proofs.Ytjmabidahofbbaa
open Go.ChangeShapes Go.WideShapes Go.ChangeAt Go.RowKit
set_option linter.unusedVariables false

/-- A cursor in block g over m numbers from b on, k of them read. -/
def Cur (w : World) (g : Nat) (b : Option Addr) (m d k : Nat) : Prop := w.heap[g]? = some (.cells #[.slice b m d, .int .i64 k] 123 (0, 0))
theorem Cur.lt {w : World} {g m d k : Nat} {b : Option Addr} (h : Cur w g b m d k) : g < w.heap.size := (Array.getElem?_eq_some_iff.1 h).1
theorem Cur.same {w w' : World} {g m d k : Nat} {b : Option Addr} (h : Cur w g b m d k) (hb : Below w.heap.size w w') : Cur w' g b m d k := (hb.block _ h.lt).trans h

set_option maxHeartbeats 1000000 in
set_option maxRecDepth 100000 in
theorem take_no (g : Nat) (b : Option Addr) (m d k : Nat) (z : Int) (w : World) (h : Cur w g b m d k) (hk : k ≤ m) (hm : m ≤ 1000000000) (hz : ¬ (0 ≤ z ∧ z ≤ (m : Int) - k)) :
    Calls Try.prog 112 #[.pointer (some ⟨g, 0, none⟩), .int .i64 z] w (Told (.tuple #[.slice none 0 0, .bool false]) w) := by
  obtain ⟨c0, c1, f0, f1⟩ := two_cells h
  have e1 : decide (0 ≤ z ∧ z ≤ (m : Int) - k) = false := decide_eq_false hz
  have hkI : (k : Int) ≤ (m : Int) := by omega
  have hmI : (m : Int) ≤ 1000000000 := by omega
  clear h hz
  go_enter Try.func112, Try.ntmps112
  go_wp2_with fail
  go_quiet ((go_at_call 55; exact Calls.quiet_of_same (inR_t e1 _)))
  go_wp2_with fail
  go_ret2
  exact ⟨rfl, by first | exact drewN_same _ _ | exact (Below.refl _ _).drew | exact Below.refl _ _⟩
set_option maxHeartbeats 1000000 in
set_option maxRecDepth 100000 in
theorem take_yes (g : Nat) (b : Option Addr) (m d k q : Nat) (w : World) (h : Cur w g b m d k) (hd : m ≤ d ∧ (d : Int) ≤ 9223372036854775807) (hk : k + q ≤ m) (hm : m ≤ 1000000000) :
    Calls Try.prog 112 #[.pointer (some ⟨g, 0, none⟩), .int .i64 q] w (fun e w' => ∃ p, e = .returned (.tuple #[.slice p q q, .bool true]) ∧ (0 < q → ∀ ad, b = some ad → p = some (ad.add k)) ∧ Cur w' g b m d (k + q) ∧ w.grownBy w' (some g)) := by
  obtain ⟨c0, c1, f0, f1⟩ := two_cells h
  have HC := Lib.hid h
  have e1 : decide ((0 : Int) ≤ (q : Int) ∧ (q : Int) ≤ (m : Int) - k) = true := decide_eq_true (by omega)
  have hkI : (k : Int) ≤ (m : Int) := by omega
  have hmI : (m : Int) ≤ 1000000000 := by omega
  have hqI : (k : Int) + (q : Int) ≤ (m : Int) := by omega
  clear h
  go_enter Try.func112, Try.ntmps112
  go_wp2_with fail
  go_quiet ((go_at_call 55; exact Calls.quiet_of_same (inR_t e1 _)))
  go_wp2_with fail
  have h1 : ((w.drewN nq).setCell ⟨g, 1, none⟩ (.int .i64 ((k : Int) + (q : Int)))).heap[g]? = some (.cells #[.slice b m d, .int .i64 ((k : Int) + (q : Int))] 123 (0, 0)) := heap_setCell_same (w.drewN nq) g 1 _ _ _ (HC.out.same (drewN_same w nq))
  have hg1 : w.grownBy ((w.drewN nq).setCell ⟨g, 1, none⟩ (.int .i64 ((k : Int) + (q : Int)))) (some g) := (grown_below (drewN_same w nq) _).trans (set_grown _ g 1 _)
  clear c0 c1 f0 f1
  generalize (w.drewN nq).setCell ⟨g, 1, none⟩ (.int .i64 ((k : Int) + (q : Int))) = w2 at *
  obtain ⟨c0, c1, _, _⟩ := two_cells h1
  have H1 : Hid (Cur w2 g b m d (k + q)) := Lib.hid (by unfold Cur; rw [h1]; simp)
  have HG1 := Lib.hid hg1
  clear h1 hg1
  by_cases h0 : q = 0
  · subst h0
    go_quiet (fail)
    go_wp2_with fail
    go_ret2
    exact ⟨_, rfl, fun h => absurd h (by omega), H1.out.same (drewN_same _ _), HG1.out.trans (grown_below (drewN_same _ _) _)⟩
  · have h3 : 0 < q := by omega
    clear h0
    go_quiet (fail)
    go_wp2_with fail
    go_ret2
    exact ⟨b.map fun x => x.add k, by rw [Nat.add_sub_cancel_left]; rfl, fun _ ad e => by rw [e]; rfl, H1.out.same (drewN_same _ _), HG1.out.trans (grown_below (drewN_same _ _) _)⟩
end Go.Proofs.Ytjmabidahofbbaa
