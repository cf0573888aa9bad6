/- The names of the ways in which formats differ: by the program and by the model. How many messages are lost: by the program. The message that is made of a format and a seed, and its bytes, by the model. How many messages are lost: by the model. Plain mathematics of varints: groups of seven bits, least significant first; what is written is read, and what is read is what is written. No condition beyond those written in each statement. -/
import Derived.Test.YtjkjnhkamieljaaG1
import Derived.Laws.Rows
import Derived.Handy
import Derived.Test.YtjkjnhkamieljaaG8
import Derived.Test.YtjkjnhkamieljaaG10
import Derived.Test.YtjkjnhkamieljaaG7
import Derived.Test.YtjkjnhkamieljaaG4
import Derived.Test.YtjkjnhkamieljaaG5
import Derived.Test.YtjkjnhkamieljaaG3
import Derived.Deep.RegionHeld3
import Derived.IntWalk
import Derived.Below
namespace Go.Proofs.Ytjkjnhkamieljaa
open Go.ChangeShapes Go.WideShapes Go.ChangeAt Go.RowKit
set_option linter.unusedVariables false

theorem inRange_told (n l h : Int) (w : World) :
    Calls Try.prog 33 #[.int .i64 n, .int .i64 l, .int .i64 h] w (Told (.bool (decide (l ≤ n) && decide (n ≤ h))) w) := by
  by_cases h1 : l ≤ n <;> by_cases h2 : n ≤ h <;> (go_enter Try.func33, Try.ntmps33; go_wp2; go_ret; exact ⟨by simp [h1, h2], Below.refl _ _⟩)
theorem l1In_told (n l h : Int) (w : World) :
    Calls Try.prog 50 #[.int .i64 n, .int .i64 l, .int .i64 h] w (Told (.bool (decide (l ≤ n) && decide (n ≤ h))) w) := by
  by_cases h1 : l ≤ n <;> by_cases h2 : n ≤ h <;> (go_enter Try.func50, Try.ntmps50; go_wp2; go_ret; exact ⟨by simp [h1, h2], Below.refl _ _⟩)
def brName (k : Int) : List UInt8 := if k = 0 then [110, 111, 110, 101] else if k = 1 then [119, 105, 100, 101, 114] else if k = 2 then [116, 97, 105, 108] else if k = 3 then [110, 97, 114, 114, 111, 119, 101, 114] else if k = 4 then [111, 116, 104, 101, 114] else []
def namesRow : Array Value := #[.string ⟨#[110, 111, 110, 101]⟩, .string ⟨#[119, 105, 100, 101, 114]⟩, .string ⟨#[116, 97, 105, 108]⟩, .string ⟨#[110, 97, 114, 114, 111, 119, 101, 114]⟩, .string ⟨#[111, 116, 104, 101, 114]⟩]
theorem names_cell (w : World) (t : TypeId) (v : Value) (i : Nat) (h : namesRow[i]? = some v) : (w.alloc (.cells namesRow t)).cell? ⟨w.heap.size, i, none⟩ = some v := by
  simp only [World.cell?, heap_alloc_new]
  exact h
theorem brName_some {k : Int} (h0 : 0 ≤ k) (h4 : k ≤ 4) : brName k ≠ [] := by
  rcases (by omega : k = 0 ∨ k = 1 ∨ k = 2 ∨ k = 3 ∨ k = 4) with rfl | rfl | rfl | rfl | rfl <;> decide
set_option maxRecDepth 100000 in
theorem breakName_any (k : Int) (w : World) : Calls Try.prog 12 #[.int .i64 k] w (Told (.string ⟨(brName k).toArray⟩) w) := by
  by_cases hk : 0 ≤ k ∧ k ≤ 4
  · obtain ⟨h0, h4⟩ := hk
    rcases (by omega : k = 0 ∨ k = 1 ∨ k = 2 ∨ k = 3 ∨ k = 4) with rfl | rfl | rfl | rfl | rfl
    · have K := Lib.hid (fun (w0 : World) => inRange_told 0 0 4 w0)
      clear h0 h4
      go_enter Try.func12, Try.ntmps12
      go_wp2_with fail
      refine (K.out _).mono ?_
      rintro e w1 ⟨rfl, hb1⟩
      have HB1 := Lib.hid hb1
      have hc : w1.cell? ⟨w.heap.size, 0, none⟩ = some (.string ⟨#[110, 111, 110, 101]⟩) := cell_stay (names_cell w 47 (.string ⟨#[110, 111, 110, 101]⟩) 0 rfl) hb1
      clear hb1
      go_wp2
      go_ret
      exact ⟨rfl, (alloc_same w _).trans (HB1.out.mono (by simp))⟩
    · have K := Lib.hid (fun (w0 : World) => inRange_told 1 0 4 w0)
      clear h0 h4
      go_enter Try.func12, Try.ntmps12
      go_wp2_with fail
      refine (K.out _).mono ?_
      rintro e w1 ⟨rfl, hb1⟩
      have HB1 := Lib.hid hb1
      have hc : w1.cell? ⟨w.heap.size, 1, none⟩ = some (.string ⟨#[119, 105, 100, 101, 114]⟩) := cell_stay (names_cell w 47 (.string ⟨#[119, 105, 100, 101, 114]⟩) 1 rfl) hb1
      clear hb1
      go_wp2
      go_ret
      exact ⟨rfl, (alloc_same w _).trans (HB1.out.mono (by simp))⟩
    · have K := Lib.hid (fun (w0 : World) => inRange_told 2 0 4 w0)
      clear h0 h4
      go_enter Try.func12, Try.ntmps12
      go_wp2_with fail
      refine (K.out _).mono ?_
      rintro e w1 ⟨rfl, hb1⟩
      have HB1 := Lib.hid hb1
      have hc : w1.cell? ⟨w.heap.size, 2, none⟩ = some (.string ⟨#[116, 97, 105, 108]⟩) := cell_stay (names_cell w 47 (.string ⟨#[116, 97, 105, 108]⟩) 2 rfl) hb1
      clear hb1
      go_wp2
      go_ret
      exact ⟨rfl, (alloc_same w _).trans (HB1.out.mono (by simp))⟩
    · have K := Lib.hid (fun (w0 : World) => inRange_told 3 0 4 w0)
      clear h0 h4
      go_enter Try.func12, Try.ntmps12
      go_wp2_with fail
      refine (K.out _).mono ?_
      rintro e w1 ⟨rfl, hb1⟩
      have HB1 := Lib.hid hb1
      have hc : w1.cell? ⟨w.heap.size, 3, none⟩ = some (.string ⟨#[110, 97, 114, 114, 111, 119, 101, 114]⟩) := cell_stay (names_cell w 47 (.string ⟨#[110, 97, 114, 114, 111, 119, 101, 114]⟩) 3 rfl) hb1
      clear hb1
      go_wp2
      go_ret
      exact ⟨rfl, (alloc_same w _).trans (HB1.out.mono (by simp))⟩
    · have K := Lib.hid (fun (w0 : World) => inRange_told 4 0 4 w0)
      clear h0 h4
      go_enter Try.func12, Try.ntmps12
      go_wp2_with fail
      refine (K.out _).mono ?_
      rintro e w1 ⟨rfl, hb1⟩
      have HB1 := Lib.hid hb1
      have hc : w1.cell? ⟨w.heap.size, 4, none⟩ = some (.string ⟨#[111, 116, 104, 101, 114]⟩) := cell_stay (names_cell w 47 (.string ⟨#[111, 116, 104, 101, 114]⟩) 4 rfl) hb1
      clear hb1
      go_wp2
      go_ret
      exact ⟨rfl, (alloc_same w _).trans (HB1.out.mono (by simp))⟩
  · have hq : (decide ((0 : Int) ≤ k) && decide (k ≤ 4)) = false := by simp; omega
    have en : brName k = [] := by
      unfold brName
      rw [if_neg (by omega), if_neg (by omega), if_neg (by omega), if_neg (by omega), if_neg (by omega)]
    have K := Lib.hid (fun (w0 : World) => inRange_told k 0 4 w0)
    rw [hq] at K
    rw [en]
    clear hq hk en
    go_enter Try.func12, Try.ntmps12
    go_wp2_with fail
    refine (K.out _).mono ?_
    rintro e w1 ⟨rfl, hb1⟩
    have HB1 := Lib.hid hb1
    clear hb1
    go_wp2
    go_ret
    exact ⟨rfl, (alloc_same w _).trans (HB1.out.mono (by simp))⟩
set_option maxRecDepth 100000 in
theorem specBreakName_any (k : Int) (w : World) : Calls Try.prog 27 #[.int .i64 k] w (Told (.string ⟨(brName k).toArray⟩) w) := by
  by_cases hk : 0 ≤ k ∧ k ≤ 4
  · obtain ⟨h0, h4⟩ := hk
    rcases (by omega : k = 0 ∨ k = 1 ∨ k = 2 ∨ k = 3 ∨ k = 4) with rfl | rfl | rfl | rfl | rfl
    · have K := Lib.hid (fun (w0 : World) => l1In_told 0 0 4 w0)
      clear h0 h4
      go_enter Try.func27, Try.ntmps27
      go_wp2_with fail
      refine (K.out _).mono ?_
      rintro e w1 ⟨rfl, hb1⟩
      have HB1 := Lib.hid hb1
      clear hb1
      go_wp2
      go_ret
      exact ⟨rfl, HB1.out.trans ((alloc_same w1 _).mono HB1.out.size)⟩
    · have K := Lib.hid (fun (w0 : World) => l1In_told 1 0 4 w0)
      clear h0 h4
      go_enter Try.func27, Try.ntmps27
      go_wp2_with fail
      refine (K.out _).mono ?_
      rintro e w1 ⟨rfl, hb1⟩
      have HB1 := Lib.hid hb1
      clear hb1
      go_wp2
      go_ret
      exact ⟨rfl, HB1.out.trans ((alloc_same w1 _).mono HB1.out.size)⟩
    · have K := Lib.hid (fun (w0 : World) => l1In_told 2 0 4 w0)
      clear h0 h4
      go_enter Try.func27, Try.ntmps27
      go_wp2_with fail
      refine (K.out _).mono ?_
      rintro e w1 ⟨rfl, hb1⟩
      have HB1 := Lib.hid hb1
      clear hb1
      go_wp2
      go_ret
      exact ⟨rfl, HB1.out.trans ((alloc_same w1 _).mono HB1.out.size)⟩
    · have K := Lib.hid (fun (w0 : World) => l1In_told 3 0 4 w0)
      clear h0 h4
      go_enter Try.func27, Try.ntmps27
      go_wp2_with fail
      refine (K.out _).mono ?_
      rintro e w1 ⟨rfl, hb1⟩
      have HB1 := Lib.hid hb1
      clear hb1
      go_wp2
      go_ret
      exact ⟨rfl, HB1.out.trans ((alloc_same w1 _).mono HB1.out.size)⟩
    · have K := Lib.hid (fun (w0 : World) => l1In_told 4 0 4 w0)
      clear h0 h4
      go_enter Try.func27, Try.ntmps27
      go_wp2_with fail
      refine (K.out _).mono ?_
      rintro e w1 ⟨rfl, hb1⟩
      have HB1 := Lib.hid hb1
      clear hb1
      go_wp2
      go_ret
      exact ⟨rfl, HB1.out.trans ((alloc_same w1 _).mono HB1.out.size)⟩
  · have hq : (decide ((0 : Int) ≤ k) && decide (k ≤ 4)) = false := by simp; omega
    have en : brName k = [] := by
      unfold brName
      rw [if_neg (by omega), if_neg (by omega), if_neg (by omega), if_neg (by omega), if_neg (by omega)]
    have K := Lib.hid (fun (w0 : World) => l1In_told k 0 4 w0)
    rw [hq] at K
    rw [en]
    clear hq hk en
    go_enter Try.func27, Try.ntmps27
    go_wp2_with fail
    refine (K.out _).mono ?_
    rintro e w1 ⟨rfl, hb1⟩
    have HB1 := Lib.hid hb1
    clear hb1
    go_wp2
    go_ret
    exact ⟨rfl, HB1.out⟩
end Go.Proofs.Ytjkjnhkamieljaa
namespace Go.Proofs.Ytjkjnhkamieljaa
open Go.ChangeShapes Go.WideShapes Go.ChangeAt Go.RowKit
set_option linter.unusedVariables false

section
variable {a b : Option Addr} {n m c d : Nat} {l l' : List Fd} {w : World}
set_option maxHeartbeats 2000000 in
set_option maxRecDepth 100000 in
theorem lostBy_any (s : Int) (h : Fds w a n l) (h' : Fds w b m l') (hc : n ≤ c ∧ (c : Int) ≤ 9223372036854775807) (hd : m ≤ d ∧ (d : Int) ≤ 9223372036854775807) (hn : n ≤ 1000000000) (hm : m ≤ 1000000000) :
    Calls Try.prog 16 #[.slice a n c, .slice b m d, .int .i64 s] w (Told (.int .i64 (lostOf l l' s)) w) := by
  have F0 := Lib.hid (inRange_told s 0 50 w)
  have F1 := Lib.hid (fun (w1 : World) (hb : Below w.heap.size w w1) => isFormat_any a n c l w1 (h.same hb) hc)
  have KM := Lib.hid (fun (w1 : World) (hb : Below w.heap.size w w1) (q : Int) (hq : Fit64 q) => makeBytes_any a n c l q w1 (h.same hb) hc hn hq)
  have KD := Lib.hid (fun (w1 : World) (hb : Below w.heap.size w w1) (p : Option Addr) (k f : Nat) (y : List Int) (hy : Nums .i64 w1 p k y) (hk : k ≤ 1000000000) (hf : k ≤ f ∧ (f : Int) ≤ 9223372036854775807) => decodeMessage_any b m d l' p k f y w1 (h'.same hb) hy hd hf hm hk)
  unfold Made at KM
  unfold DmTold at KD
  clear h h' hc hd
  by_cases hs : 0 ≤ s ∧ s ≤ 50
  · have hq : (decide ((0 : Int) ≤ s) && decide (s ≤ 50)) = true := by simp; omega
    rw [hq] at F0
    obtain ⟨k, rfl⟩ : ∃ k : Nat, s = k := ⟨s.toNat, by omega⟩
    cases hA : isFmt l with
    | false =>
      have HQ : Hid (lostOf l l' k = 0) := Lib.hid (if_neg (fun e => by rw [hA] at e; cases e.2))
      rw [hA] at F1
      clear hq
      go_enter Try.func16, Try.ntmps16
      go_wp2_with fail
      refine F0.out.mono ?_
      rintro e w1 ⟨rfl, hb1⟩
      have HB1 := Lib.hid hb1
      clear hb1
      go_wp2_with fail
      refine (F1.out _ HB1.out).mono ?_
      rintro e w2 ⟨rfl, hb2⟩
      have HB2 := Lib.hid (HB1.out.trans (hb2.mono HB1.out.size))
      clear hb2
      go_wp2_with fail
      go_ret
      exact ⟨by rw [HQ.out]; rfl, HB2.out⟩
    | true =>
      have HQ : Hid (lostOf l l' k = (lostTo l l' k : Int)) := Lib.hid (by unfold lostOf; rw [if_pos ⟨hs, hA⟩]; rfl)
      rw [hA] at F1
      have hk : k ≤ 50 := by omega
      clear hq hs
      go_enter Try.func16, Try.ntmps16
      go_wp2_with fail
      refine F0.out.mono ?_
      rintro e w1 ⟨rfl, hb1⟩
      have HB1 := Lib.hid hb1
      clear hb1
      go_wp2_with fail
      refine (F1.out _ HB1.out).mono ?_
      rintro e w2 ⟨rfl, hb2⟩
      have HB2 := Lib.hid (HB1.out.trans (hb2.mono HB1.out.size))
      clear hb2
      go_wp2_with fail
      go_loopw [7, 20] (fun t i wr => ∃ j : Nat, j ≤ k ∧ i = .int .i64 j ∧ t = .int .i64 (lostTo l l' j) ∧ Below w.heap.size w wr) (fun _ i _ => k - (intOf i).toNat)
      case atStart => exact ⟨0, Nat.zero_le _, rfl, rfl, HB2.out⟩
      case round =>
        obtain ⟨j, hj, rfl, rfl, hb⟩ := hrel
        have HB := Lib.hid hb
        have hle := lostTo_le l l' j
        clear hb
        by_cases hlt : j < k
        · go_wp2_with fail
          refine (KM.out _ HB.out j (fit_mk (by omega) (by omega))).mono ?_
          rintro e w3 ⟨p, f, g, rfl, ho, hb3⟩
          have HB3 := Lib.hid (HB.out.trans (hb3.mono HB.out.size))
          have hpf := ho.room
          have hlf : f ≤ 600 := by rw [← ho.len]; exact encOf_few _ _
          have K2 := Lib.hid (KD.out w3 HB3.out p f g _ ho.nums (by omega) hpf)
          clear hb3 ho
          cases hdm : dmOk l' (encOf l (mkMsg l j)) with
          | true =>
            have HL : Hid (lostTo l l' (j + 1) = lostTo l l' j) := Lib.hid (by rw [lostTo, if_pos hdm]; rfl)
            rw [hdm] at K2
            clear hdm
            go_wp2_with fail
            refine K2.out.mono ?_
            rintro e w4 ⟨p2, f2, g2, rfl, ho2, hb4⟩
            have HB4 := Lib.hid (HB3.out.trans (hb4.mono HB3.out.size))
            clear hb4 ho2
            go_wp2_with fail
            go_roundw
            case rel => exact ⟨j + 1, by omega, by go_num, by rw [HL.out], HB4.out⟩
            case measure => simp [intOf]; omega
          | false =>
            have HL : Hid (lostTo l l' (j + 1) = lostTo l l' j + 1) := Lib.hid (by rw [lostTo, if_neg (by rw [hdm]; decide)])
            rw [hdm] at K2
            clear hdm
            go_wp2_with fail
            refine K2.out.mono ?_
            rintro e w4 ⟨p2, f2, g2, rfl, ho2, hb4⟩
            have HB4 := Lib.hid (HB3.out.trans (hb4.mono HB3.out.size))
            clear hb4 ho2
            go_wp2_with fail
            go_roundw
            case rel => exact ⟨j + 1, by omega, by go_num, by rw [HL.out]; go_num, HB4.out⟩
            case measure => simp [intOf]; omega
        · obtain rfl : j = k := by omega
          go_wp2_with fail
          go_ret
          exact ⟨by rw [HQ.out]; rfl, HB.out⟩
  · have hq : (decide ((0 : Int) ≤ s) && decide (s ≤ 50)) = false := by simp; omega
    have HQ : Hid (lostOf l l' s = 0) := Lib.hid (if_neg (fun e => hs e.1))
    rw [hq] at F0
    clear hq hs
    go_enter Try.func16, Try.ntmps16
    go_wp2_with fail
    refine F0.out.mono ?_
    rintro e w1 ⟨rfl, hb1⟩
    have HB1 := Lib.hid hb1
    clear hb1
    go_wp2_with fail
    go_ret
    exact ⟨by rw [HQ.out]; rfl, HB1.out⟩
end
end Go.Proofs.Ytjkjnhkamieljaa
namespace Go.Proofs.Ytjkjnhkamieljaa
open Go.ChangeShapes Go.WideShapes Go.ChangeAt Go.RowKit
set_option linter.unusedVariables false
set_option linter.unusedSimpArgs false

/-- While one value of a list is made: the value lies in block g, its integers behind it, the list below it. -/
structure Bx (w : World) (g : Nat) (k : Int) (p : Option Addr) (m d : Nat) (y : List Int) (ao : Option Addr) (no co : Nat) (v : List Vl) (W : World) : Prop where
  low : Below w.heap.size w W
  box : W.heap[g]? = some (.cells #[.int .i64 k, .slice p m d] 64 (0, 0))
  own : Own .i64 3 W (g + 1) p m d y
  val : OwnVB g 64 3 W w.heap.size ao no co v
  ge : w.heap.size ≤ g
section
variable {w : World} {g : Nat} {k : Int} {p : Option Addr} {m d : Nat} {y : List Int} {ao : Option Addr} {no co : Nat} {v : List Vl} {W W' : World}
theorem Bx.lt (h : Bx w g k p m d y ao no co v W) : g < W.heap.size := by
  rcases Nat.lt_or_ge g W.heap.size with h1 | h1
  · exact h1
  · have := h.box
    rw [Array.getElem?_eq_none h1] at this
    cases this
theorem Bx.new (hb : Below w.heap.size w W) (ho : OwnV 64 3 W w.heap.size ao no co v) : Bx w W.heap.size 0 none 0 0 [] ao no co v (W.alloc (.cells #[.int .i64 0, .slice none 0 0] 64)) :=
  ⟨hb.alloc hb.size _, heap_alloc_new _ _, Own.nil, ho.lim.same (alloc_same _ _), hb.size⟩
theorem Bx.same (h : Bx w g k p m d y ao no co v W) (hb : Below W.heap.size W W') : Bx w g k p m d y ao no co v W' :=
  ⟨h.low.trans (hb.mono h.low.size), by rw [hb.block g h.lt]; exact h.box, h.own.same hb, h.val.same hb, h.ge⟩
theorem Bx.num (h : Bx w g k p m d y ao no co v W) (k' : Int) : Bx w g k' p m d y ao no co v (W.setCell ⟨g, 0, none⟩ (.int .i64 k')) := by
  have hge := h.ge
  exact ⟨h.low.setCell (by dsimp only; omega) _, by rw [heap_setCell_same W g 0 _ _ (.int .i64 k') h.box]; rfl, h.own.set (fun ad e => by
    have := (h.own.span ad e).1
    omega) _ _, h.val.far (set_grown W g 0 _) (fun r e => by cases e; exact Or.inr (Nat.le_refl _)), hge⟩
theorem Bx.kept (h : Bx w g k p m d y ao no co v W) (hg : W.grownBy W' (Value.ownBlock (.slice p m d))) : W'.heap[g]? = some (.cells #[.int .i64 k, .slice p m d] 64 (0, 0)) := by
  rw [hg.block g h.lt (fun e => ?_)]
  · exact h.box
  · cases hp : p with
    | none => rw [hp] at e; simp [Value.ownBlock] at e
    | some ad =>
      rw [hp] at e
      have := (h.own.span ad hp).1
      simp only [Value.ownBlock, Option.some.injEq] at e
      omega
theorem Bx.items (h : Bx w g k p m d y ao no co v W) (hg : W.grownBy W' (Value.ownBlock (.slice p m d))) {p' : Option Addr} {m' d' : Nat} {y' : List Int} (ho : Own .i64 3 W' (g + 1) p' m' d' y') :
    Bx w g k p' m' d' y' ao no co v (W'.setCell ⟨g, 1, none⟩ (.slice p' m' d')) := by
  have hge := h.ge
  have hrow : ∀ r, Value.ownBlock (.slice p m d) = some r → g + 1 ≤ r := fun r e => by
    cases hp : p with
    | none => rw [hp] at e; simp [Value.ownBlock] at e
    | some ad =>
      rw [hp] at e
      have := (h.own.span ad hp).1
      simp only [Value.ownBlock, Option.some.injEq] at e
      omega
  have hB1 : Below w.heap.size w W' := h.low.grown hg h.low.size (fun r e => by have := hrow r e; omega)
  exact ⟨hB1.setCell (by dsimp only; omega) _, by rw [heap_setCell_same W' g 1 _ _ (.slice p' m' d') (h.kept hg)]; rfl, ho.set (fun ad e => by
    have := (ho.span ad e).1
    omega) _ _, (h.val.far hg (fun r e => Or.inr (by have := hrow r e; omega))).far (set_grown W' g 1 _) (fun r e => by cases e; exact Or.inr (Nat.le_refl _)), hge⟩
theorem Bx.cell (h : Bx w g k p m d y ao no co v W) {q : Addr} {u : Value} (hq : w.cell? q = some u) : W.cell? q = some u := cell_stay hq h.low
end
theorem told_eq {P : Program} {f : FuncId} {args : Array Value} {w : World} {x y : Value} (e : x = y) (h : Calls P f args w (Told x w)) : Calls P f args w (Told y w) := e ▸ h

set_option maxHeartbeats 8000000 in
set_option maxRecDepth 100000 in
theorem specMakeMessage_any (a : Option Addr) (n c : Nat) (l : List Fd) (s : Int) (w : World) (h : Fds w a n l) (hn : n ≤ 1000000000) (hs : Fit64 s) :
    Calls Try.prog 54 #[.slice a n c, .int .i64 s] w (MadeV 64 3 w.heap.size (mkMsg l s) w) := by
  have H := Lib.hid h
  have hl := Lib.hid h.len
  have HS := Lib.hid hs
  have KF := Lib.hid (fun (w0 : World) (hb : Below w.heap.size w w0) => specIsFormat_any a n c l w0 (h.same hb) hn)
  obtain ⟨i0, hi, hz0, hz1, hz2⟩ := info_parts infoValueS
  have HI := Lib.hid (And.intro hi (And.intro hz0 (And.intro hz1 hz2)))
  clear hi hz0 hz1 hz2
  obtain ⟨i1, hi, hz0, hz1, hz2⟩ := info_parts infoIntS
  have HJ := Lib.hid (And.intro hi (And.intro hz0 (And.intro hz1 hz2)))
  clear h hs hi hz0 hz1 hz2
  have HB0 : Hid (Below w.heap.size w (w.alloc (.cells #[] 64))) := Lib.hid (alloc_same _ _)
  have HO0 : Hid (OwnV 64 3 (w.alloc (.cells #[] 64)) w.heap.size (some ⟨w.heap.size, 0, none⟩) 0 0 []) := Lib.hid (OwnV.empty (Nat.le_refl _))
  unfold MadeV
  cases hf : isFmt l with
  | false =>
    have HE := Lib.hid (mkMsg_no s hf)
    rw [hf] at KF
    clear hf
    go_enter Try.func54, Try.ntmps54
    go_wp2_with fail
    go_loopw [5, 6] (fun u i wr => u = .slice (some ⟨w.heap.size, 0, none⟩) 0 0 ∧ i = .int .i64 0 ∧ OwnV 64 3 wr w.heap.size (some ⟨w.heap.size, 0, none⟩) 0 0 [] ∧ Below w.heap.size w wr) (fun _ _ _ => 0)
    case atStart => exact ⟨rfl, rfl, HO0.out, HB0.out⟩
    case round =>
      obtain ⟨rfl, rfl, ho, hb⟩ := hrel
      have HO := Lib.hid ho
      have HB := Lib.hid hb
      clear ho hb
      by_cases h0 : 0 < n
      · have hq3 : decide ((0 : Int) < (n : Int)) = true := decide_eq_true (by omega)
        have hq4 : (0 : Int) < (n : Int) := by omega
        go_wp2_with fail
        refine (KF.out _ HB.out).mono ?_
        rintro e w1 ⟨rfl, hb1⟩
        have HB1 := Lib.hid (HB.out.trans (hb1.mono HB.out.size))
        have HO1 := Lib.hid (HO.out.same hb1)
        clear hb1
        go_wp2_with fail
        go_ret
        exact ⟨_, _, _, rfl, by rw [HE.out]; exact HO1.out, HB1.out⟩
      · obtain rfl : n = 0 := by omega
        go_wp2_with fail
        go_ret
        exact ⟨_, _, _, rfl, by rw [HE.out]; exact HO.out, HB.out⟩
  | true =>
    have hF := isFmt_iff.1 hf
    have hn6 : n ≤ 6 := by have := hF.1; have := hl.out; omega
    have HOK := Lib.hid hF.2
    have HE := Lib.hid (mkMsg_yes s hf)
    rw [hf] at KF
    clear hf hF
    go_enter Try.func54, Try.ntmps54
    go_wp2_with fail
    go_loopw [5, 6] (fun u i wr => ∃ (a' : Option Addr) (c' j : Nat), u = .slice a' j c' ∧ i = .int .i64 j ∧ j ≤ n ∧ OwnV 64 3 wr w.heap.size a' j c' (mkTo l s j) ∧ Below w.heap.size w wr) (fun _ i _ => n - (intOf i).toNat)
    case atStart => exact ⟨_, _, 0, rfl, rfl, Nat.zero_le _, HO0.out, HB0.out⟩
    case round =>
      obtain ⟨a', c', j, rfl, rfl, hj, ho, hb⟩ := hrel
      have HO := Lib.hid ho
      have HB := Lib.hid hb
      clear ho hb
      by_cases hlt : j < n
      · have hltI : (j : Int) < (n : Int) := by omega
        have hlj : j < l.length := by rw [hl.out]; exact hlt
        have hq3 : decide ((j : Int) < (n : Int)) = true := decide_eq_true (by omega)
        obtain ⟨bb, o, ⟨xk, xm, xt, xi⟩, rfl, hx, hc0, hc1, hc2, hc3⟩ := fds_at H.out hlt
        dsimp only at hc0 hc1
        have HC0 := Lib.hid hc0
        have HC1 := Lib.hid hc1
        have hmax := okTo_max HOK.out hlj hx
        have hmax9 : 1 ≤ xm ∧ xm ≤ 99 := ⟨hmax.1, Int.le_trans hmax.2 (mostOf_le _)⟩
        clear hc0 hc1 hc2 hc3 hmax
        go_wp2_with fail
        refine (KF.out _ HB.out).mono ?_
        rintro e w1 ⟨rfl, hb1⟩
        have HB1 := Lib.hid (HB.out.trans (hb1.mono HB.out.size))
        have HG1 := Lib.hid (Bx.new HB1.out (HO.out.same hb1))
        have KT := specIsThere_any _ n c l a' j c' (mkTo l s j) j _ (H.out.same HG1.out.low) HG1.out.val.ownV.vals hn (by omega)
        clear hb1 hq3
        cases ht : isThere l (mkTo l s j) j with
        | false =>
          have HSTEP := Lib.hid (mkTo_no hx ht)
          have HVAL : Hid (True ↔ True) := Lib.hid Iff.rfl
          rw [ht] at KT
          clear ht hx
          go_wp2_with fail
          refine KT.mono ?_
          rintro e w2 ⟨rfl, hb2⟩
          have HG2 := Lib.hid (HG1.out.same hb2)
          clear hb2 KT HG1
          generalize w1.heap.size = g at *
          have c0 := (block_cell HG2.out.box 0).trans rfl
          have c1 := (block_cell HG2.out.box 1).trans rfl
          have hge := HG2.out.ge
          have hsz9 := HG2.out.low.size
          have HNN := Lib.hid (fun X (z0 : Int) p m d => items_new Vh.enc_len X ⟨z0, p, m, d⟩ 64)
          have hf : ∀ ad : Addr, (none : Option Addr) = some ad → g ≤ ad.block := fun ad e => by
            have := (HG2.out.own.span ad e).1
            omega
          have HFF := Lib.hid hf
          clear hf
          go_wp2_with (at_builtin; refine wpl_appV _ rfl (.tmp 69) (.tmp 71) 34 rfl 64 3 i0 (.agg #[.int .i64 0, .slice none 0 0]) 32 Try.underlying34 HI.out.1 HI.out.2.1 HI.out.2.2.1 HI.out.2.2.2 rfl rfl (HG2.out.val.same (alloc_same _ _)) rfl (HNN.out _ _ _ _ _) ((HG2.out.own.lower (by omega)).alloc _) HFF.out (by omega) ?c4 ?c5 ?_)
          case c4 => omega
          case c5 => first | (simp; omega) | omega
          intro a5 c5 w5 ho5 hb5
          have HO5 := Lib.hid ho5
          have HB5 : Hid (Below w.heap.size w w5) := Lib.hid (HG2.out.low.trans (((alloc_same _ _).mono hsz9).trans hb5))
          clear ho5 hb5 c0 c1
          go_wp2_with fail
          go_roundw
          case rel => exact ⟨a5, c5, j + 1, rfl, by go_num, by omega, by rw [HSTEP.out]; exact HO5.out, HB5.out⟩
          case measure => first | (simp [intOf]; omega) | omega
        | true =>
          have HSTEP := Lib.hid (mkTo_yes hx ht)
          rw [ht] at KT
          clear ht hx
          have hbd := pickOf_bd s (16 * j) (xm + 1)
          obtain ⟨q, hq⟩ : ∃ q : Nat, pickOf s (16 * j) (xm + 1) = q := ⟨(pickOf s (16 * j) (xm + 1)).toNat, by omega⟩
          have hq99 : q ≤ 99 := by have := hbd.2.2 (by omega); omega
          have KV1 : Hid (xk = 1 → mkVal ⟨xk, xm, xt, xi⟩ s (16 * j) = ⟨(q : Int), []⟩) := Lib.hid fun h => by rw [mkVal_num h, hq]
          have KV2 : Hid (xk ≠ 1 → mkVal ⟨xk, xm, xt, xi⟩ s (16 * j) = ⟨0, picks s (16 * j + 1) q⟩) := Lib.hid fun h => by rw [mkVal_more h, hq, Int.toNat_natCast]
          have KP := Lib.hid (fun w0 : World => specPickOf_any s (16 * j) (xm + 1) w0 HS.out (fit_mk (by omega) (by omega)) (fit_mk (by omega) (by omega)))
          rw [hq] at KP
          have KPK : Hid (∀ (m : Nat), m < q → ∀ z : Int, z = 16 * j + 1 + m → ∀ w0 : World, Calls Try.prog 72 #[.int .i64 s, .int .i64 z, .int .i64 100] w0 (Told (.int .i64 (pickOf s (16 * j + 1 + m) 100)) w0)) := Lib.hid fun m hm z hz w0 => by
            rw [hz]
            exact specPickOf_any s _ 100 w0 HS.out (fit_mk (by omega) (by omega)) (fit_mk (by omega) (by omega))
          clear hbd hq
          go_wp2_with fail
          refine KT.mono ?_
          rintro e w2 ⟨rfl, hb2⟩
          have HG2 := Lib.hid (HG1.out.same hb2)
          clear hb2 KT HG1
          generalize w1.heap.size = g at *
          have e1 := HG2.out.cell HC1.out
          go_wp2_with fail
          refine (KP.out _).mono ?_
          rintro e w3 ⟨rfl, hb3⟩
          have HG3 := Lib.hid (HG2.out.same hb3)
          have e0 := HG3.out.cell HC0.out
          clear hb3 e1
          by_cases hk : xk = 1
          · have bk : (xk == 1) = true := by simpa using hk
            have bk2 : (xk != 1) = false := by simpa using hk
            have c0 := (block_cell HG3.out.box 0).trans rfl
            have f0 := block_frozen HG3.out.box 0
            have HG5 := Lib.hid (HG3.out.num q)
            go_wp2_with fail
            clear c0 f0 e0
            go_loopw [9] (fun c9 wi => c9 = .int .i64 0 ∧ Bx w g (q : Int) none 0 0 [] a' j c' (mkTo l s j) wi) (fun _ _ => 0)
            case atStart => exact ⟨rfl, HG5.out⟩
            case round =>
              obtain ⟨rfl, hG⟩ := hrel
              have HGj := Lib.hid hG
              clear hG
              have HVAL := Lib.hid (KV1.out hk)
              have e0 := HGj.out.cell (HC0.out)
              by_cases hq : 0 < q
              · have hq3 : decide ((0 : Int) < (q : Int)) = true := decide_eq_true (by omega)
                have hq4 : (0 : Int) < (q : Int) := by omega
                have c0 := (block_cell HGj.out.box 0).trans rfl
                have c1 := (block_cell HGj.out.box 1).trans rfl
                have hge := HGj.out.ge
                have hsz9 := HGj.out.low.size
                have HNN := Lib.hid (fun X (z0 : Int) p m d => items_new Vh.enc_len X ⟨z0, p, m, d⟩ 64)
                have hf : ∀ ad : Addr, (none : Option Addr) = some ad → g ≤ ad.block := fun ad e => by
                  have := (HGj.out.own.span ad e).1
                  omega
                have HFF := Lib.hid hf
                clear hf
                go_wp2_with (at_builtin; refine wpl_appV _ rfl (.tmp 69) (.tmp 71) 34 rfl 64 3 i0 (.agg #[.int .i64 0, .slice none 0 0]) 32 Try.underlying34 HI.out.1 HI.out.2.1 HI.out.2.2.1 HI.out.2.2.2 rfl rfl (HGj.out.val.same (alloc_same _ _)) rfl (HNN.out _ _ _ _ _) ((HGj.out.own.lower (by omega)).alloc _) HFF.out (by omega) ?c4 ?c5 ?_)
                case c4 => omega
                case c5 => first | (simp; omega) | omega
                intro a5 c5 w5 ho5 hb5
                have HO5 := Lib.hid ho5
                have HB5 : Hid (Below w.heap.size w w5) := Lib.hid (HGj.out.low.trans (((alloc_same _ _).mono hsz9).trans hb5))
                clear ho5 hb5 c0 c1
                go_wp2_with fail
                go_roundw
                case rel => exact ⟨a5, c5, j + 1, rfl, by go_num, by omega, by rw [HSTEP.out, HVAL.out]; exact HO5.out, HB5.out⟩
                case measure => first | (simp [intOf]; omega) | omega
              · have hq3 : decide ((0 : Int) < (q : Int)) = false := decide_eq_false (by omega)
                have hq4 : ¬ (0 : Int) < (q : Int) := by omega
                have c0 := (block_cell HGj.out.box 0).trans rfl
                have c1 := (block_cell HGj.out.box 1).trans rfl
                have hge := HGj.out.ge
                have hsz9 := HGj.out.low.size
                have HNN := Lib.hid (fun X (z0 : Int) p m d => items_new Vh.enc_len X ⟨z0, p, m, d⟩ 64)
                have hf : ∀ ad : Addr, (none : Option Addr) = some ad → g ≤ ad.block := fun ad e => by
                  have := (HGj.out.own.span ad e).1
                  omega
                have HFF := Lib.hid hf
                clear hf
                go_wp2_with (at_builtin; refine wpl_appV _ rfl (.tmp 69) (.tmp 71) 34 rfl 64 3 i0 (.agg #[.int .i64 0, .slice none 0 0]) 32 Try.underlying34 HI.out.1 HI.out.2.1 HI.out.2.2.1 HI.out.2.2.2 rfl rfl (HGj.out.val.same (alloc_same _ _)) rfl (HNN.out _ _ _ _ _) ((HGj.out.own.lower (by omega)).alloc _) HFF.out (by omega) ?c4 ?c5 ?_)
                case c4 => omega
                case c5 => first | (simp; omega) | omega
                intro a5 c5 w5 ho5 hb5
                have HO5 := Lib.hid ho5
                have HB5 : Hid (Below w.heap.size w w5) := Lib.hid (HGj.out.low.trans (((alloc_same _ _).mono hsz9).trans hb5))
                clear ho5 hb5 c0 c1
                go_wp2_with fail
                go_roundw
                case rel => exact ⟨a5, c5, j + 1, rfl, by go_num, by omega, by rw [HSTEP.out, HVAL.out]; exact HO5.out, HB5.out⟩
                case measure => first | (simp [intOf]; omega) | omega
          · have bk : (xk == 1) = false := by simpa using hk
            have bk2 : (xk != 1) = true := by simpa using hk
            have HG4 := HG3
            go_wp2_with fail
            clear e0
            go_loopw [9] (fun c9 wi => ∃ (m : Nat) (p : Option Addr) (d : Nat), c9 = .int .i64 m ∧ m ≤ q ∧ Bx w g 0 p m d (picks s (16 * j + 1) m) a' j c' (mkTo l s j) wi) (fun c9 _ => q - (intOf c9).toNat)
            case atStart => exact ⟨0, none, 0, rfl, Nat.zero_le _, HG4.out⟩
            case round =>
              obtain ⟨m, p, d, rfl, hmq0, hG⟩ := hrel
              have HGj := Lib.hid hG
              clear hG
              have e0 := HGj.out.cell (HC0.out)
              by_cases hmq : m < q
              · have hq3 : decide ((m : Int) < (q : Int)) = true := decide_eq_true (by omega)
                have hq4 : (m : Int) < (q : Int) := by omega
                have HWR : Hid (IntKind.i64.wrap (IntKind.i64.wrap (IntKind.i64.wrap (16 * (j : Int)) + (m : Int)) + 1) = 16 * j + 1 + m) := Lib.hid (by rw [IntWalk.i64_in (16 * (j : Int)) ⟨by omega, by omega⟩, IntWalk.i64_in (16 * (j : Int) + m) ⟨by omega, by omega⟩, IntWalk.i64_in _ ⟨by omega, by omega⟩]; omega)
                go_wp2_with fail
                clear e0
                have GS := Lib.hid (HGj.out.same (Below.refl _ wr).drew)
                refine wp_region_held_drew (S := fun _ => True) (by kernel_rfl) trivial (fun hHeld => ?_)
                refine wpAnyH_take (i := 0) (v := ?v1) (by simp only [List.getElem?_toArray, List.getElem?_cons_succ, List.getElem?_cons_zero]; rfl) (by kernel_rfl) (by kernel_rfl) (by kernel_rfl) (by exact fun _ _ _ h => h) (Or.inl ⟨by rfl, fun w9 hS9 => ?hy1⟩) hHeld ?rest1
                case hy1 =>
                  clear hS9
                  go_simp
                  try with_reducible rfl
                try simp only [Act.put, List.setIfInBounds_toArray, List.set_cons_zero, List.set_cons_succ]
                refine wpAnyH_take (i := 2) (v := ?v2) (by simp only [List.getElem?_toArray, List.getElem?_cons_succ, List.getElem?_cons_zero]; rfl) (by kernel_rfl) (by kernel_rfl) (by kernel_rfl) (by exact fun _ _ _ h => h) (Or.inl ⟨by rfl, fun w9 hS9 => ?hy2⟩) hHeld ?rest2
                case hy2 =>
                  clear hS9
                  go_simp
                  try with_reducible rfl
                try simp only [Act.put, List.setIfInBounds_toArray, List.set_cons_zero, List.set_cons_succ]
                refine wpAnyH_take (i := 3) (v := ?v3) (by simp only [List.getElem?_toArray, List.getElem?_cons_succ, List.getElem?_cons_zero]; rfl) (by kernel_rfl) (by kernel_rfl) (by kernel_rfl) (by exact fun _ _ _ h => h) (Or.inl ⟨by rfl, fun w9 hS9 => ?hy3⟩) hHeld ?rest3
                case hy3 =>
                  clear hS9
                  go_simp
                  try with_reducible rfl
                try simp only [Act.put, List.setIfInBounds_toArray, List.set_cons_zero, List.set_cons_succ]
                refine wpAnyH_take (i := 4) (v := ?v4) (by simp only [List.getElem?_toArray, List.getElem?_cons_succ, List.getElem?_cons_zero]; rfl) (by kernel_rfl) (by kernel_rfl) (by kernel_rfl) (by exact fun _ _ _ h => h) (Or.inl ⟨by rfl, fun w9 hS9 => ?hy4⟩) hHeld ?rest4
                case hy4 =>
                  clear hS9
                  go_simp
                  try with_reducible rfl
                try simp only [Act.put, List.setIfInBounds_toArray, List.set_cons_zero, List.set_cons_succ]
                refine wpAnyH_take (i := 5) (v := ?v5) (by simp only [List.getElem?_toArray, List.getElem?_cons_succ, List.getElem?_cons_zero]; rfl) (by kernel_rfl) (by kernel_rfl) (by kernel_rfl) (by exact fun _ _ _ h => h) (Or.inl ⟨by rfl, fun w9 hS9 => ?hy5⟩) hHeld ?rest5
                case hy5 =>
                  clear hS9
                  go_simp
                  try with_reducible rfl
                try simp only [Act.put, List.setIfInBounds_toArray, List.set_cons_zero, List.set_cons_succ]
                refine wpAnyH_take (i := 6) (v := ?v6) (by simp only [List.getElem?_toArray, List.getElem?_cons_succ, List.getElem?_cons_zero]; rfl) (by kernel_rfl) (by kernel_rfl) (by kernel_rfl) (by exact fun _ _ _ h => h) (Or.inl ⟨by rfl, fun w9 hS9 => ?hy6⟩) hHeld ?rest6
                case hy6 =>
                  clear hS9
                  go_simp
                  try with_reducible rfl
                try simp only [Act.put, List.setIfInBounds_toArray, List.set_cons_zero, List.set_cons_succ]
                refine wpAnyH_take (i := 7) (v := ?v7) (by simp only [List.getElem?_toArray, List.getElem?_cons_succ, List.getElem?_cons_zero]; rfl) (by kernel_rfl) (by kernel_rfl) (by kernel_rfl) (by exact fun _ _ _ h => h) (Or.inl ⟨by rfl, fun w9 hS9 => ?hy7⟩) hHeld ?rest7
                case hy7 =>
                  clear hS9
                  go_simp
                  try with_reducible rfl
                try simp only [Act.put, List.setIfInBounds_toArray, List.set_cons_zero, List.set_cons_succ]
                refine wpAnyH_ready (rs := [1, 8]) (by kernel_rfl) (by simp) (AllReadyH.cons (by simp only [List.getElem?_toArray, List.getElem?_cons_succ, List.getElem?_cons_zero]; rfl) (fun K hK => ?_) (AllReadyH.cons (by simp only [List.getElem?_toArray, List.getElem?_cons_succ, List.getElem?_cons_zero]; rfl) (fun K hK => ?_) AllReadyH.nil))
                · skip
                  have q1 := (block_cell GS.out.box 1).trans rfl
                  go_simp
                  refine hK.out _ _ trivial (fun hHeld => ?_)
                  clear hK K
                  try simp only [Act.put, List.setIfInBounds_toArray, List.set_cons_zero, List.set_cons_succ]
                  refine wpAnyH_ready (rs := [8]) (by kernel_rfl) (by simp) (AllReadyH.cons (by simp only [List.getElem?_toArray, List.getElem?_cons_succ, List.getElem?_cons_zero]; rfl) (fun K hK => ?_) AllReadyH.nil)
                  go_simp
                  refine (KPK.out m hmq _ HWR.out _).mono ?_
                  rintro e x1 ⟨rfl, hdz⟩
                  have GA := Lib.hid (GS.out.same hdz)
                  clear hdz
                  go_wp2_with fail
                  refine hK.out _ _ trivial (fun hHeld => ?_)
                  clear hK K
                  try simp only [Act.put, List.setIfInBounds_toArray, List.set_cons_zero, List.set_cons_succ]
                  refine wpAnyH_ready (rs := [9]) (by kernel_rfl) (by simp) (AllReadyH.cons (by simp only [List.getElem?_toArray, List.getElem?_cons_succ, List.getElem?_cons_zero]; rfl) (fun K hK => ?_) AllReadyH.nil)
                  have GB := Lib.hid (GA.out.same (alloc_same x1 (.cells #[.int .i64 (pickOf s (16 * j + 1 + m) 100)] 3)))
                  have NB := Lib.hid (nums_new x1 .i64 (pickOf s (16 * j + 1 + m) 100) 3)
                  go_simp
                  refine hK.out _ _ trivial (fun hHeld => ?_)
                  clear hK K
                  try simp only [Act.put, List.setIfInBounds_toArray, List.set_cons_zero, List.set_cons_succ]
                  refine wpAnyH_ready (rs := [10]) (by kernel_rfl) (by simp) (AllReadyH.cons (by simp only [List.getElem?_toArray, List.getElem?_cons_succ, List.getElem?_cons_zero]; rfl) (fun K hK => ?_) AllReadyH.nil)
                  have hszb := GB.out.lt
                  refine step_app3 _ (by rfl) (.tmp 58) (.tmp 66) 32 (by rfl) .i64 3 i1 (.int .i64 0) 8 Try.underlying32 HJ.out.1 HJ.out.2.1 HJ.out.2.2.1 HJ.out.2.2.2 rfl (by rfl) GB.out.own (by rfl) NB.out (by omega) (by omega) (by omega) (by omega) ?_
                  intro p2 d2 x2 ho2 hg2 _
                  have HK2 := Lib.hid (GB.out.kept hg2)
                  have GC := Lib.hid (GB.out.items hg2 ho2)
                  clear ho2 hg2
                  refine hK.out _ _ trivial (fun hHeld => ?_)
                  clear hK K
                  try simp only [Act.put, List.setIfInBounds_toArray, List.set_cons_zero, List.set_cons_succ]
                  refine wpAnyH_take (i := 11) (v := ?v8) (by simp only [List.getElem?_toArray, List.getElem?_cons_succ, List.getElem?_cons_zero]; rfl) (by kernel_rfl) (by kernel_rfl) (by kernel_rfl) (by exact fun _ _ _ h => h) (Or.inl ⟨by rfl, fun w9 hS9 => ?hy8⟩) hHeld ?rest8
                  case hy8 =>
                    clear hS9
                    go_simp
                    try with_reducible rfl
                  try simp only [Act.put, List.setIfInBounds_toArray, List.set_cons_zero, List.set_cons_succ]
                  refine wpAnyH_ready (rs := [12]) (by kernel_rfl) (by simp) (AllReadyH.cons (by simp only [List.getElem?_toArray, List.getElem?_cons_succ, List.getElem?_cons_zero]; rfl) (fun K hK => ?_) AllReadyH.nil)
                  have r1 := (block_cell HK2.out 1).trans rfl
                  have r2 := block_frozen HK2.out 1
                  go_simp
                  refine hK.out _ _ trivial (fun hHeld => ?_)
                  clear hK K
                  try simp only [Act.put, List.setIfInBounds_toArray, List.set_cons_zero, List.set_cons_succ]
                  refine wpAnyH_done (by kernel_rfl) ?_ _
                  go_wp2_with fail
                  go_roundw
                  case rel => exact ⟨m + 1, p2, d2, by go_num, by omega, GC.out⟩
                  case measure => first | (simp [intOf]; omega) | omega
                · skip
                  go_simp
                  refine (KPK.out m hmq _ HWR.out _).mono ?_
                  rintro e x1 ⟨rfl, hdz⟩
                  have GA := Lib.hid (GS.out.same hdz)
                  clear hdz
                  go_wp2_with fail
                  refine hK.out _ _ trivial (fun hHeld => ?_)
                  clear hK K
                  try simp only [Act.put, List.setIfInBounds_toArray, List.set_cons_zero, List.set_cons_succ]
                  refine wpAnyH_ready (rs := [1, 9]) (by kernel_rfl) (by simp) (AllReadyH.cons (by simp only [List.getElem?_toArray, List.getElem?_cons_succ, List.getElem?_cons_zero]; rfl) (fun K hK => ?_) (AllReadyH.cons (by simp only [List.getElem?_toArray, List.getElem?_cons_succ, List.getElem?_cons_zero]; rfl) (fun K hK => ?_) AllReadyH.nil))
                  · skip
                    have q1 := (block_cell GA.out.box 1).trans rfl
                    go_simp
                    refine hK.out _ _ trivial (fun hHeld => ?_)
                    clear hK K
                    try simp only [Act.put, List.setIfInBounds_toArray, List.set_cons_zero, List.set_cons_succ]
                    refine wpAnyH_ready (rs := [9]) (by kernel_rfl) (by simp) (AllReadyH.cons (by simp only [List.getElem?_toArray, List.getElem?_cons_succ, List.getElem?_cons_zero]; rfl) (fun K hK => ?_) AllReadyH.nil)
                    have GB := Lib.hid (GA.out.same (alloc_same x1 (.cells #[.int .i64 (pickOf s (16 * j + 1 + m) 100)] 3)))
                    have NB := Lib.hid (nums_new x1 .i64 (pickOf s (16 * j + 1 + m) 100) 3)
                    go_simp
                    refine hK.out _ _ trivial (fun hHeld => ?_)
                    clear hK K
                    try simp only [Act.put, List.setIfInBounds_toArray, List.set_cons_zero, List.set_cons_succ]
                    refine wpAnyH_ready (rs := [10]) (by kernel_rfl) (by simp) (AllReadyH.cons (by simp only [List.getElem?_toArray, List.getElem?_cons_succ, List.getElem?_cons_zero]; rfl) (fun K hK => ?_) AllReadyH.nil)
                    have hszb := GB.out.lt
                    refine step_app3 _ (by rfl) (.tmp 58) (.tmp 66) 32 (by rfl) .i64 3 i1 (.int .i64 0) 8 Try.underlying32 HJ.out.1 HJ.out.2.1 HJ.out.2.2.1 HJ.out.2.2.2 rfl (by rfl) GB.out.own (by rfl) NB.out (by omega) (by omega) (by omega) (by omega) ?_
                    intro p2 d2 x2 ho2 hg2 _
                    have HK2 := Lib.hid (GB.out.kept hg2)
                    have GC := Lib.hid (GB.out.items hg2 ho2)
                    clear ho2 hg2
                    refine hK.out _ _ trivial (fun hHeld => ?_)
                    clear hK K
                    try simp only [Act.put, List.setIfInBounds_toArray, List.set_cons_zero, List.set_cons_succ]
                    refine wpAnyH_take (i := 11) (v := ?v9) (by simp only [List.getElem?_toArray, List.getElem?_cons_succ, List.getElem?_cons_zero]; rfl) (by kernel_rfl) (by kernel_rfl) (by kernel_rfl) (by exact fun _ _ _ h => h) (Or.inl ⟨by rfl, fun w9 hS9 => ?hy9⟩) hHeld ?rest9
                    case hy9 =>
                      clear hS9
                      go_simp
                      try with_reducible rfl
                    try simp only [Act.put, List.setIfInBounds_toArray, List.set_cons_zero, List.set_cons_succ]
                    refine wpAnyH_ready (rs := [12]) (by kernel_rfl) (by simp) (AllReadyH.cons (by simp only [List.getElem?_toArray, List.getElem?_cons_succ, List.getElem?_cons_zero]; rfl) (fun K hK => ?_) AllReadyH.nil)
                    have r1 := (block_cell HK2.out 1).trans rfl
                    have r2 := block_frozen HK2.out 1
                    go_simp
                    refine hK.out _ _ trivial (fun hHeld => ?_)
                    clear hK K
                    try simp only [Act.put, List.setIfInBounds_toArray, List.set_cons_zero, List.set_cons_succ]
                    refine wpAnyH_done (by kernel_rfl) ?_ _
                    go_wp2_with fail
                    go_roundw
                    case rel => exact ⟨m + 1, p2, d2, by go_num, by omega, GC.out⟩
                    case measure => first | (simp [intOf]; omega) | omega
                  · skip
                    have GB := Lib.hid (GA.out.same (alloc_same x1 (.cells #[.int .i64 (pickOf s (16 * j + 1 + m) 100)] 3)))
                    have NB := Lib.hid (nums_new x1 .i64 (pickOf s (16 * j + 1 + m) 100) 3)
                    go_simp
                    refine hK.out _ _ trivial (fun hHeld => ?_)
                    clear hK K
                    try simp only [Act.put, List.setIfInBounds_toArray, List.set_cons_zero, List.set_cons_succ]
                    refine wpAnyH_ready (rs := [1]) (by kernel_rfl) (by simp) (AllReadyH.cons (by simp only [List.getElem?_toArray, List.getElem?_cons_succ, List.getElem?_cons_zero]; rfl) (fun K hK => ?_) AllReadyH.nil)
                    have q1 := (block_cell GB.out.box 1).trans rfl
                    go_simp
                    refine hK.out _ _ trivial (fun hHeld => ?_)
                    clear hK K
                    try simp only [Act.put, List.setIfInBounds_toArray, List.set_cons_zero, List.set_cons_succ]
                    refine wpAnyH_ready (rs := [10]) (by kernel_rfl) (by simp) (AllReadyH.cons (by simp only [List.getElem?_toArray, List.getElem?_cons_succ, List.getElem?_cons_zero]; rfl) (fun K hK => ?_) AllReadyH.nil)
                    have hszb := GB.out.lt
                    refine step_app3 _ (by rfl) (.tmp 58) (.tmp 66) 32 (by rfl) .i64 3 i1 (.int .i64 0) 8 Try.underlying32 HJ.out.1 HJ.out.2.1 HJ.out.2.2.1 HJ.out.2.2.2 rfl (by rfl) GB.out.own (by rfl) NB.out (by omega) (by omega) (by omega) (by omega) ?_
                    intro p2 d2 x2 ho2 hg2 _
                    have HK2 := Lib.hid (GB.out.kept hg2)
                    have GC := Lib.hid (GB.out.items hg2 ho2)
                    clear ho2 hg2
                    refine hK.out _ _ trivial (fun hHeld => ?_)
                    clear hK K
                    try simp only [Act.put, List.setIfInBounds_toArray, List.set_cons_zero, List.set_cons_succ]
                    refine wpAnyH_take (i := 11) (v := ?v10) (by simp only [List.getElem?_toArray, List.getElem?_cons_succ, List.getElem?_cons_zero]; rfl) (by kernel_rfl) (by kernel_rfl) (by kernel_rfl) (by exact fun _ _ _ h => h) (Or.inl ⟨by rfl, fun w9 hS9 => ?hy10⟩) hHeld ?rest10
                    case hy10 =>
                      clear hS9
                      go_simp
                      try with_reducible rfl
                    try simp only [Act.put, List.setIfInBounds_toArray, List.set_cons_zero, List.set_cons_succ]
                    refine wpAnyH_ready (rs := [12]) (by kernel_rfl) (by simp) (AllReadyH.cons (by simp only [List.getElem?_toArray, List.getElem?_cons_succ, List.getElem?_cons_zero]; rfl) (fun K hK => ?_) AllReadyH.nil)
                    have r1 := (block_cell HK2.out 1).trans rfl
                    have r2 := block_frozen HK2.out 1
                    go_simp
                    refine hK.out _ _ trivial (fun hHeld => ?_)
                    clear hK K
                    try simp only [Act.put, List.setIfInBounds_toArray, List.set_cons_zero, List.set_cons_succ]
                    refine wpAnyH_done (by kernel_rfl) ?_ _
                    go_wp2_with fail
                    go_roundw
                    case rel => exact ⟨m + 1, p2, d2, by go_num, by omega, GC.out⟩
                    case measure => first | (simp [intOf]; omega) | omega
              · obtain rfl : m = q := by omega
                have HVAL := Lib.hid (KV2.out hk)
                have hq3 : decide ((m : Int) < (m : Int)) = false := decide_eq_false (by omega)
                have c0 := (block_cell HGj.out.box 0).trans rfl
                have c1 := (block_cell HGj.out.box 1).trans rfl
                have hge := HGj.out.ge
                have hsz9 := HGj.out.low.size
                have HNN := Lib.hid (fun X (z0 : Int) p m d => items_new Vh.enc_len X ⟨z0, p, m, d⟩ 64)
                have hf : ∀ ad : Addr, p = some ad → g ≤ ad.block := fun ad e => by
                  have := (HGj.out.own.span ad e).1
                  omega
                have HFF := Lib.hid hf
                clear hf
                go_wp2_with (at_builtin; refine wpl_appV _ rfl (.tmp 69) (.tmp 71) 34 rfl 64 3 i0 (.agg #[.int .i64 0, .slice none 0 0]) 32 Try.underlying34 HI.out.1 HI.out.2.1 HI.out.2.2.1 HI.out.2.2.2 rfl rfl (HGj.out.val.same (alloc_same _ _)) rfl (HNN.out _ _ _ _ _) ((HGj.out.own.lower (by omega)).alloc _) HFF.out (by omega) ?c4 ?c5 ?_)
                case c4 => omega
                case c5 => first | (simp; omega) | omega
                intro a5 c5 w5 ho5 hb5
                have HO5 := Lib.hid ho5
                have HB5 : Hid (Below w.heap.size w w5) := Lib.hid (HGj.out.low.trans (((alloc_same _ _).mono hsz9).trans hb5))
                clear ho5 hb5 c0 c1
                go_wp2_with fail
                go_roundw
                case rel => exact ⟨a5, c5, j + 1, rfl, by go_num, by omega, by rw [HSTEP.out, HVAL.out]; exact HO5.out, HB5.out⟩
                case measure => first | (simp [intOf]; omega) | omega
      · obtain rfl : j = n := by omega
        have hq3 : decide ((j : Int) < (j : Int)) = false := decide_eq_false (by omega)
        go_wp2_with fail
        go_ret
        exact ⟨_, _, _, rfl, by rw [HE.out, hl.out]; exact HO.out, HB.out⟩
set_option maxHeartbeats 2000000 in
set_option maxRecDepth 100000 in
theorem specMakeBytes_any (a : Option Addr) (n c : Nat) (l : List Fd) (s : Int) (w : World) (h : Fds w a n l) (hn : n ≤ 1000000000) (hs : Fit64 s) :
    Calls Try.prog 52 #[.slice a n c, .int .i64 s] w (Made .i64 3 w.heap.size (encOf l (mkMsg l s)) w) := by
  have H := Lib.hid h
  have KM := Lib.hid (specMakeMessage_any a n c l s w h hn hs)
  clear h hs
  unfold MadeV at KM
  go_enter Try.func52, Try.ntmps52
  go_wp2_with fail
  refine KM.out.mono ?_
  rintro e w1 ⟨b, m, d, rfl, ho, hb1⟩
  have hm : m ≤ 6 := by have := ho.len; have := (mkMsg_few l s).1; omega
  have HB1 := Lib.hid hb1
  have KE := specEncodeMessage_any a n c l b m d (mkMsg l s) w1 (H.out.same hb1) ho.vals hn (by omega)
  unfold EncTold at KE
  clear ho hb1 KM
  go_wp2_with fail
  refine KE.mono ?_
  rintro e w2 ⟨b', m', d', rfl, ho2, hb2⟩
  have hs1 := HB1.out.size
  have HO := Lib.hid (ho2.lower hs1)
  have HB2 := Lib.hid (HB1.out.trans (hb2.mono hs1))
  clear ho2 hb2 KE
  go_wp2_with fail
  go_ret
  exact ⟨_, _, _, rfl, HO.out, HB2.out⟩
end Go.Proofs.Ytjkjnhkamieljaa
namespace Go.Proofs.Ytjkjnhkamieljaa
open Go.ChangeShapes Go.WideShapes Go.ChangeAt Go.RowKit
set_option linter.unusedVariables false

section
variable {a b : Option Addr} {n m c d : Nat} {l l' : List Fd} {w : World}
set_option maxHeartbeats 2000000 in
set_option maxRecDepth 100000 in
theorem specLostBy_any (s : Int) (hs64 : Fit64 s) (h : Fds w a n l) (h' : Fds w b m l') (hn : n ≤ 1000000000) (hm : m ≤ 1000000000) :
    Calls Try.prog 28 #[.slice a n c, .slice b m d, .int .i64 s] w (Told (.int .i64 (lostOf l l' s)) w) := by
  have F1 := Lib.hid (fun (w1 : World) (hb : Below w.heap.size w w1) => specIsFormat_any a n c l w1 (h.same hb) hn)
  have KM := Lib.hid (fun (w1 : World) (hb : Below w.heap.size w w1) (q : Int) (hq : Fit64 q) => specMakeBytes_any a n c l q w1 (h.same hb) hn hq)
  have KD := Lib.hid (fun (w1 : World) (hb : Below w.heap.size w w1) (p : Option Addr) (k f : Nat) (y : List Int) (hy : Nums .i64 w1 p k y) (hk : k ≤ 1000000000) (hf : k ≤ f ∧ (f : Int) ≤ 9223372036854775807) => specDecodeMessage_any b m d l' p k f y w1 (h'.same hb) hy hf hm hk)
  unfold Made at KM
  unfold DmTold at KD
  clear h h'
  by_cases hs : 0 ≤ s ∧ s ≤ 50
  · obtain ⟨k, rfl⟩ : ∃ k : Nat, s = k := ⟨s.toNat, by omega⟩
    have hk : k ≤ 50 := by omega
    cases hA : isFmt l with
    | false =>
      have HQ : Hid (lostOf l l' k = 0) := Lib.hid (if_neg (fun e => by rw [hA] at e; cases e.2))
      rw [hA] at F1
      clear hs hs64
      go_enter Try.func28, Try.ntmps28
      go_wp2_with fail
      go_loopw [7, 8] (fun t i wr => i = .int .i64 0 ∧ t = .int .i64 0 ∧ Below w.heap.size w wr) (fun _ _ _ => 0)
      case atStart => exact ⟨rfl, rfl, Below.refl _ _⟩
      case round =>
        obtain ⟨rfl, rfl, hb⟩ := hrel
        have HB := Lib.hid hb
        clear hb
        by_cases h0 : 0 < k
        · go_wp2_with fail
          refine (F1.out _ HB.out).mono ?_
          rintro e w2 ⟨rfl, hb2⟩
          have HB2 := Lib.hid (HB.out.trans (hb2.mono HB.out.size))
          clear hb2
          go_wp2_with fail
          go_ret
          exact ⟨by rw [HQ.out]; rfl, HB2.out⟩
        · go_wp2_with fail
          go_ret
          exact ⟨by rw [HQ.out]; rfl, HB.out⟩
    | true =>
      have HQ : Hid (lostOf l l' k = (lostTo l l' k : Int)) := Lib.hid (by unfold lostOf; rw [if_pos ⟨hs, hA⟩]; rfl)
      rw [hA] at F1
      clear hs hs64
      go_enter Try.func28, Try.ntmps28
      go_wp2_with fail
      go_loopw [7, 8] (fun t i wr => ∃ j : Nat, j ≤ k ∧ i = .int .i64 j ∧ t = .int .i64 (lostTo l l' j) ∧ Below w.heap.size w wr) (fun _ i _ => k - (intOf i).toNat)
      case atStart => exact ⟨0, Nat.zero_le _, rfl, rfl, Below.refl _ _⟩
      case round =>
        obtain ⟨j, hj, rfl, rfl, hb⟩ := hrel
        have HB := Lib.hid hb
        have hle := lostTo_le l l' j
        clear hb
        by_cases hlt : j < k
        · go_wp2_with fail
          refine (F1.out _ HB.out).mono ?_
          rintro e w2 ⟨rfl, hb2⟩
          replace HB := Lib.hid (HB.out.trans (hb2.mono HB.out.size))
          clear hb2
          go_wp2_with fail
          refine (KM.out _ HB.out j (fit_mk (by omega) (by omega))).mono ?_
          rintro e w3 ⟨p, f, g, rfl, ho, hb3⟩
          have HB3 := Lib.hid (HB.out.trans (hb3.mono HB.out.size))
          have hpf := ho.room
          have hlf : f ≤ 600 := by rw [← ho.len]; exact encOf_few _ _
          have K2 := Lib.hid (KD.out w3 HB3.out p f g _ ho.nums (by omega) hpf)
          clear hb3 ho
          cases hdm : dmOk l' (encOf l (mkMsg l j)) with
          | true =>
            have HL : Hid (lostTo l l' (j + 1) = lostTo l l' j) := Lib.hid (by rw [lostTo, if_pos hdm]; rfl)
            rw [hdm] at K2
            clear hdm
            go_wp2_with fail
            refine K2.out.mono ?_
            rintro e w4 ⟨p2, f2, g2, rfl, ho2, hb4⟩
            have HB4 := Lib.hid (HB3.out.trans (hb4.mono HB3.out.size))
            clear hb4 ho2
            go_wp2_with fail
            go_roundw
            case rel => exact ⟨j + 1, by omega, by go_num, by rw [HL.out], HB4.out⟩
            case measure => simp [intOf]; omega
          | false =>
            have HL : Hid (lostTo l l' (j + 1) = lostTo l l' j + 1) := Lib.hid (by rw [lostTo, if_neg (by rw [hdm]; decide)])
            rw [hdm] at K2
            clear hdm
            go_wp2_with fail
            refine K2.out.mono ?_
            rintro e w4 ⟨p2, f2, g2, rfl, ho2, hb4⟩
            have HB4 := Lib.hid (HB3.out.trans (hb4.mono HB3.out.size))
            clear hb4 ho2
            go_wp2_with fail
            go_roundw
            case rel => exact ⟨j + 1, by omega, by go_num, by rw [HL.out]; go_num, HB4.out⟩
            case measure => simp [intOf]; omega
        · obtain rfl : j = k := by omega
          go_wp2_with fail
          go_ret
          exact ⟨by rw [HQ.out]; rfl, HB.out⟩
  · have HQ : Hid (lostOf l l' s = 0) := Lib.hid (if_neg (fun e => hs e.1))
    go_enter Try.func28, Try.ntmps28
    go_wp2_with fail
    go_loopw [7, 8] (fun t i wr => i = .int .i64 0 ∧ t = .int .i64 0 ∧ Below w.heap.size w wr) (fun _ _ _ => 0)
    case atStart => exact ⟨rfl, rfl, Below.refl _ _⟩
    case round =>
      obtain ⟨rfl, rfl, hb⟩ := hrel
      have HB := Lib.hid hb
      clear hb
      by_cases h0 : s < 0
      · clear hs
        go_wp2_with fail
        go_ret
        exact ⟨by rw [HQ.out]; rfl, HB.out⟩
      · have h50 : 50 < s := by omega
        clear hs
        go_wp2_with fail
        go_ret
        exact ⟨by rw [HQ.out]; rfl, HB.out⟩
end
end Go.Proofs.Ytjkjnhkamieljaa
namespace Go.Proofs.Ytjkjnhkamieljaa

/-- The groups of a number, as bytes. -/
def uv (n : Nat) : List Int := if n < 128 then [(n : Int)] else ((n % 128 + 128 : Nat) : Int) :: uv (n / 128)
termination_by n
decreasing_by omega
theorem uv_small {n : Nat} (h : n < 128) : uv n = [(n : Int)] := by rw [uv, if_pos h]
theorem uv_big {n : Nat} (h : 128 ≤ n) : uv n = ((n % 128 + 128 : Nat) : Int) :: uv (n / 128) := by rw [uv, if_neg (by omega)]
theorem uv_pos (n : Nat) : 1 ≤ (uv n).length := by
  by_cases h : n < 128
  · rw [uv_small h]; simp
  · rw [uv_big (by omega)]; simp
theorem uv_len : ∀ (j n : Nat), 1 ≤ j → n < 128 ^ j → (uv n).length ≤ j
  | 0, _, h, _ => absurd h (by omega)
  | 1, n, _, h => by rw [uv_small (by simpa using h)]; simp
  | j + 2, n, _, h => by
    by_cases h1 : n < 128
    · rw [uv_small h1]; simp
    · rw [uv_big (by omega), List.length_cons]
      have := uv_len (j + 1) (n / 128) (by omega) (by rw [Nat.pow_succ] at h; omega)
      omega
theorem uv_len6 (n : Nat) (h : n ≤ 1000000000000) : (uv n).length ≤ 6 := uv_len 6 n (by omega) (by omega)
/-- A list of bytes. -/
def Bs (l : List Int) : Prop := ∀ x ∈ l, 0 ≤ x ∧ x ≤ 255
theorem Bs.nil : Bs [] := fun _ h => by cases h
theorem Bs.cons {x : Int} {l : List Int} (h0 : 0 ≤ x) (h1 : x ≤ 255) (h : Bs l) : Bs (x :: l) := fun y hy => by
  rcases List.mem_cons.1 hy with rfl | hy
  · exact ⟨h0, h1⟩
  · exact h y hy
theorem Bs.append {l m : List Int} (h : Bs l) (k : Bs m) : Bs (l ++ m) := fun y hy => by
  rcases List.mem_append.1 hy with hy | hy
  · exact h y hy
  · exact k y hy
theorem Bs.drop {l : List Int} (h : Bs l) (k : Nat) : Bs (l.drop k) := fun y hy => h y (List.mem_of_mem_drop hy)
theorem Bs.take {l : List Int} (h : Bs l) (k : Nat) : Bs (l.take k) := fun y hy => h y (List.mem_of_mem_take hy)
theorem uv_bs (n : Nat) : Bs (uv n) := by
  induction n using Nat.strongRecOn with
  | _ n ih =>
    by_cases h : n < 128
    · rw [uv_small h]; exact Bs.cons (by omega) (by omega) Bs.nil
    · rw [uv_big (by omega)]; exact Bs.cons (by omega) (by omega) (ih (n / 128) (by omega))

/-- What is appended for a number: nothing where it is out of range. -/
def enc (n : Int) : List Int := if 0 ≤ n ∧ n ≤ 1000000000000 then uv n.toNat else []
theorem enc_in {n : Int} (h0 : 0 ≤ n) (h1 : n ≤ 1000000000000) : enc n = uv n.toNat := if_pos ⟨h0, h1⟩
theorem enc_out {n : Int} (h : ¬ (0 ≤ n ∧ n ≤ 1000000000000)) : enc n = [] := if_neg h
theorem enc_bs (n : Int) : Bs (enc n) := by
  unfold enc
  split
  · exact uv_bs _
  · exact Bs.nil
theorem enc_len (n : Int) : (enc n).length ≤ 6 := by
  unfold enc
  split
  · exact uv_len6 _ (by omega)
  · simp

/-- A varint is read: k groups have been read before, n is their number. -/
def rdv (k : Nat) (n : Int) : List Int → Option (Int × Nat)
  | [] => none
  | x :: t => if 6 ≤ k then none else if 128 ≤ x then rdv (k + 1) (n + (x - 128) * 128 ^ k) t
      else if (x = 0 ∧ 0 < k) ∨ 1000000000000 < n + x * 128 ^ k then none else some (n + x * 128 ^ k, k + 1)
theorem rdv_six (k : Nat) (n : Int) (l : List Int) (h : 6 ≤ k) : rdv k n l = none := by
  cases l with
  | nil => rfl
  | cons x t => rw [rdv, if_pos h]
theorem rdv_more {k : Nat} {n x : Int} {t : List Int} (h : k < 6) (hx : 128 ≤ x) : rdv k n (x :: t) = rdv (k + 1) (n + (x - 128) * 128 ^ k) t := by rw [rdv, if_neg (by omega), if_pos hx]
theorem rdv_bad {k : Nat} {n x : Int} {t : List Int} (h : k < 6) (hx : x < 128) (hb : (x = 0 ∧ 0 < k) ∨ 1000000000000 < n + x * 128 ^ k) : rdv k n (x :: t) = none := by rw [rdv, if_neg (by omega), if_neg (by omega), if_pos hb]
theorem rdv_good {k : Nat} {n x : Int} {t : List Int} (h : k < 6) (hx : x < 128) (hb : ¬ ((x = 0 ∧ 0 < k) ∨ 1000000000000 < n + x * 128 ^ k)) : rdv k n (x :: t) = some (n + x * 128 ^ k, k + 1) := by rw [rdv, if_neg (by omega), if_neg (by omega), if_neg hb]

theorem group_sum (n p : Int) (m : Nat) : n + (((m % 128 + 128 : Nat) : Int) - 128) * p + ((m / 128 : Nat) : Int) * (p * 128) = n + (m : Int) * p := by
  have h : (m : Int) = ((m % 128 : Nat) : Int) + 128 * ((m / 128 : Nat) : Int) := by omega
  have h2 : (((m % 128 + 128 : Nat) : Int) - 128) = ((m % 128 : Nat) : Int) := by omega
  rw [h2]
  generalize ((m % 128 : Nat) : Int) = r at *
  generalize ((m / 128 : Nat) : Int) = q at *
  rw [h, Int.add_mul, Int.mul_comm p 128, ← Int.mul_assoc q 128 p, Int.mul_comm q 128]
  omega

theorem rdv_uv (m : Nat) : ∀ (k : Nat) (n : Int) (t : List Int), (0 < k → 1 ≤ m) → k + (uv m).length ≤ 6 → n + (m : Int) * 128 ^ k ≤ 1000000000000 →
    rdv k n (uv m ++ t) = some (n + (m : Int) * 128 ^ k, k + (uv m).length) := by
  induction m using Nat.strongRecOn with
  | _ m ih =>
    intro k n t hk hl hn
    by_cases h : m < 128
    · rw [uv_small h] at hl ⊢
      simp only [List.length_singleton] at hl ⊢
      show rdv k n ((m : Int) :: t) = _
      exact rdv_good (by omega) (by omega) (by
        rintro (⟨h1, h2⟩ | h1)
        · have := hk h2; omega
        · omega)
    · rw [uv_big (by omega)] at hl ⊢
      simp only [List.length_cons] at hl ⊢
      have hs := group_sum n (128 ^ k) m
      rw [← Int.pow_succ] at hs
      show rdv k n (((m % 128 + 128 : Nat) : Int) :: (uv (m / 128) ++ t)) = _
      rw [rdv_more (by omega) (by omega), ih (m / 128) (by omega) (k + 1) _ t (fun _ => by omega) (by omega) (by rw [hs]; exact hn), hs]
      congr 2
      omega

theorem uv_of_rdv : ∀ (l : List Int) (k : Nat) (n m : Int) (j : Nat), Bs l → rdv k n l = some (m, j) →
    ∃ r : Nat, m = n + (r : Int) * 128 ^ k ∧ j = k + (uv r).length ∧ l.take (uv r).length = uv r ∧ (uv r).length ≤ l.length ∧ (0 < k → 1 ≤ r) ∧ m ≤ 1000000000000
  | [], k, n, m, j, _, h => by cases h
  | x :: t, k, n, m, j, hb, h => by
    have hx := hb x (by simp)
    by_cases h6 : 6 ≤ k
    · rw [rdv_six _ _ _ h6] at h; cases h
    · by_cases h1 : 128 ≤ x
      · rw [rdv_more (by omega) h1] at h
        obtain ⟨r, hm, hj, ht, hlen, hr, hmax⟩ := uv_of_rdv t (k + 1) _ m j (fun y hy => hb y (by simp [hy])) h
        have hr1 := hr (by omega)
        refine ⟨(x - 128).toNat + 128 * r, ?_, ?_, ?_, ?_, fun _ => by omega, hmax⟩
        · have hs := group_sum n (128 ^ k) ((x - 128).toNat + 128 * r)
          rw [show ((x - 128).toNat + 128 * r) / 128 = r by omega, show ((((x - 128).toNat + 128 * r) % 128 + 128 : Nat) : Int) - 128 = x - 128 by omega, ← Int.pow_succ] at hs
          rw [hm, hs]
        all_goals
          rw [uv_big (n := (x - 128).toNat + 128 * r) (by omega), show ((x - 128).toNat + 128 * r) / 128 = r by omega]
          simp only [List.length_cons]
        · omega
        · rw [List.take_succ_cons, ht]
          congr 1
          omega
        · omega
      · by_cases hbad : (x = 0 ∧ 0 < k) ∨ 1000000000000 < n + x * 128 ^ k
        · rw [rdv_bad (by omega) (by omega) hbad] at h; cases h
        · rw [rdv_good (by omega) (by omega) hbad] at h
          injection h with h
          injection h with h2 h3
          refine ⟨x.toNat, ?_, ?_, ?_, ?_, fun hk => ?_, by rw [← h2]; omega⟩
          · rw [show ((x.toNat : Nat) : Int) = x by omega, h2]
          all_goals try rw [uv_small (n := x.toNat) (by omega)]
          · rw [← h3]; rfl
          · show [x] = _
            congr 1
            omega
          · simp
          · omega

/-- The varint at a place: its number and the place behind it. -/
def rd (l : List Int) (off : Int) : Option (Int × Nat) := if 0 ≤ off ∧ off ≤ l.length then (rdv 0 0 (l.drop off.toNat)).map fun p => (p.1, off.toNat + p.2) else none
theorem rd_out {l : List Int} {off : Int} (h : ¬ (0 ≤ off ∧ off ≤ l.length)) : rd l off = none := if_neg h
theorem rd_end (l : List Int) : rd l l.length = none := by
  unfold rd
  rw [if_pos ⟨by omega, by omega⟩]
  simp [rdv]
theorem rd_none {l : List Int} {off : Nat} (h : rdv 0 0 (l.drop off) = none) : rd l off = none := by
  unfold rd
  split
  · rw [show ((off : Int)).toNat = off by omega, h]; rfl
  · rfl
theorem rd_some {l : List Int} {off : Nat} {m : Int} {j : Nat} (h0 : off ≤ l.length) (h : rdv 0 0 (l.drop off) = some (m, j)) : rd l off = some (m, off + j) := by
  unfold rd
  rw [if_pos ⟨by omega, by omega⟩, show ((off : Int)).toNat = off by omega, h]; rfl
/-- What is read is what is written. -/
theorem rd_facts {l : List Int} {off : Int} {m : Int} {j : Nat} (hb : Bs l) (h : rd l off = some (m, j)) :
    0 ≤ off ∧ off < j ∧ j ≤ l.length ∧ 0 ≤ m ∧ m ≤ 1000000000000 ∧ (l.drop off.toNat).take (j - off.toNat) = enc m ∧ (enc m).length = j - off.toNat := by
  unfold rd at h
  split at h
  · rename_i h0
    rw [Option.map_eq_some_iff] at h
    obtain ⟨⟨m', j'⟩, h1, h2⟩ := h
    injection h2 with h2 h3
    simp only at h2 h3
    subst h2
    obtain ⟨r, hm, hj, ht, hlen, _, hmax⟩ := uv_of_rdv _ 0 0 m' j' (hb.drop _) h1
    have hp := uv_pos r
    have hmr : m' = r := by rw [hm]; simp
    rw [List.length_drop] at hlen
    have he : enc m' = uv r := by rw [enc_in (by omega) hmax, show m'.toNat = r by omega]
    rw [he, show j - off.toNat = (uv r).length by omega]
    exact ⟨h0.1, by omega, by omega, by omega, hmax, ht, rfl⟩
  · cases h
/-- What is written is read. -/
theorem rd_enc (l t : List Int) (m : Int) (h0 : 0 ≤ m) (h1 : m ≤ 1000000000000) : rd (l ++ (enc m ++ t)) l.length = some (m, l.length + (enc m).length) := by
  rw [enc_in h0 h1]
  refine rd_some (by simp) ?_
  rw [List.drop_left]
  have h := rdv_uv m.toNat 0 0 t (fun h => by omega) (by have := uv_len6 m.toNat (by omega); omega) (by simp; omega)
  rw [h]
  simp
  omega

/-- A byte string at a place. -/
def rdBytes (l : List Int) (off most : Int) : Option (List Int × Nat) :=
  match rd l off with
  | none => none
  | some (n, j) => if n ≤ most ∧ n ≤ l.length - j then some ((l.drop j).take n.toNat, j + n.toNat) else none
theorem rdBytes_none {l : List Int} {off most : Int} (h : rd l off = none) : rdBytes l off most = none := by unfold rdBytes; rw [h]
theorem rdBytes_no {l : List Int} {off most n : Int} {j : Nat} (h : rd l off = some (n, j)) (hn : ¬ (n ≤ most ∧ n ≤ l.length - j)) : rdBytes l off most = none := by
  unfold rdBytes
  rw [h]
  exact if_neg hn
theorem rdBytes_yes {l : List Int} {off most n : Int} {j : Nat} (h : rd l off = some (n, j)) (hn : n ≤ most ∧ n ≤ l.length - j) : rdBytes l off most = some ((l.drop j).take n.toNat, j + n.toNat) := by
  unfold rdBytes
  rw [h]
  exact if_pos hn

/-- The varints of a list of numbers, one behind the other. -/
def encs (zs : List Int) : List Int := zs.flatMap enc
theorem encs_nil : encs [] = [] := rfl
theorem encs_snoc (zs : List Int) (z : Int) : encs (zs ++ [z]) = encs zs ++ enc z := by unfold encs; rw [List.flatMap_append]; simp
theorem encs_bs (zs : List Int) : Bs (encs zs) := by
  intro x hx
  unfold encs at hx
  rw [List.mem_flatMap] at hx
  obtain ⟨z, _, hz⟩ := hx
  exact enc_bs z x hz
theorem encs_len (zs : List Int) : (encs zs).length ≤ 6 * zs.length := by
  induction zs with
  | nil => simp [encs]
  | cons z zs ih =>
    have : encs (z :: zs) = enc z ++ encs zs := by unfold encs; simp
    rw [this, List.length_append, List.length_cons]
    have := enc_len z
    omega

/-- The numbers that are read in k rounds from a place on, and the place behind them. -/
def decK (l : List Int) (off : Int) : Nat → Option (List Int × Int)
  | 0 => some ([], off)
  | k + 1 => match decK l off k with
    | none => none
    | some (zs, o) => match rd l o with
      | none => none
      | some (n, j) => some (zs ++ [n], (j : Int))
theorem decK_zero (l : List Int) (off : Int) : decK l off 0 = some ([], off) := rfl
theorem decK_step {l : List Int} {off o : Int} {k : Nat} {zs : List Int} {n : Int} {j : Nat} (h : decK l off k = some (zs, o)) (hr : rd l o = some (n, j)) : decK l off (k + 1) = some (zs ++ [n], (j : Int)) := by
  rw [decK, h]; simp only; rw [hr]
theorem decK_stop {l : List Int} {off o : Int} {k : Nat} {zs : List Int} (h : decK l off k = some (zs, o)) (hr : rd l o = none) : decK l off (k + 1) = none := by
  rw [decK, h]; simp only; rw [hr]
theorem decK_none {l : List Int} {off : Int} {k m : Nat} (h : decK l off k = none) (hm : k ≤ m) : decK l off m = none := by
  obtain ⟨d, rfl⟩ : ∃ d, m = k + d := ⟨m - k, by omega⟩
  induction d with
  | zero => exact h
  | succ d ih => rw [show k + (d + 1) = (k + d) + 1 by omega, decK, ih (by omega)]
theorem decK_len {l : List Int} {off o : Int} {k : Nat} {zs : List Int} (h : decK l off k = some (zs, o)) : zs.length = k := by
  induction k generalizing zs o with
  | zero => rw [decK] at h; cases h; rfl
  | succ k ih =>
    rw [decK] at h
    split at h
    · cases h
    · rename_i zs' o' h'
      split at h
      · cases h
      · cases h
        simp [ih h']
theorem decK_at {l : List Int} {off o : Int} {k : Nat} {zs : List Int} (hb : Bs l) (h0 : 0 ≤ off) (h1 : off ≤ l.length) (h : decK l off k = some (zs, o)) : 0 ≤ o ∧ o ≤ l.length ∧ ∀ z ∈ zs, 0 ≤ z ∧ z ≤ 1000000000000 := by
  induction k generalizing zs o with
  | zero => rw [decK] at h; cases h; exact ⟨h0, h1, fun _ h => by cases h⟩
  | succ k ih =>
    rw [decK] at h
    split at h
    · cases h
    · rename_i zs' o' h'
      split at h
      · cases h
      · rename_i n j hr
        cases h
        have f := rd_facts hb hr
        refine ⟨by omega, by omega, fun z hz => ?_⟩
        rcases List.mem_append.1 hz with hz | hz
        · exact (ih h').2.2 z hz
        · simp at hz
          subst hz
          exact ⟨f.2.2.2.1, f.2.2.2.2.1⟩
/-- What is written is read, all of it; and nothing more is there. -/
theorem decK_encs (zs : List Int) (hz : ∀ z ∈ zs, 0 ≤ z ∧ z ≤ 1000000000000) : ∀ k, k ≤ zs.length → decK (encs zs) 0 k = some (zs.take k, ((encs (zs.take k)).length : Int)) := by
  intro k
  induction k with
  | zero => intro _; rfl
  | succ k ih =>
    intro hk
    have hlt : k < zs.length := by omega
    have hd : zs = zs.take k ++ (zs[k] :: zs.drop (k + 1)) := by rw [List.getElem_cons_drop, List.take_append_drop]
    have he : encs zs = encs (zs.take k) ++ (enc zs[k] ++ encs (zs.drop (k + 1))) := by
      conv => lhs; rw [hd]
      unfold encs
      rw [List.flatMap_append, List.flatMap_cons]
    have hzk := hz zs[k] (List.getElem_mem hlt)
    have hr := rd_enc (encs (zs.take k)) (encs (zs.drop (k + 1))) zs[k] hzk.1 hzk.2
    rw [← he] at hr
    rw [decK_step (ih (by omega)) hr, List.take_succ_eq_append_getElem hlt, encs_snoc, List.length_append]
theorem decK_all (zs : List Int) (hz : ∀ z ∈ zs, 0 ≤ z ∧ z ≤ 1000000000000) : decK (encs zs) 0 zs.length = some (zs, ((encs zs).length : Int)) := by
  have h := decK_encs zs hz zs.length (Nat.le_refl _)
  rwa [List.take_length] at h
theorem decK_more (zs : List Int) (hz : ∀ z ∈ zs, 0 ≤ z ∧ z ≤ 1000000000000) : decK (encs zs) 0 (zs.length + 1) = none := decK_stop (decK_all zs hz) (rd_end _)
end Go.Proofs.Ytjkjnhkamieljaa
