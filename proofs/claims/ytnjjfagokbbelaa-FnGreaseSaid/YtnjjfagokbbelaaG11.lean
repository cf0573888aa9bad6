/- The parts of an extension, and an extension, read off the cursor: by the program. Extensions read off the cursor, one behind the other, and a list of integers decoded: by the program. A list of integers is decoded into extensions: by the model. Chapter 9 by the program and by the model: what the exact laws take. Ranges as facts, and which tags are reserved: by the program and by the model. -/
import Derived.Test.YtnjjfagokbbelaaG8
import Derived.Test.YtnjjfagokbbelaaG9
import Derived.Test.YtnjjfagokbbelaaG2
import Derived.Test.YtnjjfagokbbelaaG3
import Derived.Deep.RegionHeld3
import Derived.Test.YtnjjfagokbbelaaG10
import Derived.Test.YtnjjfagokbbelaaG7
import Derived.Deep.QuietTactic
import Derived.BigQuiet
import Derived.StillTailTactics
import Derived.Handy
namespace Go.Proofs.Ytnjjfagokbbelaa
open Go.ChangeShapes Go.WideShapes Go.ChangeAt Go.RowKit
set_option linter.unusedVariables false
set_option linter.unusedSimpArgs false

/-- What is left by a part that is not read, by a number that is, by a body that is. -/
def PtNo (g : Nat) (w : World) (e : Ending) (w' : World) : Prop := e = .returned .nilIface ∧ w.grownBy w' (some g)
def PtNum (g : Nat) (b : Option Addr) (m d : Nat) (z : Int) (k' : Nat) (w : World) (e : Ending) (w' : World) : Prop :=
  e = .returned (.iface 3 (.int .i64 z)) ∧ Cur w' g b m d k' ∧ w.grownBy w' (some g)
def PtRow (g : Nat) (b : Option Addr) (m d : Nat) (it : List Int) (k' : Nat) (w : World) (e : Ending) (w' : World) : Prop :=
  ∃ p q r, e = .returned (.iface 26 (.slice p q r)) ∧ Own .i64 3 w' w.heap.size p q r it ∧ Cur w' g b m d k' ∧ w.grownBy w' (some g)
theorem rf_none {x : Fd} {y : List Int} {g : Nat} {b : Option Addr} {m d k : Nat} {w : World} (h : rdF x y k = none)
    (hc : Calls Try.prog 103 #[.pointer (some ⟨g, 0, none⟩), x.val] w (RfTold 3 g b m d x y k w)) :
    Calls Try.prog 103 #[.pointer (some ⟨g, 0, none⟩), x.val] w (Rdn g w) := by
  unfold RfTold at hc
  rw [h] at hc
  exact hc
theorem rf_some {x : Fd} {y : List Int} {g : Nat} {b : Option Addr} {m d k k' : Nat} {v : Vl} {w : World} (h : rdF x y k = some (v, k'))
    (hc : Calls Try.prog 103 #[.pointer (some ⟨g, 0, none⟩), x.val] w (RfTold 3 g b m d x y k w)) :
    Calls Try.prog 103 #[.pointer (some ⟨g, 0, none⟩), x.val] w (fun e w' => ∃ p q r, e = .returned (.tuple #[.agg #[.int .i64 v.num, .slice p q r], .bool true]) ∧ Own .i64 3 w' w.heap.size p q r v.items ∧ Cur w' g b m d k' ∧ w.grownBy w' (some g)) := by
  unfold RfTold at hc
  rw [h] at hc
  exact hc
set_option maxHeartbeats 2000000 in
set_option maxRecDepth 100000 in
theorem readPart_no {x : Fd} {ch : Int} {y : List Int} {g : Nat} {b : Option Addr} {m d k : Nat} {w : World} (hp : ∀ w0, Calls Try.prog 84 #[.int .i32 ch] w0 (Told x.val w0)) (hz : rdF x y k = none)
    (hr : ∀ w0, Below w.heap.size w w0 → Calls Try.prog 103 #[.pointer (some ⟨g, 0, none⟩), x.val] w0 (RfTold 3 g b m d x y k w0)) :
    Calls Try.prog 86 #[.pointer (some ⟨g, 0, none⟩), .int .i32 ch] w (PtNo g w) := by
  have KP := Lib.hid (hp w)
  have KR := Lib.hid (fun w0 (hb : Below w.heap.size w w0) => rf_none hz (hr w0 hb))
  clear hp hr hz
  unfold Rdn at KR
  go_enter Try.func86, Try.ntmps86
  go_wp2_with fail
  refine KP.out.mono ?_
  rintro e w1 ⟨rfl, hb1⟩
  have HB1 := Lib.hid hb1
  clear hb1
  go_wp2_with fail
  refine (KR.out w1 HB1.out).mono ?_
  rintro e w2 ⟨rfl, hg2⟩
  have HG2 := Lib.hid ((grown_below HB1.out (some g)).trans hg2)
  clear hg2
  go_wp2_with fail
  go_ret
  exact ⟨rfl, HG2.out.trans (grown_below (alloc_same _ _) _)⟩
set_option maxHeartbeats 2000000 in
set_option maxRecDepth 100000 in
theorem readPart_num {x : Fd} {ch : Int} {y : List Int} {g : Nat} {b : Option Addr} {m d k k' : Nat} {v : Vl} {w : World} (hch : (ch == 98) = false) (hp : ∀ w0, Calls Try.prog 84 #[.int .i32 ch] w0 (Told x.val w0)) (hz : rdF x y k = some (v, k'))
    (hr : ∀ w0, Below w.heap.size w w0 → Calls Try.prog 103 #[.pointer (some ⟨g, 0, none⟩), x.val] w0 (RfTold 3 g b m d x y k w0)) :
    Calls Try.prog 86 #[.pointer (some ⟨g, 0, none⟩), .int .i32 ch] w (PtNum g b m d v.num k' w) := by
  have KP := Lib.hid (hp w)
  have KR := Lib.hid (fun w0 (hb : Below w.heap.size w w0) => rf_some hz (hr w0 hb))
  clear hp hr hz
  go_enter Try.func86, Try.ntmps86
  go_wp2_with fail
  refine KP.out.mono ?_
  rintro e w1 ⟨rfl, hb1⟩
  have HB1 := Lib.hid hb1
  clear hb1
  go_wp2_with fail
  refine (KR.out w1 HB1.out).mono ?_
  rintro e w2 ⟨p, q, r, rfl, ho2, hc2, hg2⟩
  have HG2 := Lib.hid ((grown_below HB1.out (some g)).trans hg2)
  have HC2 := Lib.hid hc2
  clear hg2 hc2 ho2
  go_wp2_with fail
  go_ret
  exact ⟨rfl, HC2.out.same (alloc_same _ _), HG2.out.trans (grown_below (alloc_same _ _) _)⟩
set_option maxHeartbeats 2000000 in
set_option maxRecDepth 100000 in
theorem readPart_row {x : Fd} {y : List Int} {g : Nat} {b : Option Addr} {m d k k' : Nat} {v : Vl} {w : World} (hp : ∀ w0, Calls Try.prog 84 #[.int .i32 98] w0 (Told x.val w0)) (hz : rdF x y k = some (v, k'))
    (hr : ∀ w0, Below w.heap.size w w0 → Calls Try.prog 103 #[.pointer (some ⟨g, 0, none⟩), x.val] w0 (RfTold 3 g b m d x y k w0)) :
    Calls Try.prog 86 #[.pointer (some ⟨g, 0, none⟩), .int .i32 98] w (PtRow g b m d v.items k' w) := by
  have KP := Lib.hid (hp w)
  have KR := Lib.hid (fun w0 (hb : Below w.heap.size w w0) => rf_some hz (hr w0 hb))
  clear hp hr hz
  go_enter Try.func86, Try.ntmps86
  go_wp2_with fail
  refine KP.out.mono ?_
  rintro e w1 ⟨rfl, hb1⟩
  have HB1 := Lib.hid hb1
  clear hb1
  go_wp2_with fail
  refine (KR.out w1 HB1.out).mono ?_
  rintro e w2 ⟨p, q, r, rfl, ho2, hc2, hg2⟩
  have HG2 := Lib.hid ((grown_below HB1.out (some g)).trans hg2)
  have HC2 := Lib.hid hc2
  have HO2 := Lib.hid (ho2.lower HB1.out.size)
  clear hg2 hc2 ho2
  go_wp2_with fail
  go_ret
  exact ⟨_, _, _, rfl, HO2.out.same (alloc_same _ _), HC2.out.same (alloc_same _ _), HG2.out.trans (grown_below (alloc_same _ _) _)⟩
theorem is_int (z : Int) (w : World) : (Instr.typeAssert (.iface 3 (.int .i64 z)) 20 3 true).run Try.prog w = .ok (.tuple #[.int .i64 z, .bool true]) w := by kernel_rfl
theorem is_row (p : Option Addr) (q r : Nat) (w : World) : (Instr.typeAssert (.iface 26 (.slice p q r)) 20 26 true).run Try.prog w = .ok (.tuple #[.slice p q r, .bool true]) w := by kernel_rfl
theorem not_int (w : World) : (Instr.typeAssert .nilIface 20 3 true).run Try.prog w = .ok (.tuple #[.int .i64 0, .bool false]) w := by kernel_rfl
theorem not_row (w : World) : (Instr.typeAssert .nilIface 20 26 true).run Try.prog w = .ok (.tuple #[.slice none 0 0, .bool false]) w := by kernel_rfl
set_option maxHeartbeats 4000000 in
set_option maxRecDepth 100000 in
theorem readExt_no1 (g : Nat) (b : Option Addr) (m d k : Nat) (y : List Int) (w : World) (h : Cur w g b m d k) (hv : Fix w g b m y) (hd : m ≤ d ∧ (d : Int) ≤ 9223372036854775807) (hm : m ≤ 1000000000) (hk : k ≤ m) (h1 : rdF fdT y k = none) :
    Calls Try.prog 87 #[.pointer (some ⟨g, 0, none⟩)] w (Rdn g w) := by
  have hgl := h.lt
  have hb0 := alloc_same w (.cells #[.int .i64 0, .slice none 0 0] 57)
  have hM := heap_alloc_new w (.cells #[.int .i64 0, .slice none 0 0] 57)
  have hsz : w.heap.size + 1 = (w.alloc (.cells #[.int .i64 0, .slice none 0 0] 57)).heap.size := by simp
  have h0 := h.same hb0
  have hv0 := hv.same hb0
  have HB0 := Lib.hid hb0
  have KT := Lib.hid (readPart_no (w := w.alloc (.cells #[.int .i64 0, .slice none 0 0] 57)) partTag h1 (fun w0 hb => readField_any fdT g b m d k y w0 (h0.same hb) (hv0.same hb) hd hm hk (Or.inl rfl)))
  have NI := not_int
  unfold PtNo at KT
  unfold Rdn
  clear h hv h0 hv0 hb0 h1
  go_enter Try.func87, Try.ntmps87
  go_wp2_with fail
  generalize w.alloc (.cells #[.int .i64 0, .slice none 0 0] 57) = W0 at *
  refine KT.out.mono ?_
  rintro e w1 ⟨rfl, hg1⟩
  have hM1 : w1.heap[w.heap.size]? = some (.cells #[.int .i64 0, .slice none 0 0] 57 (0, 0)) := by rw [hg1.block _ (by omega) (by simp; omega)]; exact hM
  have HG1 := Lib.hid ((grown_below HB0.out (some g)).trans hg1)
  clear hM hg1
  obtain ⟨m0, m1, g0, g1⟩ := two_cells hM1
  obtain ⟨z0, z1, hZ⟩ := two_put hM1 (.int .i64 0) (.slice none 0 0)
  clear hM1 hZ
  go_wp2_with fail
  (try simp only [Exit.inBlock, Exit.then])
  refine bodyPost_ret (by simp [results, Try.results87, go_sem, z0, z1]; try rfl) rfl ?_
  exact ⟨rfl, grown_set2 HG1.out (by omega) _ _⟩
set_option maxHeartbeats 4000000 in
set_option maxRecDepth 100000 in
theorem readExt_no2 (g : Nat) (b : Option Addr) (m d k k1 : Nat) (y : List Int) (w : World) (h : Cur w g b m d k) (hv : Fix w g b m y) (hd : m ≤ d ∧ (d : Int) ≤ 9223372036854775807) (hm : m ≤ 1000000000) (hk : k ≤ m) (t : Vl) (hk1 : k1 ≤ m) (h1 : rdF fdT y k = some (t, k1)) (h2 : rdF fdB y k1 = none) :
    Calls Try.prog 87 #[.pointer (some ⟨g, 0, none⟩)] w (Rdn g w) := by
  have hgl := h.lt
  have hb0 := alloc_same w (.cells #[.int .i64 0, .slice none 0 0] 57)
  have hM := heap_alloc_new w (.cells #[.int .i64 0, .slice none 0 0] 57)
  have hsz : w.heap.size + 1 = (w.alloc (.cells #[.int .i64 0, .slice none 0 0] 57)).heap.size := by simp
  have h0 := h.same hb0
  have hv0 := hv.same hb0
  have HB0 := Lib.hid hb0
  have KT := Lib.hid (readPart_num (w := w.alloc (.cells #[.int .i64 0, .slice none 0 0] 57)) (by decide) partTag h1 (fun w0 hb => readField_any fdT g b m d k y w0 (h0.same hb) (hv0.same hb) hd hm hk (Or.inl rfl)))
  have NI := is_int t.num
  have HV := Lib.hid hv0
  unfold PtNum at KT
  have NR := not_row
  unfold Rdn
  clear h hv h0 hv0 hb0 h1
  go_enter Try.func87, Try.ntmps87
  go_wp2_with fail
  generalize w.alloc (.cells #[.int .i64 0, .slice none 0 0] 57) = W0 at *
  refine KT.out.mono ?_
  rintro e w1 ⟨rfl, hc1, hg1⟩
  have hs1 : w.heap.size + 1 ≤ w1.heap.size := by have := hg1.size; omega
  have hM1 : w1.heap[w.heap.size]? = some (.cells #[.int .i64 0, .slice none 0 0] 57 (0, 0)) := by rw [hg1.block _ (by omega) (by simp; omega)]; exact hM
  have HG1 := Lib.hid ((grown_below HB0.out (some g)).trans hg1)
  have KB := Lib.hid (readPart_no (w := w1) partBody h2 (fun w0 hb => readField_any fdB g b m d k1 y w0 (hc1.same hb) ((HV.out.on hg1).same hb) hd hm hk1 (Or.inr (Or.inl rfl))))
  unfold PtNo at KB
  clear hM hg1 hc1
  go_wp2_with fail
  refine KB.out.mono ?_
  rintro e w2 ⟨rfl, hg2⟩
  have hM2 : w2.heap[w.heap.size]? = some (.cells #[.int .i64 0, .slice none 0 0] 57 (0, 0)) := by rw [hg2.block _ (by omega) (by simp; omega)]; exact hM1
  have HG2 := Lib.hid (HG1.out.trans hg2)
  clear hM1 hg2
  obtain ⟨m0, m1, g0, g1⟩ := two_cells hM2
  obtain ⟨z0, z1, hZ⟩ := two_put hM2 (.int .i64 0) (.slice none 0 0)
  clear hM2 hZ
  go_wp2_with fail
  (try simp only [Exit.inBlock, Exit.then])
  refine bodyPost_ret (by simp [results, Try.results87, go_sem, z0, z1]; try rfl) rfl ?_
  exact ⟨rfl, grown_set2 HG2.out (by omega) _ _⟩
set_option maxHeartbeats 4000000 in
set_option maxRecDepth 100000 in
theorem readExt_yes (g : Nat) (b : Option Addr) (m d k k1 k2 : Nat) (y : List Int) (w : World) (h : Cur w g b m d k) (hv : Fix w g b m y) (hd : m ≤ d ∧ (d : Int) ≤ 9223372036854775807) (hm : m ≤ 1000000000) (hk : k ≤ m) (t v : Vl) (hk1 : k1 ≤ m) (h1 : rdF fdT y k = some (t, k1)) (h2 : rdF fdB y k1 = some (v, k2)) :
    Calls Try.prog 87 #[.pointer (some ⟨g, 0, none⟩)] w (fun e w' => ∃ p q r, e = .returned (.tuple #[.agg #[.int .i64 t.num, .slice p q r], .bool true]) ∧ Own .i64 3 w' w.heap.size p q r v.items ∧ Cur w' g b m d k2 ∧ w.grownBy w' (some g)) := by
  have hgl := h.lt
  have hb0 := alloc_same w (.cells #[.int .i64 0, .slice none 0 0] 57)
  have hM := heap_alloc_new w (.cells #[.int .i64 0, .slice none 0 0] 57)
  have hsz : w.heap.size + 1 = (w.alloc (.cells #[.int .i64 0, .slice none 0 0] 57)).heap.size := by simp
  have h0 := h.same hb0
  have hv0 := hv.same hb0
  have HB0 := Lib.hid hb0
  have KT := Lib.hid (readPart_num (w := w.alloc (.cells #[.int .i64 0, .slice none 0 0] 57)) (by decide) partTag h1 (fun w0 hb => readField_any fdT g b m d k y w0 (h0.same hb) (hv0.same hb) hd hm hk (Or.inl rfl)))
  have NI := is_int t.num
  have HV := Lib.hid hv0
  unfold PtNum at KT
  have NR := is_row
  clear h hv h0 hv0 hb0 h1
  go_enter Try.func87, Try.ntmps87
  go_wp2_with fail
  generalize w.alloc (.cells #[.int .i64 0, .slice none 0 0] 57) = W0 at *
  refine KT.out.mono ?_
  rintro e w1 ⟨rfl, hc1, hg1⟩
  have hs1 : w.heap.size + 1 ≤ w1.heap.size := by have := hg1.size; omega
  have hM1 : w1.heap[w.heap.size]? = some (.cells #[.int .i64 0, .slice none 0 0] 57 (0, 0)) := by rw [hg1.block _ (by omega) (by simp; omega)]; exact hM
  have HG1 := Lib.hid ((grown_below HB0.out (some g)).trans hg1)
  have KB := Lib.hid (readPart_row (w := w1) partBody h2 (fun w0 hb => readField_any fdB g b m d k1 y w0 (hc1.same hb) ((HV.out.on hg1).same hb) hd hm hk1 (Or.inr (Or.inl rfl))))
  unfold PtRow at KB
  clear hM hg1 hc1
  go_wp2_with fail
  refine KB.out.mono ?_
  rintro e w2 ⟨p, q, r, rfl, ho2, hc2, hg2⟩
  have hM2 : w2.heap[w.heap.size]? = some (.cells #[.int .i64 0, .slice none 0 0] 57 (0, 0)) := by rw [hg2.block _ (by omega) (by simp; omega)]; exact hM1
  have HG2 := Lib.hid (HG1.out.trans hg2)
  have HC2 := Lib.hid hc2
  have HO2 := Lib.hid (ho2.lower (B' := w.heap.size) (by omega))
  have HOUT : Hid (∀ ad, p = some ad → ad.block ≠ w.heap.size) := Lib.hid (fun ad e => by have := (ho2.span ad e).1; omega)
  clear hM1 hg2 hc2 ho2
  obtain ⟨m0, m1, g0, g1⟩ := two_cells hM2
  obtain ⟨z0, z1, hZ⟩ := two_put hM2 (.int .i64 t.num) (.slice p q r)
  clear hM2 hZ
  go_wp2_with fail
  (try simp only [Exit.inBlock, Exit.then])
  refine bodyPost_ret (by simp [results, Try.results87, go_sem, z0, z1]; try rfl) rfl ?_
  exact ⟨p, q, r, rfl, (HO2.out.set HOUT.out _ _).set HOUT.out _ _, HC2.out.set2 (by omega) _ _, grown_set2 HG2.out (by omega) _ _⟩
/-- What is left by the reading of one extension. -/
def RxTold (tI : TypeId) (g : Nat) (b : Option Addr) (m d : Nat) (y : List Int) (k : Nat) (w : World) (e : Ending) (w' : World) : Prop :=
  match rdX y k with
  | none => Rdn g w e w'
  | some (x, k') => ∃ p q r, e = .returned (.tuple #[.agg #[.int .i64 x.num, .slice p q r], .bool true]) ∧ Own .i64 tI w' w.heap.size p q r x.items ∧ Cur w' g b m d k' ∧ w.grownBy w' (some g)
theorem readExt_any (g : Nat) (b : Option Addr) (m d k : Nat) (y : List Int) (w : World) (h : Cur w g b m d k) (hv : Fix w g b m y) (hd : m ≤ d ∧ (d : Int) ≤ 9223372036854775807) (hm : m ≤ 1000000000) (hk : k ≤ m) :
    Calls Try.prog 87 #[.pointer (some ⟨g, 0, none⟩)] w (RxTold 3 g b m d y k w) := by
  have hyl := hv.len
  unfold RxTold rdX
  cases h1 : rdF fdT y k with
  | none => exact readExt_no1 g b m d k y w h hv hd hm hk h1
  | some p =>
    obtain ⟨t, k1⟩ := p
    have hk1 : k1 ≤ m := by have := (rdF_form h1).2.1; omega
    dsimp only
    cases h2 : rdF fdB y k1 with
    | none => exact readExt_no2 g b m d k k1 y w h hv hd hm hk t hk1 h1 h2
    | some q =>
      obtain ⟨v, k2⟩ := q
      exact readExt_yes g b m d k k1 k2 y w h hv hd hm hk t v hk1 h1 h2
end Go.Proofs.Ytnjjfagokbbelaa
namespace Go.Proofs.Ytnjjfagokbbelaa
open Go.ChangeShapes Go.WideShapes Go.ChangeAt Go.RowKit
set_option linter.unusedVariables false
set_option linter.unusedSimpArgs false

theorem rdXs_stop {b : List Int} {j : Nat} (h : rdXs b j = none) : ∀ q, j ≤ q → rdXs b q = none
  | 0, hq => by
    obtain rfl : j = 0 := by omega
    exact h
  | q + 1, hq => by
    by_cases e : j = q + 1
    · rw [← e]; exact h
    · rw [rdXs, rdXs_stop h q (by omega)]
theorem rdXs_step {b : List Int} {j k : Nat} {l : List Vl} (h : rdXs b j = some (l, k)) : rdXs b (j + 1) = (rdX b k).map fun p => (l ++ [p.1], p.2) := by rw [rdXs, h]
theorem grown_then {n : Nat} {w W w' : World} {row : Option Nat} (h : w.grownBy W row) (hb : Below n W w') (hn : w.heap.size ≤ n) (hs : n ≤ W.heap.size) : w.grownBy w' row :=
  ⟨hb.os.trans h.os, hb.tape.trans h.tape, hb.output.trans h.output, Nat.le_trans h.size hb.size, fun i hi hr => (hb.block i (by omega)).trans (h.block i hi hr)⟩
/-- What is left by the reading of all extensions. -/
def RaTold (tO tI : TypeId) (g : Nat) (b : Option Addr) (m d : Nat) (o : Option (List Vl × Nat)) (w : World) (e : Ending) (w' : World) : Prop :=
  match o with
  | none => e = .returned (.tuple #[.slice none 0 0, .bool false]) ∧ w.grownBy w' (some g)
  | some (l, k) => ∃ q n c, e = .returned (.tuple #[.slice q n c, .bool true]) ∧ OwnV tO tI w' w.heap.size q n c l ∧ Cur w' g b m d k ∧ w.grownBy w' (some g)
set_option maxHeartbeats 4000000 in
set_option maxRecDepth 100000 in
theorem readExts_no (g : Nat) (b : Option Addr) (m d : Nat) (y : List Int) (w : World) (h : Cur w g b m d 0) (hv : Fix w g b m y) (hd : m ≤ d ∧ (d : Int) ≤ 9223372036854775807) (hm : m ≤ 1000000000) (h1 : rdF fdN y 0 = none) :
    Calls Try.prog 51 #[.pointer (some ⟨g, 0, none⟩)] w (RaTold 57 3 g b m d none w) := by
  have KT := Lib.hid (readPart_no (w := w) partCount h1 (fun w0 hb => readField_any fdN g b m d 0 y w0 (h.same hb) (hv.same hb) hd hm (Nat.zero_le _) (Or.inl rfl)))
  have NI := not_int
  unfold PtNo at KT
  unfold RaTold
  clear h hv h1
  go_enter Try.func51, Try.ntmps51
  go_wp2_with fail
  refine KT.out.mono ?_
  rintro e w1 ⟨rfl, hg1⟩
  have HG1 := Lib.hid hg1
  clear hg1
  go_wp2_with fail
  go_ret2
  exact ⟨rfl, HG1.out⟩
set_option maxHeartbeats 4000000 in
set_option maxRecDepth 100000 in
theorem readExts_yes (g : Nat) (b : Option Addr) (m d N : Nat) (y : List Int) (w : World) (h : Cur w g b m d 0) (hv : Fix w g b m y) (hd : m ≤ d ∧ (d : Int) ≤ 9223372036854775807) (hm : m ≤ 1000000000) (hN : N ≤ 6) (h1 : rdF fdN y 0 = some (⟨(N : Int), []⟩, 1)) (hy1 : y.take 1 = [(N : Int)]) :
    Calls Try.prog 51 #[.pointer (some ⟨g, 0, none⟩)] w (RaTold 57 3 g b m d (rdXs y N) w) := by
  have hgl := h.lt
  have KT := Lib.hid (readPart_num (w := w) (by decide) partCount h1 (fun w0 hb => readField_any fdN g b m d 0 y w0 (h.same hb) (hv.same hb) hd hm (Nat.zero_le _) (Or.inl rfl)))
  have NI := is_int (N : Int)
  have HV := Lib.hid hv
  have hyl := hv.len
  have HF := Lib.hid (fun (j k : Nat) (l : List Vl) (hr : rdXs y j = some (l, k)) => (rdXs_form hy1 j l k hr))
  have HS := Lib.hid (fun (j : Nat) (hj : j ≤ N) (hr : rdXs y j = none) => rdXs_stop hr N hj)
  have HD := Lib.hid hd
  obtain ⟨i0, hi, hz0, hz1, hz2⟩ := info_parts infoExtS
  have HI := Lib.hid (And.intro hi (And.intro hz0 (And.intro hz1 hz2)))
  unfold PtNum at KT
  clear h hv h1 hi hz0 hz1 hz2 hy1 hd
  dsimp only at KT
  go_enter Try.func51, Try.ntmps51
  go_wp2_with fail
  refine KT.out.mono ?_
  rintro e w1 ⟨rfl, hc1, hg1⟩
  have HC1 := Lib.hid hc1
  have HG1 := Lib.hid hg1
  have hs1 := hg1.size
  clear hc1 hg1 KT
  go_wp2_with (with_reducible refine wpList_make_own _ rfl (.const (.int .i64 0)) (.tmp 17) 24 rfl w.heap.size 57 i0 (.agg #[.int .i64 0, .slice none 0 0]) 2 Try.underlying24 HI.out.1 HI.out.2.1 HI.out.2.2.1 .i64 .i64 _ N rfl rfl rfl ?c1 ?c2 ?c3 ?_)
  case c1 => rw [HI.out.2.2.2]; omega
  case c2 => unfold maxLen; omega
  case c3 => exact hs1
  intro w2 hown hgrow
  have HO2 : Hid (OwnV 57 3 w2 w.heap.size (some ⟨w1.heap.size, 0, none⟩) 0 N []) := Lib.hid ⟨[], ⟨rfl, hown⟩, rfl, fun j g x h => by simp at h, fun i j h k _ h' => by simp at h'⟩
  have hb2 : Below w1.heap.size w1 w2 := (Below.refl _ w1).grown hgrow (Nat.le_refl _) (fun _ e => by cases e)
  have HC2 := Lib.hid (HC1.out.same hb2)
  have HG2 := Lib.hid (HG1.out.trans (grown_below hb2 (some g)))
  clear hown hgrow hb2
  go_wp2_with fail
  go_loopw [6, 20] (fun v i wr => ∃ (j k : Nat) (l : List Vl) (q : Option Addr) (e : Nat), j ≤ N ∧ i = .int .i64 j ∧ v = .slice q j e ∧ rdXs y j = some (l, k) ∧ OwnV 57 3 wr w.heap.size q j e l ∧ Cur wr g b m d k ∧ w.grownBy wr (some g)) (fun _ i _ => N - (intOf i).toNat)
  case atStart => exact ⟨0, 1, [], _, _, Nat.zero_le _, rfl, rfl, rfl, HO2.out, HC2.out, HG2.out⟩
  case round =>
    obtain ⟨j, k, l, q, e, hj, rfl, rfl, hr, hown, hc, hg⟩ := hrel
    have HOr := Lib.hid hown
    have HCr := Lib.hid hc
    have HGr := Lib.hid hg
    have hk : k ≤ m := by have := (HF.out j k l hr).2.1; omega
    have hst := rdXs_step hr
    have HR := Lib.hid hr
    have hsr := hg.size
    clear hown hc hg hr
    by_cases hlt : j < N
    · have KX := readExt_any g b m d k y wr HCr.out (HV.out.on HGr.out) HD.out hm hk
      unfold RxTold at KX
      cases hx : rdX y k with
      | none =>
        rw [hx] at KX hst
        have HE := Lib.hid (HS.out (j + 1) (by omega) (by rw [hst]; rfl))
        have KX := Lib.hid KX
        unfold Rdn at KX
        clear hx hst
        go_wp2_with fail
        refine KX.out.mono ?_
        rintro e3 w3 ⟨rfl, hg3⟩
        have HG3 := Lib.hid (HGr.out.trans hg3)
        clear hg3
        go_wp2_with fail
        go_ret2
        rw [HE.out]
        exact ⟨rfl, HG3.out.trans (grown_below (alloc_same _ _) _)⟩
      | some p =>
        obtain ⟨x, k2⟩ := p
        rw [hx] at KX hst
        obtain ⟨xn, xi⟩ := x
        have HE : Hid (rdXs y (j + 1) = some (l ++ [⟨xn, xi⟩], k2)) := Lib.hid (by rw [hst]; rfl)
        have KX := Lib.hid KX
        clear hx hst
        dsimp only at KX
        go_wp2_with fail
        refine KX.out.mono ?_
        rintro e3 w3 ⟨p3, q3, r3, rfl, ho3, hc3, hg3⟩
        have HO3 := Lib.hid ho3
        have HC3 := Lib.hid hc3
        have HG3 := Lib.hid (HGr.out.trans hg3)
        have HL3 := Lib.hid (HOr.out.lim.far hg3 (fun r e => by cases e; exact Or.inl hgl))
        have hs3 := hg3.size
        have HNN : Hid (Items Vh.enc 2 ((w3.alloc (.cells #[.int .i64 xn, .slice p3 q3 r3] 57)).alloc (.cells #[.int .i64 xn, .slice p3 q3 r3] 57)) (some ⟨w3.heap.size + 1, 0, none⟩) 1 [⟨xn, p3, q3, r3⟩]) := Lib.hid (by
          have : Items Vh.enc 2 ((w3.alloc (.cells #[.int .i64 xn, .slice p3 q3 r3] 57)).alloc (.cells #[.int .i64 xn, .slice p3 q3 r3] 57)) (some ⟨(w3.alloc (.cells #[.int .i64 xn, .slice p3 q3 r3] 57)).heap.size, 0, none⟩) 1 [⟨xn, p3, q3, r3⟩] := items_new Vh.enc_len (w3.alloc (.cells #[.int .i64 xn, .slice p3 q3 r3] 57)) ⟨xn, p3, q3, r3⟩ 57
          simpa using this)
        clear ho3 hc3 hg3
        go_wp2_with (at_builtin; refine wpl_appV (S := wr.heap.size) (B := w.heap.size) _ rfl (.tmp 29) (.tmp 31) 24 rfl 57 3 i0 (.agg #[.int .i64 0, .slice none 0 0]) 32 Try.underlying24 HI.out.1 HI.out.2.1 HI.out.2.2.1 HI.out.2.2.2 rfl rfl ((HL3.out.same (alloc_same _ _)).same (alloc_same _ _)) rfl HNN.out (((HO3.out.lower hsr).alloc _).alloc _) (fun ad e => (HO3.out.span ad e).1) (by omega) ?c4 ?c5 ?_)
        case c4 => omega
        case c5 => simp; omega
        intro a4 c4 w4 ho4 hb4
        have HO4 := Lib.hid ho4
        have hW : Below w3.heap.size w3 ((w3.alloc (.cells #[.int .i64 xn, .slice p3 q3 r3] 57)).alloc (.cells #[.int .i64 xn, .slice p3 q3 r3] 57)) := ((Below.refl _ w3).alloc (Nat.le_refl _) _).alloc (by simp) _
        have HC4 : Hid (Cur w4 g b m d k2) := Lib.hid ((hb4.block g hgl).trans (HC3.out.same hW))
        have HG4 : Hid (w.grownBy w4 (some g)) := Lib.hid (grown_then (HG3.out.trans (grown_below hW (some g))) hb4 (Nat.le_refl _) (by simp; omega))
        clear ho4 hb4 hW
        go_wp2_with fail
        go_roundw
        case rel => exact ⟨j + 1, k2, _, a4, c4, by omega, by go_num, rfl, HE.out, HO4.out, HC4.out, HG4.out⟩
        case measure => simp [intOf]; omega
    · obtain rfl : j = N := by omega
      go_wp2_with fail
      go_ret2
      rw [HR.out]
      exact ⟨_, _, _, rfl, HOr.out, HCr.out, HGr.out⟩
theorem readExts_any (g : Nat) (b : Option Addr) (m d : Nat) (y : List Int) (w : World) (h : Cur w g b m d 0) (hv : Fix w g b m y) (hd : m ≤ d ∧ (d : Int) ≤ 9223372036854775807) (hm : m ≤ 1000000000) :
    Calls Try.prog 51 #[.pointer (some ⟨g, 0, none⟩)] w (RaTold 57 3 g b m d (rdAll y) w) := by
  unfold rdAll
  cases h1 : rdF fdN y 0 with
  | none => exact readExts_no g b m d y w h hv hd hm h1
  | some p =>
    obtain ⟨⟨cn, ci⟩, k0⟩ := p
    have f := rdF_form h1
    have q := rdF_kind1 (x := fdN) rfl h1
    dsimp only at f q ⊢
    obtain ⟨rfl, rfl⟩ := q
    rw [fitsN] at f
    have hc : 0 ≤ cn ∧ cn ≤ 6 := by simpa using f.2.2.2
    obtain ⟨N, rfl⟩ : ∃ N : Nat, cn = N := ⟨cn.toNat, by omega⟩
    rw [Int.toNat_natCast]
    exact readExts_yes g b m d N y w h hv hd hm (by omega) h1 (by rw [show (1 : Nat) = 0 + 1 from rfl, f.2.2.1]; rfl)
def decL (y : List Int) : List Vl := (decX y).getD []
def decOk (y : List Int) : Bool := (decX y).isSome
theorem dec_none {y : List Int} (h : decX y = none) : decL y = [] ∧ decOk y = false := by unfold decL decOk; rw [h]; exact ⟨rfl, rfl⟩
theorem dec_some {y : List Int} {l : List Vl} (h : decX y = some l) : decL y = l ∧ decOk y = true := by unfold decL decOk; rw [h]; exact ⟨rfl, rfl⟩
theorem decL_few (y : List Int) : (decL y).length ≤ 6 ∧ itemsOf (decL y) ≤ 24 := by
  cases h : decX y with
  | none => rw [(dec_none h).1]; simp [itemsOf]
  | some l => rw [(dec_some h).1]; exact decX_few h
/-- What is left by a function that decodes extensions. -/
def DxTold (tO tI : TypeId) (y : List Int) (w : World) (e : Ending) (w' : World) : Prop :=
  ∃ q n c, e = .returned (.tuple #[.slice q n c, .bool (decOk y)]) ∧ OwnV tO tI w' w.heap.size q n c (decL y) ∧ Below w.heap.size w w'
set_option maxHeartbeats 4000000 in
set_option maxRecDepth 100000 in
theorem decodeExts_any {b : Option Addr} {m d : Nat} {y : List Int} {w : World} (hv : Nums .i64 w b m y) (hd : m ≤ d ∧ (d : Int) ≤ 9223372036854775807) (hm : m ≤ 1000000000) :
    Calls Try.prog 15 #[.slice b m d] w (DxTold 57 3 y w) := by
  have hyl := Lib.hid hv.len
  have hb0 := alloc_same w (.cells #[.slice b m d, .int .i64 0] 66)
  have hC0 : Cur (w.alloc (.cells #[.slice b m d, .int .i64 0] 66)) w.heap.size b m d 0 := heap_alloc_new w _
  have hF0 : Fix (w.alloc (.cells #[.slice b m d, .int .i64 0] 66)) w.heap.size b m y := fun w' hg => hv.same (hb0.grown hg (by simp) (fun j e => by cases e; exact Nat.le_refl _))
  have KA := Lib.hid (readExts_any w.heap.size b m d y _ hC0 hF0 hd hm)
  have HB0 := Lib.hid hb0
  have hs0 := hb0.size
  unfold RaTold at KA
  unfold DxTold
  clear hv hC0 hF0 hb0
  cases hr : rdAll y with
  | none =>
    rw [hr] at KA
    have HE := Lib.hid (dec_none (y := y) (by unfold decX; rw [hr]))
    clear hr
    dsimp only at KA
    go_enter Try.func15, Try.ntmps15
    go_wp2_with fail
    refine KA.out.mono ?_
    rintro e w1 ⟨rfl, hg1⟩
    have HB1 := Lib.hid (HB0.out.grown hg1 hs0 (fun j e => by cases e; exact Nat.le_refl _))
    clear hg1 KA
    go_wp2_with fail
    go_ret2
    exact ⟨_, _, _, by rw [HE.out.2]; rfl, by rw [HE.out.1]; exact OwnV.empty HB1.out.size, HB1.out.alloc HB1.out.size _⟩
  | some p =>
    obtain ⟨l, k⟩ := p
    rw [hr] at KA
    dsimp only at KA
    by_cases hk : k = m
    · subst hk
      cases ha : areX l with
      | true =>
        have HE := Lib.hid (dec_some (y := y) (l := l) (by unfold decX; rw [hr]; dsimp only; rw [if_pos ⟨hyl.out.symm, ha⟩]))
        go_enter Try.func15, Try.ntmps15
        go_wp2_with fail
        refine KA.out.mono ?_
        rintro e w1 ⟨q, n, c, rfl, ho1, hc1, hg1⟩
        have HB1 := Lib.hid (HB0.out.grown hg1 hs0 (fun j e => by cases e; exact Nat.le_refl _))
        have HO1 := Lib.hid (ho1.lower hs0)
        have KV := Lib.hid (areExts_any (c := c) ho1.vals)
        rw [ha] at KV
        obtain ⟨c0, c1, _, _⟩ := two_cells hc1
        clear hg1 KA hr ha ho1 hc1
        go_wp2_with (go_at_call 14; refine KV.out.mono ?_; rintro e w2 ⟨rfl, hb2⟩; have HB2 := Lib.hid hb2; clear hb2)
        go_ret2
        exact ⟨_, _, _, by rw [HE.out.2]; rfl, by rw [HE.out.1]; exact HO1.out.same HB2.out, HB1.out.trans (HB2.out.mono HB1.out.size)⟩
      | false =>
        have HE := Lib.hid (dec_none (y := y) (by unfold decX; rw [hr]; dsimp only; rw [if_neg (fun h => by rw [ha] at h; cases h.2)]))
        go_enter Try.func15, Try.ntmps15
        go_wp2_with fail
        refine KA.out.mono ?_
        rintro e w1 ⟨q, n, c, rfl, ho1, hc1, hg1⟩
        have HB1 := Lib.hid (HB0.out.grown hg1 hs0 (fun j e => by cases e; exact Nat.le_refl _))
        have KV := Lib.hid (areExts_any (c := c) ho1.vals)
        rw [ha] at KV
        obtain ⟨c0, c1, _, _⟩ := two_cells hc1
        clear hg1 KA hr ha ho1 hc1
        go_wp2_with (go_at_call 14; refine KV.out.mono ?_; rintro e w2 ⟨rfl, hb2⟩; have HB2 := Lib.hid (HB1.out.trans (hb2.mono HB1.out.size)); clear hb2)
        go_ret2
        exact ⟨_, _, _, by rw [HE.out.2]; rfl, by rw [HE.out.1]; exact OwnV.empty HB2.out.size, HB2.out.alloc HB2.out.size _⟩
    · have HE := Lib.hid (dec_none (y := y) (by unfold decX; rw [hr]; dsimp only; rw [if_neg (fun h => hk (h.1.trans hyl.out))]))
      have hkm : ((k : Int) != (m : Int)) = true := by simp; omega
      go_enter Try.func15, Try.ntmps15
      go_wp2_with fail
      refine KA.out.mono ?_
      rintro e w1 ⟨q, n, c, rfl, ho1, hc1, hg1⟩
      have HB1 := Lib.hid (HB0.out.grown hg1 hs0 (fun j e => by cases e; exact Nat.le_refl _))
      obtain ⟨c0, c1, _, _⟩ := two_cells hc1
      clear hg1 KA hr ho1 hc1
      go_wp2_with fail
      go_ret2
      exact ⟨_, _, _, by rw [HE.out.2]; rfl, by rw [HE.out.1]; exact OwnV.empty HB1.out.size, HB1.out.alloc HB1.out.size _⟩
end Go.Proofs.Ytnjjfagokbbelaa
namespace Go.Proofs.Ytnjjfagokbbelaa
open Go.ChangeShapes Go.WideShapes Go.ChangeAt Go.RowKit
set_option linter.unusedVariables false
set_option linter.unusedSimpArgs false

theorem codesX_pre : ∀ (out l : List Vl) (r : List Int), codesX l = codesX out ++ r → ∃ l', l = out ++ l' ∧ r = codesX l'
  | [], l, r, h => ⟨l, rfl, by simpa [codesX] using h.symm⟩
  | x :: o, [], r, h => by simp [codesX, codeX] at h
  | x :: o, z :: l, r, h => by
    obtain ⟨xn, xi⟩ := x
    obtain ⟨zn, zi⟩ := z
    rw [codesX_cons, codesX_cons] at h
    simp only [codeX, List.cons_append, List.append_assoc, List.cons.injEq] at h
    obtain ⟨rfl, h2, h3⟩ := h
    have hl : zi.length = xi.length := by omega
    obtain ⟨rfl, h4⟩ := List.append_inj h3 hl
    obtain ⟨l', rfl, h5⟩ := codesX_pre o l r h4
    exact ⟨l', rfl, h5⟩
/-- What stands behind what was read decides. -/
theorem decX_behind {y : List Int} {k : Nat} {c : Int} {out : List Vl} (hk : y.take k = c :: codesX out) {l : List Vl} (h : decX y = some l) : c = (l.length : Int) ∧ ∃ l', l = out ++ l' ∧ y.drop k = codesX l' := by
  have h2 := (decX_iff.1 h).2
  have h3 : encX l = (c :: codesX out) ++ y.drop k := by rw [← h2, ← hk, List.take_append_drop]
  unfold encX at h3
  simp only [List.cons_append, List.cons.injEq] at h3
  obtain ⟨l', h4, h5⟩ := codesX_pre out l _ h3.2
  exact ⟨h3.1.symm, l', h4, h5⟩
theorem dec_bad {y : List Int} {k : Nat} {c z : Int} {out : List Vl} (hk : y.take k = c :: codesX out) (h1 : k + 1 < y.length) (hz : y[k + 1]? = some z) (h : ¬ (0 ≤ z ∧ z ≤ (y.length : Int) - k - 2)) : decX y = none := by
  cases e : decX y with
  | none => rfl
  | some l =>
    exfalso
    obtain ⟨_, l', _, h5⟩ := decX_behind hk e
    have hl := congrArg List.length h5
    rw [List.length_drop, codesX_len] at hl
    have hz2 : (y.drop k)[1]? = some z := by rw [List.getElem?_drop]; exact hz
    rw [h5] at hz2
    cases l' with
    | nil => simp [codesX] at hz2
    | cons x t =>
      rw [codesX_cons] at hz2 h5
      have hx : z = (x.items.length : Int) := by
        simp [codeX] at hz2
        exact hz2.symm
      have h6 := congrArg List.length h5
      rw [List.length_drop, List.length_append, codeX_len] at h6
      omega
theorem dec_odd {y : List Int} {k : Nat} {c : Int} {out : List Vl} (hk : y.take k = c :: codesX out) (h1 : k + 1 = y.length) : decX y = none := by
  cases e : decX y with
  | none => rfl
  | some l =>
    exfalso
    obtain ⟨_, l', _, h5⟩ := decX_behind hk e
    have hl := congrArg List.length h5
    rw [List.length_drop, codesX_len] at hl
    cases l' with
    | nil => simp [itemsOf] at hl; omega
    | cons x t => simp at hl; omega
theorem dec_all {y : List Int} {c : Int} {out : List Vl} (hk : y = c :: codesX out) : decX y = if c = (out.length : Int) ∧ areX out = true then some out else none := by
  by_cases h : c = (out.length : Int) ∧ areX out = true
  · rw [if_pos h, decX_iff]
    exact ⟨h.2, by rw [hk, h.1]; rfl⟩
  · rw [if_neg h]
    cases e : decX y with
    | none => rfl
    | some l =>
      exfalso
      obtain ⟨h1, l', h4, h5⟩ := decX_behind (k := y.length) (by rw [List.take_length]; exact hk) e
      rw [List.drop_length] at h5
      have hl' : l' = [] := by
        cases l' with
        | nil => rfl
        | cons x t => rw [codesX_cons] at h5; simp [codeX] at h5
      rw [hl', List.append_nil] at h4
      subst h4
      exact h ⟨h1, (decX_iff.1 e).1⟩
theorem dec_step {y : List Int} {k q : Nat} {c t : Int} {out : List Vl} (hk : y.take k = c :: codesX out) (ht : y[k]? = some t) (hz : y[k + 1]? = some (q : Int)) (h : k + 2 + q ≤ y.length) : y.take (k + 2 + q) = c :: codesX (out ++ [⟨t, (y.drop (k + 2)).take q⟩]) := by
  have h1 : y.take (k + 2) = y.take k ++ [t, (q : Int)] := by
    rw [List.take_add_one, List.take_add_one, ht, hz]
    simp
  have h2 : y.take (k + 2 + q) = y.take (k + 2) ++ (y.drop (k + 2)).take q := by rw [List.take_add]
  rw [h2, h1, hk, codesX_app, codesX_one]
  have hl : ((y.drop (k + 2)).take q).length = q := by rw [List.length_take, List.length_drop]; omega
  simp [codeX, hl]
end Go.Proofs.Ytnjjfagokbbelaa
namespace Go.Proofs.Ytnjjfagokbbelaa
open Go.ChangeShapes Go.WideShapes Go.ChangeAt Go.RowKit
set_option linter.unusedVariables false

theorem told_same {P : Program} {f : Nat} {args : Array Value} {v : Value} {w : World} (h : Calls P f args w fun e w' => e = .returned v ∧ w = w') : Calls P f args w (Told v w) :=
  h.mono fun e w' ⟨e1, e2⟩ => ⟨e1, by rw [← e2]; exact Below.refl _ _⟩
theorem tags_ok {l : List Vl} (h : ∀ x ∈ l, x.wf) : ∀ z ∈ tagsX l, (Lit.int .i64 z).wf = true := by
  intro z hz
  obtain ⟨x, hx, rfl⟩ := List.mem_map.1 hz
  exact (h x hx).1
end Go.Proofs.Ytnjjfagokbbelaa
namespace Go.Proofs.Ytnjjfagokbbelaa
open Go.ChangeShapes Go.WideShapes Go.ChangeAt Go.RowKit
set_option linter.unusedVariables false

def inB (n l h : Int) : Bool := decide (l ≤ n ∧ n ≤ h)
theorem inB_yes {n l h : Int} (h1 : l ≤ n) (h2 : n ≤ h) : inB n l h = true := decide_eq_true ⟨h1, h2⟩
theorem inB_no {n l h : Int} (h1 : ¬ (l ≤ n ∧ n ≤ h)) : inB n l h = false := decide_eq_false h1
theorem inB_iff {n l h : Int} : inB n l h = true ↔ l ≤ n ∧ n ≤ h := by unfold inB; exact decide_eq_true_iff
/-- A reserved tag. -/
def resv (t : Int) : Bool := inB t 0 255 && (t % 16 == 10)
theorem resv_in {t : Int} (h : resv t = true) : 0 ≤ t ∧ t ≤ 255 := by
  unfold resv at h
  rw [Bool.and_eq_true] at h
  exact inB_iff.1 h.1
theorem inR_b (n l h : Int) (w : World) : Calls Try.prog 70 #[.int .i64 n, .int .i64 l, .int .i64 h] w fun e w' => e = .returned (.bool (inB n l h)) ∧ w' = w := (inR_any n l h w).mono fun e' w' ⟨h1, h2⟩ => ⟨h1, h2.symm⟩
theorem l1R_b (n l h : Int) (w : World) : Calls Try.prog 98 #[.int .i64 n, .int .i64 l, .int .i64 h] w fun e w' => e = .returned (.bool (inB n l h)) ∧ w' = w := (l1R_any n l h w).mono fun e' w' ⟨h1, h2⟩ => ⟨h1, h2.symm⟩
set_option maxHeartbeats 1000000 in
set_option maxRecDepth 100000 in
theorem isReserved_any (t : Int) (w : World) : Calls Try.prog 27 #[.int .i64 t] w fun e w' => e = .returned (.bool (resv t)) ∧ w' = w := by
  have H := inR_b t 0 255
  by_cases h : 0 ≤ t ∧ t ≤ 255
  · have hb : inB t 0 255 = true := inB_yes h.1 h.2
    have hr : resv t = (t % 16 == 10) := by unfold resv; rw [hb]; rfl
    rw [hr]
    rw [hb] at H
    have h0 := h.1
    have h9 := h.2
    have hm : t.tmod 16 = t % 16 := Int.tmod_eq_emod_of_nonneg h0
    clear hb hr
    go_enter Try.func27, Try.ntmps27
    go_wp2_with (go_at_call 70; refine (H _).mono ?_; rintro e w' ⟨rfl, rfl⟩)
    go_ret
    simp
  · have hb : inB t 0 255 = false := inB_no h
    have hr : resv t = false := by unfold resv; rw [hb]; rfl
    rw [hr]
    rw [hb] at H
    clear hb hr
    go_enter Try.func27, Try.ntmps27
    go_wp2_with (go_at_call 70; refine (H _).mono ?_; rintro e w' ⟨rfl, rfl⟩)
    go_ret
    simp
set_option maxHeartbeats 1000000 in
set_option maxRecDepth 100000 in
theorem specIsReserved_any (t : Int) (w : World) : Calls Try.prog 82 #[.int .i64 t] w fun e w' => e = .returned (.bool (resv t)) ∧ w' = w := by
  have H := l1R_b t 0 255
  by_cases h : 0 ≤ t ∧ t ≤ 255
  · have hb : inB t 0 255 = true := inB_yes h.1 h.2
    have hr : resv t = (t % 16 == 10) := by unfold resv; rw [hb]; rfl
    rw [hr]
    rw [hb] at H
    have h0 := h.1
    have h9 := h.2
    have hm : t.tmod 16 = t % 16 := Int.tmod_eq_emod_of_nonneg h0
    clear hb hr
    go_enter Try.func82, Try.ntmps82
    go_wp2_with (go_at_call 98; refine (H _).mono ?_; rintro e w' ⟨rfl, rfl⟩)
    go_ret
    simp
  · have hb : inB t 0 255 = false := inB_no h
    have hr : resv t = false := by unfold resv; rw [hb]; rfl
    rw [hr]
    rw [hb] at H
    clear hb hr
    go_enter Try.func82, Try.ntmps82
    go_wp2_with (go_at_call 98; refine (H _).mono ?_; rintro e w' ⟨rfl, rfl⟩)
    go_ret
    simp
end Go.Proofs.Ytnjjfagokbbelaa
