/- The parts of an extension, and an extension, read off the cursor: by the program. Extensions read off the cursor, one behind the other, and a list of integers decoded: by the program. A hello is read: by the program. The extensions whose tags are asked for, by the program: what it asks is a function that may have captured a variable. -/
import Derived.Test.YtcpnchjgklemgaaG11
import Derived.Test.YtcpnchjgklemgaaG13
import Derived.Test.YtcpnchjgklemgaaG4
import Derived.Test.YtcpnchjgklemgaaG20
import Derived.Test.YtcpnchjgklemgaaG14
namespace Go.Proofs.Ytcpnchjgklemgaa
open Go.ChangeShapes Go.WideShapes Go.ChangeAt Go.RowKit
set_option linter.unusedVariables false
set_option linter.unusedSimpArgs false

/-- What is left by a part that is not read, by a number that is, by a body that is. -/
def PtNo (g : Nat) (w : World) (e : Ending) (w' : World) : Prop := e = .returned .nilIface ∧ w.grownBy w' (some g)
def PtNum (g : Nat) (b : Option Addr) (m d : Nat) (z : Int) (k' : Nat) (w : World) (e : Ending) (w' : World) : Prop :=
  e = .returned (.iface 3 (.int .i64 z)) ∧ Cur w' g b m d k' ∧ w.grownBy w' (some g)
def PtRow (g : Nat) (b : Option Addr) (m d : Nat) (it : List Int) (k' : Nat) (w : World) (e : Ending) (w' : World) : Prop :=
  ∃ p q r, e = .returned (.iface 24 (.slice p q r)) ∧ Own .i64 3 w' w.heap.size p q r it ∧ Cur w' g b m d k' ∧ w.grownBy w' (some g)
theorem rf_none {x : Fd} {y : List Int} {g : Nat} {b : Option Addr} {m d k : Nat} {w : World} (h : rdF x y k = none)
    (hc : Calls Try.prog 128 #[.pointer (some ⟨g, 0, none⟩), x.val] w (RfTold 3 g b m d x y k w)) :
    Calls Try.prog 128 #[.pointer (some ⟨g, 0, none⟩), x.val] w (Rdn g w) := by
  unfold RfTold at hc
  rw [h] at hc
  exact hc
theorem rf_some {x : Fd} {y : List Int} {g : Nat} {b : Option Addr} {m d k k' : Nat} {v : Vl} {w : World} (h : rdF x y k = some (v, k'))
    (hc : Calls Try.prog 128 #[.pointer (some ⟨g, 0, none⟩), x.val] w (RfTold 3 g b m d x y k w)) :
    Calls Try.prog 128 #[.pointer (some ⟨g, 0, none⟩), x.val] w (fun e w' => ∃ p q r, e = .returned (.tuple #[.agg #[.int .i64 v.num, .slice p q r], .bool true]) ∧ Own .i64 3 w' w.heap.size p q r v.items ∧ Cur w' g b m d k' ∧ w.grownBy w' (some g)) := by
  unfold RfTold at hc
  rw [h] at hc
  exact hc
set_option maxHeartbeats 2000000 in
set_option maxRecDepth 100000 in
theorem readPart_no {x : Fd} {ch : Int} {y : List Int} {g : Nat} {b : Option Addr} {m d k : Nat} {w : World} (hp : ∀ w0, Calls Try.prog 124 #[.int .i32 ch] w0 (Told x.val w0)) (hz : rdF x y k = none)
    (hr : ∀ w0, Below w.heap.size w w0 → Calls Try.prog 128 #[.pointer (some ⟨g, 0, none⟩), x.val] w0 (RfTold 3 g b m d x y k w0)) :
    Calls Try.prog 121 #[.pointer (some ⟨g, 0, none⟩), .int .i32 ch] w (PtNo g w) := by
  have KP := Lib.hid (hp w)
  have KR := Lib.hid (fun w0 (hb : Below w.heap.size w w0) => rf_none hz (hr w0 hb))
  clear hp hr hz
  unfold Rdn at KR
  go_enter Try.func121, Try.ntmps121
  go_wp2_with fail
  refine KP.out.mono ?_
  rintro e w1 ⟨rfl, hb1⟩
  have HB1 := Lib.hid hb1
  clear hb1
  go_wp2_with fail
  refine (KR.out w1 HB1.out).mono ?_
  rintro e w2 ⟨rfl, hg2⟩
  have HG2 := Lib.hid ((grown_below HB1.out (some g)).trans hg2)
  clear hg2
  go_wp2_with fail
  go_ret
  exact ⟨rfl, HG2.out.trans (grown_below (alloc_same _ _) _)⟩
set_option maxHeartbeats 2000000 in
set_option maxRecDepth 100000 in
theorem readPart_num {x : Fd} {ch : Int} {y : List Int} {g : Nat} {b : Option Addr} {m d k k' : Nat} {v : Vl} {w : World} (hch : (ch == 98) = false) (hp : ∀ w0, Calls Try.prog 124 #[.int .i32 ch] w0 (Told x.val w0)) (hz : rdF x y k = some (v, k'))
    (hr : ∀ w0, Below w.heap.size w w0 → Calls Try.prog 128 #[.pointer (some ⟨g, 0, none⟩), x.val] w0 (RfTold 3 g b m d x y k w0)) :
    Calls Try.prog 121 #[.pointer (some ⟨g, 0, none⟩), .int .i32 ch] w (PtNum g b m d v.num k' w) := by
  have KP := Lib.hid (hp w)
  have KR := Lib.hid (fun w0 (hb : Below w.heap.size w w0) => rf_some hz (hr w0 hb))
  clear hp hr hz
  go_enter Try.func121, Try.ntmps121
  go_wp2_with fail
  refine KP.out.mono ?_
  rintro e w1 ⟨rfl, hb1⟩
  have HB1 := Lib.hid hb1
  clear hb1
  go_wp2_with fail
  refine (KR.out w1 HB1.out).mono ?_
  rintro e w2 ⟨p, q, r, rfl, ho2, hc2, hg2⟩
  have HG2 := Lib.hid ((grown_below HB1.out (some g)).trans hg2)
  have HC2 := Lib.hid hc2
  clear hg2 hc2 ho2
  go_wp2_with fail
  go_ret
  exact ⟨rfl, HC2.out.same (alloc_same _ _), HG2.out.trans (grown_below (alloc_same _ _) _)⟩
set_option maxHeartbeats 2000000 in
set_option maxRecDepth 100000 in
theorem readPart_row {x : Fd} {y : List Int} {g : Nat} {b : Option Addr} {m d k k' : Nat} {v : Vl} {w : World} (hp : ∀ w0, Calls Try.prog 124 #[.int .i32 98] w0 (Told x.val w0)) (hz : rdF x y k = some (v, k'))
    (hr : ∀ w0, Below w.heap.size w w0 → Calls Try.prog 128 #[.pointer (some ⟨g, 0, none⟩), x.val] w0 (RfTold 3 g b m d x y k w0)) :
    Calls Try.prog 121 #[.pointer (some ⟨g, 0, none⟩), .int .i32 98] w (PtRow g b m d v.items k' w) := by
  have KP := Lib.hid (hp w)
  have KR := Lib.hid (fun w0 (hb : Below w.heap.size w w0) => rf_some hz (hr w0 hb))
  clear hp hr hz
  go_enter Try.func121, Try.ntmps121
  go_wp2_with fail
  refine KP.out.mono ?_
  rintro e w1 ⟨rfl, hb1⟩
  have HB1 := Lib.hid hb1
  clear hb1
  go_wp2_with fail
  refine (KR.out w1 HB1.out).mono ?_
  rintro e w2 ⟨p, q, r, rfl, ho2, hc2, hg2⟩
  have HG2 := Lib.hid ((grown_below HB1.out (some g)).trans hg2)
  have HC2 := Lib.hid hc2
  have HO2 := Lib.hid (ho2.lower HB1.out.size)
  clear hg2 hc2 ho2
  go_wp2_with fail
  go_ret
  exact ⟨_, _, _, rfl, HO2.out.same (alloc_same _ _), HC2.out.same (alloc_same _ _), HG2.out.trans (grown_below (alloc_same _ _) _)⟩
theorem is_int (z : Int) (w : World) : (Instr.typeAssert (.iface 3 (.int .i64 z)) 20 3 true).run Try.prog w = .ok (.tuple #[.int .i64 z, .bool true]) w := by kernel_rfl
theorem is_row (p : Option Addr) (q r : Nat) (w : World) : (Instr.typeAssert (.iface 24 (.slice p q r)) 20 24 true).run Try.prog w = .ok (.tuple #[.slice p q r, .bool true]) w := by kernel_rfl
theorem not_int (w : World) : (Instr.typeAssert .nilIface 20 3 true).run Try.prog w = .ok (.tuple #[.int .i64 0, .bool false]) w := by kernel_rfl
theorem not_row (w : World) : (Instr.typeAssert .nilIface 20 24 true).run Try.prog w = .ok (.tuple #[.slice none 0 0, .bool false]) w := by kernel_rfl
set_option maxHeartbeats 4000000 in
set_option maxRecDepth 100000 in
theorem readExt_no1 (g : Nat) (b : Option Addr) (m d k : Nat) (y : List Int) (w : World) (h : Cur w g b m d k) (hv : Fix w g b m y) (hd : m ≤ d ∧ (d : Int) ≤ 9223372036854775807) (hm : m ≤ 1000000000) (hk : k ≤ m) (h1 : rdF fdT y k = none) :
    Calls Try.prog 122 #[.pointer (some ⟨g, 0, none⟩)] w (Rdn g w) := by
  have hgl := h.lt
  have hb0 := alloc_same w (.cells #[.int .i64 0, .slice none 0 0] 99)
  have hM := heap_alloc_new w (.cells #[.int .i64 0, .slice none 0 0] 99)
  have hsz : w.heap.size + 1 = (w.alloc (.cells #[.int .i64 0, .slice none 0 0] 99)).heap.size := by simp
  have h0 := h.same hb0
  have hv0 := hv.same hb0
  have HB0 := Lib.hid hb0
  have KT := Lib.hid (readPart_no (w := w.alloc (.cells #[.int .i64 0, .slice none 0 0] 99)) partTag h1 (fun w0 hb => readField_any fdT g b m d k y w0 (h0.same hb) (hv0.same hb) hd hm hk (Or.inl rfl)))
  have NI := not_int
  unfold PtNo at KT
  unfold Rdn
  clear h hv h0 hv0 hb0 h1
  go_enter Try.func122, Try.ntmps122
  go_wp2_with fail
  generalize w.alloc (.cells #[.int .i64 0, .slice none 0 0] 99) = W0 at *
  refine KT.out.mono ?_
  rintro e w1 ⟨rfl, hg1⟩
  have hM1 : w1.heap[w.heap.size]? = some (.cells #[.int .i64 0, .slice none 0 0] 99 (0, 0)) := by rw [hg1.block _ (by omega) (by simp; omega)]; exact hM
  have HG1 := Lib.hid ((grown_below HB0.out (some g)).trans hg1)
  clear hM hg1
  obtain ⟨m0, m1, g0, g1⟩ := two_cells hM1
  obtain ⟨z0, z1, hZ⟩ := two_put hM1 (.int .i64 0) (.slice none 0 0)
  clear hM1 hZ
  go_wp2_with fail
  (try simp only [Exit.inBlock, Exit.then])
  refine bodyPost_ret (by simp [results, Try.results122, go_sem, z0, z1]; try rfl) rfl ?_
  exact ⟨rfl, grown_set2 HG1.out (by omega) _ _⟩
set_option maxHeartbeats 4000000 in
set_option maxRecDepth 100000 in
theorem readExt_no2 (g : Nat) (b : Option Addr) (m d k k1 : Nat) (y : List Int) (w : World) (h : Cur w g b m d k) (hv : Fix w g b m y) (hd : m ≤ d ∧ (d : Int) ≤ 9223372036854775807) (hm : m ≤ 1000000000) (hk : k ≤ m) (t : Vl) (hk1 : k1 ≤ m) (h1 : rdF fdT y k = some (t, k1)) (h2 : rdF fdB y k1 = none) :
    Calls Try.prog 122 #[.pointer (some ⟨g, 0, none⟩)] w (Rdn g w) := by
  have hgl := h.lt
  have hb0 := alloc_same w (.cells #[.int .i64 0, .slice none 0 0] 99)
  have hM := heap_alloc_new w (.cells #[.int .i64 0, .slice none 0 0] 99)
  have hsz : w.heap.size + 1 = (w.alloc (.cells #[.int .i64 0, .slice none 0 0] 99)).heap.size := by simp
  have h0 := h.same hb0
  have hv0 := hv.same hb0
  have HB0 := Lib.hid hb0
  have KT := Lib.hid (readPart_num (w := w.alloc (.cells #[.int .i64 0, .slice none 0 0] 99)) (by decide) partTag h1 (fun w0 hb => readField_any fdT g b m d k y w0 (h0.same hb) (hv0.same hb) hd hm hk (Or.inl rfl)))
  have NI := is_int t.num
  have HV := Lib.hid hv0
  unfold PtNum at KT
  have NR := not_row
  unfold Rdn
  clear h hv h0 hv0 hb0 h1
  go_enter Try.func122, Try.ntmps122
  go_wp2_with fail
  generalize w.alloc (.cells #[.int .i64 0, .slice none 0 0] 99) = W0 at *
  refine KT.out.mono ?_
  rintro e w1 ⟨rfl, hc1, hg1⟩
  have hs1 : w.heap.size + 1 ≤ w1.heap.size := by have := hg1.size; omega
  have hM1 : w1.heap[w.heap.size]? = some (.cells #[.int .i64 0, .slice none 0 0] 99 (0, 0)) := by rw [hg1.block _ (by omega) (by simp; omega)]; exact hM
  have HG1 := Lib.hid ((grown_below HB0.out (some g)).trans hg1)
  have KB := Lib.hid (readPart_no (w := w1) partBody h2 (fun w0 hb => readField_any fdB g b m d k1 y w0 (hc1.same hb) ((HV.out.on hg1).same hb) hd hm hk1 (Or.inr (Or.inl rfl))))
  unfold PtNo at KB
  clear hM hg1 hc1
  go_wp2_with fail
  refine KB.out.mono ?_
  rintro e w2 ⟨rfl, hg2⟩
  have hM2 : w2.heap[w.heap.size]? = some (.cells #[.int .i64 0, .slice none 0 0] 99 (0, 0)) := by rw [hg2.block _ (by omega) (by simp; omega)]; exact hM1
  have HG2 := Lib.hid (HG1.out.trans hg2)
  clear hM1 hg2
  obtain ⟨m0, m1, g0, g1⟩ := two_cells hM2
  obtain ⟨z0, z1, hZ⟩ := two_put hM2 (.int .i64 0) (.slice none 0 0)
  clear hM2 hZ
  go_wp2_with fail
  (try simp only [Exit.inBlock, Exit.then])
  refine bodyPost_ret (by simp [results, Try.results122, go_sem, z0, z1]; try rfl) rfl ?_
  exact ⟨rfl, grown_set2 HG2.out (by omega) _ _⟩
set_option maxHeartbeats 4000000 in
set_option maxRecDepth 100000 in
theorem readExt_yes (g : Nat) (b : Option Addr) (m d k k1 k2 : Nat) (y : List Int) (w : World) (h : Cur w g b m d k) (hv : Fix w g b m y) (hd : m ≤ d ∧ (d : Int) ≤ 9223372036854775807) (hm : m ≤ 1000000000) (hk : k ≤ m) (t v : Vl) (hk1 : k1 ≤ m) (h1 : rdF fdT y k = some (t, k1)) (h2 : rdF fdB y k1 = some (v, k2)) :
    Calls Try.prog 122 #[.pointer (some ⟨g, 0, none⟩)] w (fun e w' => ∃ p q r, e = .returned (.tuple #[.agg #[.int .i64 t.num, .slice p q r], .bool true]) ∧ Own .i64 3 w' w.heap.size p q r v.items ∧ Cur w' g b m d k2 ∧ w.grownBy w' (some g)) := by
  have hgl := h.lt
  have hb0 := alloc_same w (.cells #[.int .i64 0, .slice none 0 0] 99)
  have hM := heap_alloc_new w (.cells #[.int .i64 0, .slice none 0 0] 99)
  have hsz : w.heap.size + 1 = (w.alloc (.cells #[.int .i64 0, .slice none 0 0] 99)).heap.size := by simp
  have h0 := h.same hb0
  have hv0 := hv.same hb0
  have HB0 := Lib.hid hb0
  have KT := Lib.hid (readPart_num (w := w.alloc (.cells #[.int .i64 0, .slice none 0 0] 99)) (by decide) partTag h1 (fun w0 hb => readField_any fdT g b m d k y w0 (h0.same hb) (hv0.same hb) hd hm hk (Or.inl rfl)))
  have NI := is_int t.num
  have HV := Lib.hid hv0
  unfold PtNum at KT
  have NR := is_row
  clear h hv h0 hv0 hb0 h1
  go_enter Try.func122, Try.ntmps122
  go_wp2_with fail
  generalize w.alloc (.cells #[.int .i64 0, .slice none 0 0] 99) = W0 at *
  refine KT.out.mono ?_
  rintro e w1 ⟨rfl, hc1, hg1⟩
  have hs1 : w.heap.size + 1 ≤ w1.heap.size := by have := hg1.size; omega
  have hM1 : w1.heap[w.heap.size]? = some (.cells #[.int .i64 0, .slice none 0 0] 99 (0, 0)) := by rw [hg1.block _ (by omega) (by simp; omega)]; exact hM
  have HG1 := Lib.hid ((grown_below HB0.out (some g)).trans hg1)
  have KB := Lib.hid (readPart_row (w := w1) partBody h2 (fun w0 hb => readField_any fdB g b m d k1 y w0 (hc1.same hb) ((HV.out.on hg1).same hb) hd hm hk1 (Or.inr (Or.inl rfl))))
  unfold PtRow at KB
  clear hM hg1 hc1
  go_wp2_with fail
  refine KB.out.mono ?_
  rintro e w2 ⟨p, q, r, rfl, ho2, hc2, hg2⟩
  have hM2 : w2.heap[w.heap.size]? = some (.cells #[.int .i64 0, .slice none 0 0] 99 (0, 0)) := by rw [hg2.block _ (by omega) (by simp; omega)]; exact hM1
  have HG2 := Lib.hid (HG1.out.trans hg2)
  have HC2 := Lib.hid hc2
  have HO2 := Lib.hid (ho2.lower (B' := w.heap.size) (by omega))
  have HOUT : Hid (∀ ad, p = some ad → ad.block ≠ w.heap.size) := Lib.hid (fun ad e => by have := (ho2.span ad e).1; omega)
  clear hM1 hg2 hc2 ho2
  obtain ⟨m0, m1, g0, g1⟩ := two_cells hM2
  obtain ⟨z0, z1, hZ⟩ := two_put hM2 (.int .i64 t.num) (.slice p q r)
  clear hM2 hZ
  go_wp2_with fail
  (try simp only [Exit.inBlock, Exit.then])
  refine bodyPost_ret (by simp [results, Try.results122, go_sem, z0, z1]; try rfl) rfl ?_
  exact ⟨p, q, r, rfl, (HO2.out.set HOUT.out _ _).set HOUT.out _ _, HC2.out.set2 (by omega) _ _, grown_set2 HG2.out (by omega) _ _⟩
/-- What is left by the reading of one extension. -/
def RxTold (tI : TypeId) (g : Nat) (b : Option Addr) (m d : Nat) (y : List Int) (k : Nat) (w : World) (e : Ending) (w' : World) : Prop :=
  match rdX y k with
  | none => Rdn g w e w'
  | some (x, k') => ∃ p q r, e = .returned (.tuple #[.agg #[.int .i64 x.num, .slice p q r], .bool true]) ∧ Own .i64 tI w' w.heap.size p q r x.items ∧ Cur w' g b m d k' ∧ w.grownBy w' (some g)
theorem readExt_any (g : Nat) (b : Option Addr) (m d k : Nat) (y : List Int) (w : World) (h : Cur w g b m d k) (hv : Fix w g b m y) (hd : m ≤ d ∧ (d : Int) ≤ 9223372036854775807) (hm : m ≤ 1000000000) (hk : k ≤ m) :
    Calls Try.prog 122 #[.pointer (some ⟨g, 0, none⟩)] w (RxTold 3 g b m d y k w) := by
  have hyl := hv.len
  unfold RxTold rdX
  cases h1 : rdF fdT y k with
  | none => exact readExt_no1 g b m d k y w h hv hd hm hk h1
  | some p =>
    obtain ⟨t, k1⟩ := p
    have hk1 : k1 ≤ m := by have := (rdF_form h1).2.1; omega
    dsimp only
    cases h2 : rdF fdB y k1 with
    | none => exact readExt_no2 g b m d k k1 y w h hv hd hm hk t hk1 h1 h2
    | some q =>
      obtain ⟨v, k2⟩ := q
      exact readExt_yes g b m d k k1 k2 y w h hv hd hm hk t v hk1 h1 h2
end Go.Proofs.Ytcpnchjgklemgaa
namespace Go.Proofs.Ytcpnchjgklemgaa
open Go.ChangeShapes Go.WideShapes Go.ChangeAt Go.RowKit
set_option linter.unusedVariables false
set_option linter.unusedSimpArgs false

theorem rdXs_stop {b : List Int} {j : Nat} (h : rdXs b j = none) : ∀ q, j ≤ q → rdXs b q = none
  | 0, hq => by
    obtain rfl : j = 0 := by omega
    exact h
  | q + 1, hq => by
    by_cases e : j = q + 1
    · rw [← e]; exact h
    · rw [rdXs, rdXs_stop h q (by omega)]
theorem rdXs_step {b : List Int} {j k : Nat} {l : List Vl} (h : rdXs b j = some (l, k)) : rdXs b (j + 1) = (rdX b k).map fun p => (l ++ [p.1], p.2) := by rw [rdXs, h]
theorem grown_then {n : Nat} {w W w' : World} {row : Option Nat} (h : w.grownBy W row) (hb : Below n W w') (hn : w.heap.size ≤ n) (hs : n ≤ W.heap.size) : w.grownBy w' row :=
  ⟨hb.os.trans h.os, hb.tape.trans h.tape, hb.output.trans h.output, Nat.le_trans h.size hb.size, fun i hi hr => (hb.block i (by omega)).trans (h.block i hi hr)⟩
/-- What is left by the reading of all extensions. -/
def RaTold (tO tI : TypeId) (g : Nat) (b : Option Addr) (m d : Nat) (o : Option (List Vl × Nat)) (w : World) (e : Ending) (w' : World) : Prop :=
  match o with
  | none => e = .returned (.tuple #[.slice none 0 0, .bool false]) ∧ w.grownBy w' (some g)
  | some (l, k) => ∃ q n c, e = .returned (.tuple #[.slice q n c, .bool true]) ∧ OwnV tO tI w' w.heap.size q n c l ∧ Cur w' g b m d k ∧ w.grownBy w' (some g)
set_option maxHeartbeats 4000000 in
set_option maxRecDepth 100000 in
theorem readExts_no (g : Nat) (b : Option Addr) (m d : Nat) (y : List Int) (w : World) (h : Cur w g b m d 0) (hv : Fix w g b m y) (hd : m ≤ d ∧ (d : Int) ≤ 9223372036854775807) (hm : m ≤ 1000000000) (h1 : rdF fdN y 0 = none) :
    Calls Try.prog 98 #[.pointer (some ⟨g, 0, none⟩)] w (RaTold 99 3 g b m d none w) := by
  have KT := Lib.hid (readPart_no (w := w) partCount h1 (fun w0 hb => readField_any fdN g b m d 0 y w0 (h.same hb) (hv.same hb) hd hm (Nat.zero_le _) (Or.inl rfl)))
  have NI := not_int
  unfold PtNo at KT
  unfold RaTold
  clear h hv h1
  go_enter Try.func98, Try.ntmps98
  go_wp2_with fail
  refine KT.out.mono ?_
  rintro e w1 ⟨rfl, hg1⟩
  have HG1 := Lib.hid hg1
  clear hg1
  go_wp2_with fail
  go_ret2
  exact ⟨rfl, HG1.out⟩
set_option maxHeartbeats 4000000 in
set_option maxRecDepth 100000 in
theorem readExts_yes (g : Nat) (b : Option Addr) (m d N : Nat) (y : List Int) (w : World) (h : Cur w g b m d 0) (hv : Fix w g b m y) (hd : m ≤ d ∧ (d : Int) ≤ 9223372036854775807) (hm : m ≤ 1000000000) (hN : N ≤ 6) (h1 : rdF fdN y 0 = some (⟨(N : Int), []⟩, 1)) (hy1 : y.take 1 = [(N : Int)]) :
    Calls Try.prog 98 #[.pointer (some ⟨g, 0, none⟩)] w (RaTold 99 3 g b m d (rdXs y N) w) := by
  have hgl := h.lt
  have KT := Lib.hid (readPart_num (w := w) (by decide) partCount h1 (fun w0 hb => readField_any fdN g b m d 0 y w0 (h.same hb) (hv.same hb) hd hm (Nat.zero_le _) (Or.inl rfl)))
  have NI := is_int (N : Int)
  have HV := Lib.hid hv
  have hyl := hv.len
  have HF := Lib.hid (fun (j k : Nat) (l : List Vl) (hr : rdXs y j = some (l, k)) => (rdXs_form hy1 j l k hr))
  have HS := Lib.hid (fun (j : Nat) (hj : j ≤ N) (hr : rdXs y j = none) => rdXs_stop hr N hj)
  have HD := Lib.hid hd
  obtain ⟨i0, hi, hz0, hz1, hz2⟩ := info_parts infoExtS
  have HI := Lib.hid (And.intro hi (And.intro hz0 (And.intro hz1 hz2)))
  unfold PtNum at KT
  clear h hv h1 hi hz0 hz1 hz2 hy1 hd
  dsimp only at KT
  go_enter Try.func98, Try.ntmps98
  go_wp2_with fail
  refine KT.out.mono ?_
  rintro e w1 ⟨rfl, hc1, hg1⟩
  have HC1 := Lib.hid hc1
  have HG1 := Lib.hid hg1
  have hs1 := hg1.size
  clear hc1 hg1 KT
  go_wp2_with (with_reducible refine wpList_make_own _ rfl (.const (.int .i64 0)) (.tmp 17) 25 rfl w.heap.size 99 i0 (.agg #[.int .i64 0, .slice none 0 0]) 2 Try.underlying25 HI.out.1 HI.out.2.1 HI.out.2.2.1 .i64 .i64 _ N rfl rfl rfl ?c1 ?c2 ?c3 ?_)
  case c1 => rw [HI.out.2.2.2]; omega
  case c2 => unfold maxLen; omega
  case c3 => exact hs1
  intro w2 hown hgrow
  have HO2 : Hid (OwnV 99 3 w2 w.heap.size (some ⟨w1.heap.size, 0, none⟩) 0 N []) := Lib.hid ⟨[], ⟨rfl, hown⟩, rfl, fun j g x h => by simp at h, fun i j h k _ h' => by simp at h'⟩
  have hb2 : Below w1.heap.size w1 w2 := (Below.refl _ w1).grown hgrow (Nat.le_refl _) (fun _ e => by cases e)
  have HC2 := Lib.hid (HC1.out.same hb2)
  have HG2 := Lib.hid (HG1.out.trans (grown_below hb2 (some g)))
  clear hown hgrow hb2
  go_wp2_with fail
  go_loopw [6, 20] (fun v i wr => ∃ (j k : Nat) (l : List Vl) (q : Option Addr) (e : Nat), j ≤ N ∧ i = .int .i64 j ∧ v = .slice q j e ∧ rdXs y j = some (l, k) ∧ OwnV 99 3 wr w.heap.size q j e l ∧ Cur wr g b m d k ∧ w.grownBy wr (some g)) (fun _ i _ => N - (intOf i).toNat)
  case atStart => exact ⟨0, 1, [], _, _, Nat.zero_le _, rfl, rfl, rfl, HO2.out, HC2.out, HG2.out⟩
  case round =>
    obtain ⟨j, k, l, q, e, hj, rfl, rfl, hr, hown, hc, hg⟩ := hrel
    have HOr := Lib.hid hown
    have HCr := Lib.hid hc
    have HGr := Lib.hid hg
    have hk : k ≤ m := by have := (HF.out j k l hr).2.1; omega
    have hst := rdXs_step hr
    have HR := Lib.hid hr
    have hsr := hg.size
    clear hown hc hg hr
    by_cases hlt : j < N
    · have KX := readExt_any g b m d k y wr HCr.out (HV.out.on HGr.out) HD.out hm hk
      unfold RxTold at KX
      cases hx : rdX y k with
      | none =>
        rw [hx] at KX hst
        have HE := Lib.hid (HS.out (j + 1) (by omega) (by rw [hst]; rfl))
        have KX := Lib.hid KX
        unfold Rdn at KX
        clear hx hst
        go_wp2_with fail
        refine KX.out.mono ?_
        rintro e3 w3 ⟨rfl, hg3⟩
        have HG3 := Lib.hid (HGr.out.trans hg3)
        clear hg3
        go_wp2_with fail
        go_ret2
        rw [HE.out]
        exact ⟨rfl, HG3.out.trans (grown_below (alloc_same _ _) _)⟩
      | some p =>
        obtain ⟨x, k2⟩ := p
        rw [hx] at KX hst
        obtain ⟨xn, xi⟩ := x
        have HE : Hid (rdXs y (j + 1) = some (l ++ [⟨xn, xi⟩], k2)) := Lib.hid (by rw [hst]; rfl)
        have KX := Lib.hid KX
        clear hx hst
        dsimp only at KX
        go_wp2_with fail
        refine KX.out.mono ?_
        rintro e3 w3 ⟨p3, q3, r3, rfl, ho3, hc3, hg3⟩
        have HO3 := Lib.hid ho3
        have HC3 := Lib.hid hc3
        have HG3 := Lib.hid (HGr.out.trans hg3)
        have HL3 := Lib.hid (HOr.out.lim.far hg3 (fun r e => by cases e; exact Or.inl hgl))
        have hs3 := hg3.size
        have HNN : Hid (Items Vh.enc 2 ((w3.alloc (.cells #[.int .i64 xn, .slice p3 q3 r3] 99)).alloc (.cells #[.int .i64 xn, .slice p3 q3 r3] 99)) (some ⟨w3.heap.size + 1, 0, none⟩) 1 [⟨xn, p3, q3, r3⟩]) := Lib.hid (by
          have : Items Vh.enc 2 ((w3.alloc (.cells #[.int .i64 xn, .slice p3 q3 r3] 99)).alloc (.cells #[.int .i64 xn, .slice p3 q3 r3] 99)) (some ⟨(w3.alloc (.cells #[.int .i64 xn, .slice p3 q3 r3] 99)).heap.size, 0, none⟩) 1 [⟨xn, p3, q3, r3⟩] := items_new Vh.enc_len (w3.alloc (.cells #[.int .i64 xn, .slice p3 q3 r3] 99)) ⟨xn, p3, q3, r3⟩ 99
          simpa using this)
        clear ho3 hc3 hg3
        go_wp2_with (at_builtin; refine wpl_appV (S := wr.heap.size) (B := w.heap.size) _ rfl (.tmp 29) (.tmp 31) 25 rfl 99 3 i0 (.agg #[.int .i64 0, .slice none 0 0]) 32 Try.underlying25 HI.out.1 HI.out.2.1 HI.out.2.2.1 HI.out.2.2.2 rfl rfl ((HL3.out.same (alloc_same _ _)).same (alloc_same _ _)) rfl HNN.out (((HO3.out.lower hsr).alloc _).alloc _) (fun ad e => (HO3.out.span ad e).1) (by omega) ?c4 ?c5 ?_)
        case c4 => omega
        case c5 => simp; omega
        intro a4 c4 w4 ho4 hb4
        have HO4 := Lib.hid ho4
        have hW : Below w3.heap.size w3 ((w3.alloc (.cells #[.int .i64 xn, .slice p3 q3 r3] 99)).alloc (.cells #[.int .i64 xn, .slice p3 q3 r3] 99)) := ((Below.refl _ w3).alloc (Nat.le_refl _) _).alloc (by simp) _
        have HC4 : Hid (Cur w4 g b m d k2) := Lib.hid ((hb4.block g hgl).trans (HC3.out.same hW))
        have HG4 : Hid (w.grownBy w4 (some g)) := Lib.hid (grown_then (HG3.out.trans (grown_below hW (some g))) hb4 (Nat.le_refl _) (by simp; omega))
        clear ho4 hb4 hW
        go_wp2_with fail
        go_roundw
        case rel => exact ⟨j + 1, k2, _, a4, c4, by omega, by go_num, rfl, HE.out, HO4.out, HC4.out, HG4.out⟩
        case measure => simp [intOf]; omega
    · obtain rfl : j = N := by omega
      go_wp2_with fail
      go_ret2
      rw [HR.out]
      exact ⟨_, _, _, rfl, HOr.out, HCr.out, HGr.out⟩
theorem readExts_any (g : Nat) (b : Option Addr) (m d : Nat) (y : List Int) (w : World) (h : Cur w g b m d 0) (hv : Fix w g b m y) (hd : m ≤ d ∧ (d : Int) ≤ 9223372036854775807) (hm : m ≤ 1000000000) :
    Calls Try.prog 98 #[.pointer (some ⟨g, 0, none⟩)] w (RaTold 99 3 g b m d (rdAll y) w) := by
  unfold rdAll
  cases h1 : rdF fdN y 0 with
  | none => exact readExts_no g b m d y w h hv hd hm h1
  | some p =>
    obtain ⟨⟨cn, ci⟩, k0⟩ := p
    have f := rdF_form h1
    have q := rdF_kind1 (x := fdN) rfl h1
    dsimp only at f q ⊢
    obtain ⟨rfl, rfl⟩ := q
    rw [fitsN] at f
    have hc : 0 ≤ cn ∧ cn ≤ 6 := by simpa using f.2.2.2
    obtain ⟨N, rfl⟩ : ∃ N : Nat, cn = N := ⟨cn.toNat, by omega⟩
    rw [Int.toNat_natCast]
    exact readExts_yes g b m d N y w h hv hd hm (by omega) h1 (by rw [show (1 : Nat) = 0 + 1 from rfl, f.2.2.1]; rfl)
def decL (y : List Int) : List Vl := (decX y).getD []
def decOk (y : List Int) : Bool := (decX y).isSome
theorem dec_none {y : List Int} (h : decX y = none) : decL y = [] ∧ decOk y = false := by unfold decL decOk; rw [h]; exact ⟨rfl, rfl⟩
theorem dec_some {y : List Int} {l : List Vl} (h : decX y = some l) : decL y = l ∧ decOk y = true := by unfold decL decOk; rw [h]; exact ⟨rfl, rfl⟩
theorem decL_few (y : List Int) : (decL y).length ≤ 6 ∧ itemsOf (decL y) ≤ 24 := by
  cases h : decX y with
  | none => rw [(dec_none h).1]; simp [itemsOf]
  | some l => rw [(dec_some h).1]; exact decX_few h
/-- What is left by a function that decodes extensions. -/
def DxTold (tO tI : TypeId) (y : List Int) (w : World) (e : Ending) (w' : World) : Prop :=
  ∃ q n c, e = .returned (.tuple #[.slice q n c, .bool (decOk y)]) ∧ OwnV tO tI w' w.heap.size q n c (decL y) ∧ Below w.heap.size w w'
set_option maxHeartbeats 4000000 in
set_option maxRecDepth 100000 in
theorem decodeExts_any {b : Option Addr} {m d : Nat} {y : List Int} {w : World} (hv : Nums .i64 w b m y) (hd : m ≤ d ∧ (d : Int) ≤ 9223372036854775807) (hm : m ≤ 1000000000) :
    Calls Try.prog 55 #[.slice b m d] w (DxTold 99 3 y w) := by
  have hyl := Lib.hid hv.len
  have hb0 := alloc_same w (.cells #[.slice b m d, .int .i64 0] 72)
  have hC0 : Cur (w.alloc (.cells #[.slice b m d, .int .i64 0] 72)) w.heap.size b m d 0 := heap_alloc_new w _
  have hF0 : Fix (w.alloc (.cells #[.slice b m d, .int .i64 0] 72)) w.heap.size b m y := fun w' hg => hv.same (hb0.grown hg (by simp) (fun j e => by cases e; exact Nat.le_refl _))
  have KA := Lib.hid (readExts_any w.heap.size b m d y _ hC0 hF0 hd hm)
  have HB0 := Lib.hid hb0
  have hs0 := hb0.size
  unfold RaTold at KA
  unfold DxTold
  clear hv hC0 hF0 hb0
  cases hr : rdAll y with
  | none =>
    rw [hr] at KA
    have HE := Lib.hid (dec_none (y := y) (by unfold decX; rw [hr]))
    clear hr
    dsimp only at KA
    go_enter Try.func55, Try.ntmps55
    go_wp2_with fail
    refine KA.out.mono ?_
    rintro e w1 ⟨rfl, hg1⟩
    have HB1 := Lib.hid (HB0.out.grown hg1 hs0 (fun j e => by cases e; exact Nat.le_refl _))
    clear hg1 KA
    go_wp2_with fail
    go_ret2
    exact ⟨_, _, _, by rw [HE.out.2]; rfl, by rw [HE.out.1]; exact OwnV.empty HB1.out.size, HB1.out.alloc HB1.out.size _⟩
  | some p =>
    obtain ⟨l, k⟩ := p
    rw [hr] at KA
    dsimp only at KA
    by_cases hk : k = m
    · subst hk
      cases ha : areX l with
      | true =>
        have HE := Lib.hid (dec_some (y := y) (l := l) (by unfold decX; rw [hr]; dsimp only; rw [if_pos ⟨hyl.out.symm, ha⟩]))
        go_enter Try.func55, Try.ntmps55
        go_wp2_with fail
        refine KA.out.mono ?_
        rintro e w1 ⟨q, n, c, rfl, ho1, hc1, hg1⟩
        have HB1 := Lib.hid (HB0.out.grown hg1 hs0 (fun j e => by cases e; exact Nat.le_refl _))
        have HO1 := Lib.hid (ho1.lower hs0)
        have KV := Lib.hid (areExts_any (c := c) ho1.vals)
        rw [ha] at KV
        obtain ⟨c0, c1, _, _⟩ := two_cells hc1
        clear hg1 KA hr ha ho1 hc1
        go_wp2_with (go_at_call 57; refine KV.out.mono ?_; rintro e w2 ⟨rfl, hb2⟩; have HB2 := Lib.hid hb2; clear hb2)
        go_ret2
        exact ⟨_, _, _, by rw [HE.out.2]; rfl, by rw [HE.out.1]; exact HO1.out.same HB2.out, HB1.out.trans (HB2.out.mono HB1.out.size)⟩
      | false =>
        have HE := Lib.hid (dec_none (y := y) (by unfold decX; rw [hr]; dsimp only; rw [if_neg (fun h => by rw [ha] at h; cases h.2)]))
        go_enter Try.func55, Try.ntmps55
        go_wp2_with fail
        refine KA.out.mono ?_
        rintro e w1 ⟨q, n, c, rfl, ho1, hc1, hg1⟩
        have HB1 := Lib.hid (HB0.out.grown hg1 hs0 (fun j e => by cases e; exact Nat.le_refl _))
        have KV := Lib.hid (areExts_any (c := c) ho1.vals)
        rw [ha] at KV
        obtain ⟨c0, c1, _, _⟩ := two_cells hc1
        clear hg1 KA hr ha ho1 hc1
        go_wp2_with (go_at_call 57; refine KV.out.mono ?_; rintro e w2 ⟨rfl, hb2⟩; have HB2 := Lib.hid (HB1.out.trans (hb2.mono HB1.out.size)); clear hb2)
        go_ret2
        exact ⟨_, _, _, by rw [HE.out.2]; rfl, by rw [HE.out.1]; exact OwnV.empty HB2.out.size, HB2.out.alloc HB2.out.size _⟩
    · have HE := Lib.hid (dec_none (y := y) (by unfold decX; rw [hr]; dsimp only; rw [if_neg (fun h => hk (h.1.trans hyl.out))]))
      have hkm : ((k : Int) != (m : Int)) = true := by simp; omega
      go_enter Try.func55, Try.ntmps55
      go_wp2_with fail
      refine KA.out.mono ?_
      rintro e w1 ⟨q, n, c, rfl, ho1, hc1, hg1⟩
      have HB1 := Lib.hid (HB0.out.grown hg1 hs0 (fun j e => by cases e; exact Nat.le_refl _))
      obtain ⟨c0, c1, _, _⟩ := two_cells hc1
      clear hg1 KA hr ho1 hc1
      go_wp2_with fail
      go_ret2
      exact ⟨_, _, _, by rw [HE.out.2]; rfl, by rw [HE.out.1]; exact OwnV.empty HB1.out.size, HB1.out.alloc HB1.out.size _⟩
end Go.Proofs.Ytcpnchjgklemgaa
namespace Go.Proofs.Ytcpnchjgklemgaa
open Go.ChangeShapes Go.WideShapes Go.ChangeAt Go.RowKit
set_option linter.unusedVariables false
set_option linter.unusedSimpArgs false

theorem rdH_out {z : Int} {t : List Int} (h : ¬ (0 ≤ z ∧ z ≤ (t.length : Int))) : rdH (z :: t) = none := by rw [rdH, if_neg (fun q => h q.1)]
theorem rdH_old {q : Nat} {t : List Int} (h : areV (t.take q) = false) : rdH ((q : Int) :: t) = none := by
  rw [rdH, Int.toNat_natCast, if_neg (fun e => by rw [h] at e; cases e.2)]
theorem rdH_at {q : Nat} {t : List Int} (hq : q ≤ t.length) (h : areV (t.take q) = true) : rdH ((q : Int) :: t) = (decX (t.drop q)).map (fun l => ⟨t.take q, l⟩) := by
  rw [rdH, Int.toNat_natCast, if_pos ⟨⟨by omega, by omega⟩, h⟩]
theorem rdH_at_no {q : Nat} {t : List Int} (hq : q ≤ t.length) (h : areV (t.take q) = true) (hd : decOk (t.drop q) = false) : rdH ((q : Int) :: t) = none := by
  rw [rdH_at hq h]
  unfold decOk at hd
  cases e : decX (t.drop q) with
  | none => rfl
  | some l => rw [e] at hd; cases hd
theorem rdH_at_yes {q : Nat} {t : List Int} (hq : q ≤ t.length) (h : areV (t.take q) = true) (hd : decOk (t.drop q) = true) : rdH ((q : Int) :: t) = some ⟨t.take q, decL (t.drop q)⟩ := by
  rw [rdH_at hq h]
  unfold decOk at hd
  cases e : decX (t.drop q) with
  | none => rw [e] at hd; cases hd
  | some l => rw [(dec_some e).1]; rfl
/-- What is laid out when a hello is to be read. -/
structure RhBox (b : Option Addr) (m d : Nat) (y : List Int) (w W : World) : Prop where
  cur : Cur W (w.heap.size + 1) b m d 0
  fix : Fix W (w.heap.size + 1) b m y
  box : W.heap[w.heap.size]? = some (.cells #[.slice none 0 0, .slice none 0 0] 27 (0, 0))
  bel : Below w.heap.size w W
  big : w.heap.size + 1 < W.heap.size
theorem rhBox {b : Option Addr} {m d : Nat} {y : List Int} {w : World} (hv : Nums .i64 w b m y) : RhBox b m d y w ((w.alloc (.cells #[.slice none 0 0, .slice none 0 0] 27)).alloc (.cells #[.slice b m d, .int .i64 0] 72)) := by
  obtain ⟨hsz, hC, hD, hb⟩ := two w #[.slice none 0 0, .slice none 0 0] #[.slice b m d, .int .i64 0] 27 72
  exact ⟨hD, fun w' hg => hv.same (hb.grown hg (by omega) (fun j e => by cases e; omega)), hC, hb, by omega⟩
set_option maxHeartbeats 4000000 in
set_option maxRecDepth 100000 in
theorem readHello_no {b : Option Addr} {m d : Nat} {y : List Int} {w : World} (hv : Nums .i64 w b m y) (hd : m ≤ d ∧ (d : Int) ≤ 9223372036854775807) (hm : m ≤ 1000000000) (hr : ∀ W : World, Cur W (w.heap.size + 1) b m d 0 → Fix W (w.heap.size + 1) b m y → Calls Try.prog 53 #[.pointer (some ⟨w.heap.size + 1, 0, none⟩)] W (Rdn (w.heap.size + 1) W)) :
    Calls Try.prog 15 #[.slice b m d] w (MadeHelB w.heap.size ⟨[], []⟩ false w) := by
  have HX := Lib.hid (rhBox (d := d) hv)
  have KR := Lib.hid (hr _ HX.out.cur HX.out.fix)
  unfold Rdn at KR
  clear hv hr
  go_enter Try.func15, Try.ntmps15
  go_wp2_with fail
  generalize ((w.alloc (.cells #[.slice none 0 0, .slice none 0 0] 27)).alloc (.cells #[.slice b m d, .int .i64 0] 72)) = W1 at *
  refine KR.out.mono ?_
  rintro e w1 ⟨rfl, hg⟩
  have hM := (hg.block w.heap.size (by have := HX.out.big; omega) (by simp)).trans HX.out.box
  have hs1 := Nat.lt_of_lt_of_le HX.out.big hg.size
  have HB := Lib.hid (HX.out.bel.grown hg (by have := HX.out.big; omega) (fun j e => by cases e; omega))
  have hb2 := alloc_same w1 (.cells #[.int .i64 0, .slice none 0 0] 74)
  have hM2 := (hb2.block w.heap.size (by omega)).trans hM
  have HB2 := Lib.hid (HB.out.trans (hb2.mono HB.out.size))
  obtain ⟨m0, m1, g0, g1⟩ := two_cells hM2
  obtain ⟨z0, z1, hZ⟩ := two_put hM2 (.slice none 0 0) (.slice none 0 0)
  clear hg hM hM2 hb2 hZ KR hs1
  go_wp2_with fail
  (try simp only [Exit.inBlock, Exit.then])
  refine bodyPost_ret (by simp [results, Try.results15, go_sem, z0, z1]; try rfl) rfl ?_
  exact ⟨_, rfl, no_hel (by simp; have := HB2.out.size; simp at this; omega), (HB2.out.setCell (Nat.le_refl _) _).setCell (Nat.le_refl _) _⟩
set_option maxHeartbeats 4000000 in
set_option maxRecDepth 100000 in
theorem readHello_old {b : Option Addr} {m d : Nat} {y : List Int} {w : World} (hv : Nums .i64 w b m y) (hd : m ≤ d ∧ (d : Int) ≤ 9223372036854775807) (hm : m ≤ 1000000000) {q : Nat} (hz : y[0]? = some (q : Int)) (hq : 1 + q ≤ m) (hva : areV ((y.drop 1).take q) = false) :
    Calls Try.prog 15 #[.slice b m d] w (MadeHelB w.heap.size ⟨[], []⟩ false w) := by
  have HX := Lib.hid (rhBox (d := d) hv)
  have hyl := hv.len
  have KR := Lib.hid (readItems_yes (w.heap.size + 1) b m d 0 q y _ HX.out.cur HX.out.fix hd hm hz (by omega))
  unfold Rdd at KR
  rw [Nat.zero_add] at KR
  have HY := Lib.hid hv
  clear hz
  go_enter Try.func15, Try.ntmps15
  go_wp2_with fail
  generalize ((w.alloc (.cells #[.slice none 0 0, .slice none 0 0] 27)).alloc (.cells #[.slice b m d, .int .i64 0] 72)) = W1 at *
  refine KR.out.mono ?_
  rintro e w1 ⟨p, r, rfl, hf, hc, hg⟩
  have hM := (hg.block w.heap.size (by have := HX.out.big; omega) (by simp)).trans HX.out.box
  have hs1 := Nat.lt_of_lt_of_le HX.out.big hg.size
  have HB := Lib.hid (HX.out.bel.grown hg (by have := HX.out.big; omega) (fun j e => by cases e; omega))
  obtain ⟨hb2, hM2, hV2, hN2, hC2⟩ : Below w1.heap.size w1 (w1.alloc (.cells #[.int .i64 0, .slice p q r] 74)) ∧ (w1.alloc (.cells #[.int .i64 0, .slice p q r] 74)).heap[w.heap.size]? = some (.cells #[.slice none 0 0, .slice none 0 0] 27 (0, 0)) ∧ (w1.alloc (.cells #[.int .i64 0, .slice p q r] 74)).heap[w1.heap.size]? = some (.cells #[.int .i64 0, .slice p q r] 74 (0, 0)) ∧ Nums .i64 (w1.alloc (.cells #[.int .i64 0, .slice p q r] 74)) p q ((y.drop 1).take q) ∧ Cur (w1.alloc (.cells #[.int .i64 0, .slice p q r] 74)) (w.heap.size + 1) b m d (1 + q) :=
    ⟨alloc_same _ _, ((alloc_same w1 _).block w.heap.size (by omega)).trans hM, heap_alloc_new w1 _, (hf w1 hg).same (alloc_same _ _), hc.same (alloc_same _ _)⟩
  have HB2 := Lib.hid (HB.out.trans (hb2.mono HB.out.size))
  have hs2 := Nat.lt_of_lt_of_le hs1 hb2.size
  have hlt2 : w1.heap.size < (w1.alloc (.cells #[.int .i64 0, .slice p q r] 74)).heap.size := by simp
  have HN := Lib.hid hN2
  have HM := Lib.hid hM2
  have HV := Lib.hid hV2
  obtain ⟨v0, v1, _, _⟩ := two_cells hV2
  obtain ⟨k0, k1, _, _⟩ := two_cells hC2
  have KV := Lib.hid (areVersions_any (c := r) hN2)
  rw [hva] at KV
  clear hg hM hM2 hb2 hC2 hc hf hV2 hN2 KR
  clear k0 k1
  go_wp2_with fail
  generalize w1.alloc (.cells #[.int .i64 0, .slice p q r] 74) = W2 at *
  refine KV.out.mono ?_
  rintro e w3 ⟨rfl, rfl⟩
  obtain ⟨m0, m1, g0, g1⟩ := two_cells HM.out
  obtain ⟨z0, z1, hZ⟩ := two_put HM.out (.slice none 0 0) (.slice none 0 0)
  clear hZ v0 v1 KV
  go_wp2_with fail
  (try simp only [Exit.inBlock, Exit.then])
  refine bodyPost_ret (by simp [results, Try.results15, go_sem, z0, z1]; try rfl) rfl ?_
  exact ⟨_, rfl, no_hel (by simp; have := HB2.out.size; omega), (HB2.out.setCell (Nat.le_refl _) _).setCell (Nat.le_refl _) _⟩
theorem Nums.sub_all {k : IntKind} {w : World} {a : Option Addr} {n : Nat} {l : List Int} (h : Nums k w a n l) (i : Nat) (hi : i ≤ n) {b : Option Addr} (hb : 0 < n - i → ∀ ad, a = some ad → b = some (ad.add i)) : Nums k w b (n - i) (l.drop i) := by
  have h1 := h.sub i (n - i) (by omega) hb
  rwa [List.take_of_length_le (by rw [List.length_drop, h.len]; omega)] at h1
set_option maxHeartbeats 4000000 in
set_option maxRecDepth 100000 in
theorem readHello_odd {b : Option Addr} {m d : Nat} {y : List Int} {w : World} (hv : Nums .i64 w b m y) (hd : m ≤ d ∧ (d : Int) ≤ 9223372036854775807) (hm : m ≤ 1000000000) {q : Nat} (hz : y[0]? = some (q : Int)) (hq : 1 + q ≤ m) (hva : areV ((y.drop 1).take q) = true) (hdo : decOk (y.drop (1 + q)) = false) :
    Calls Try.prog 15 #[.slice b m d] w (MadeHelB w.heap.size ⟨[], []⟩ false w) := by
  have HX := Lib.hid (rhBox (d := d) hv)
  have hyl := hv.len
  have KR := Lib.hid (readItems_yes (w.heap.size + 1) b m d 0 q y _ HX.out.cur HX.out.fix hd hm hz (by omega))
  unfold Rdd at KR
  rw [Nat.zero_add] at KR
  have HY := Lib.hid hv
  clear hz
  go_enter Try.func15, Try.ntmps15
  go_wp2_with fail
  generalize ((w.alloc (.cells #[.slice none 0 0, .slice none 0 0] 27)).alloc (.cells #[.slice b m d, .int .i64 0] 72)) = W1 at *
  refine KR.out.mono ?_
  rintro e w1 ⟨p, r, rfl, hf, hc, hg⟩
  have hM := (hg.block w.heap.size (by have := HX.out.big; omega) (by simp)).trans HX.out.box
  have hs1 := Nat.lt_of_lt_of_le HX.out.big hg.size
  have HB := Lib.hid (HX.out.bel.grown hg (by have := HX.out.big; omega) (fun j e => by cases e; omega))
  obtain ⟨hb2, hM2, hV2, hN2, hC2⟩ : Below w1.heap.size w1 (w1.alloc (.cells #[.int .i64 0, .slice p q r] 74)) ∧ (w1.alloc (.cells #[.int .i64 0, .slice p q r] 74)).heap[w.heap.size]? = some (.cells #[.slice none 0 0, .slice none 0 0] 27 (0, 0)) ∧ (w1.alloc (.cells #[.int .i64 0, .slice p q r] 74)).heap[w1.heap.size]? = some (.cells #[.int .i64 0, .slice p q r] 74 (0, 0)) ∧ Nums .i64 (w1.alloc (.cells #[.int .i64 0, .slice p q r] 74)) p q ((y.drop 1).take q) ∧ Cur (w1.alloc (.cells #[.int .i64 0, .slice p q r] 74)) (w.heap.size + 1) b m d (1 + q) :=
    ⟨alloc_same _ _, ((alloc_same w1 _).block w.heap.size (by omega)).trans hM, heap_alloc_new w1 _, (hf w1 hg).same (alloc_same _ _), hc.same (alloc_same _ _)⟩
  have HB2 := Lib.hid (HB.out.trans (hb2.mono HB.out.size))
  have hs2 := Nat.lt_of_lt_of_le hs1 hb2.size
  have hlt2 : w1.heap.size < (w1.alloc (.cells #[.int .i64 0, .slice p q r] 74)).heap.size := by simp
  have HN := Lib.hid hN2
  have HM := Lib.hid hM2
  have HV := Lib.hid hV2
  obtain ⟨v0, v1, _, _⟩ := two_cells hV2
  obtain ⟨k0, k1, _, _⟩ := two_cells hC2
  have KV := Lib.hid (areVersions_any (c := r) hN2)
  rw [hva] at KV
  clear hg hM hM2 hb2 hC2 hc hf hV2 hN2 KR
  go_wp2_with fail
  generalize w1.alloc (.cells #[.int .i64 0, .slice p q r] 74) = W2 at *
  refine KV.out.mono ?_
  rintro e w3 ⟨rfl, rfl⟩
  have hadd : (0 : Int) ≤ 1 + (q : Int) := by omega
  have KD := Lib.hid (fun (a0 : Option Addr) (d0 : Nat) (h0 : m - (1 + q) ≤ d0 ∧ (d0 : Int) ≤ 9223372036854775807) (ha : 0 < m - (1 + q) → ∀ ad, b = some ad → a0 = some (ad.add (1 + q))) => decodeExts_any (b := a0) (m := m - (1 + q)) (d := d0) (y := y.drop (1 + q)) (w := W2) ((HY.out.same HB2.out).sub_all (1 + q) hq ha) h0 (by omega))
  unfold DxTold at KD
  rw [hdo] at KD
  have HK : Hid (∀ (p2 : Option Addr) (d2 : Nat), (d = 1 + q ∧ p2 = b ∧ d2 = 0 ∨ ¬ d = 1 + q ∧ p2 = b.map (fun x => x.add (1 + q)) ∧ d2 = d - (1 + q)) → Calls Try.prog 55 #[.slice p2 (m - (1 + q)) d2] W2 (fun e w' => ∃ q3 n3 c3, e = .returned (.tuple #[.slice q3 n3 c3, .bool false]) ∧ OwnV 99 3 w' W2.heap.size q3 n3 c3 (decL (y.drop (1 + q))) ∧ Below W2.heap.size W2 w')) := Lib.hid (fun p2 d2 h9 => by
    rcases h9 with ⟨h1, h2, h3⟩ | ⟨h1, h2, h3⟩
    · rw [h2, h3]; exact KD.out b 0 (by omega) (fun h => by omega)
    · rw [h2, h3]; exact KD.out _ _ (by omega) (fun _ ad e => by rw [e]; rfl))
  clear v0 v1 KV KD
  by_cases hcap : d = 1 + q
  · go_wp2_with fail
    refine (HK.out b 0 (Or.inl ⟨hcap, rfl, rfl⟩)).mono ?_
    clear hcap k0 k1
    rintro e w4 ⟨q3, n3, c3, rfl, ho3, hb3⟩
    have hM3 := (hb3.block w.heap.size (by omega)).trans HM.out
    have HB3 := Lib.hid (HB2.out.trans (hb3.mono HB2.out.size))
    obtain ⟨m0, m1, g0, g1⟩ := two_cells hM3
    obtain ⟨z0, z1, hZ⟩ := two_put hM3 (.slice none 0 0) (.slice none 0 0)
    clear hZ ho3 hb3 hM3
    go_wp2_with fail
    (try simp only [Exit.inBlock, Exit.then])
    refine bodyPost_ret (by simp [results, Try.results15, go_sem, z0, z1]; try rfl) rfl ?_
    exact ⟨_, rfl, no_hel (by simp; have := HB3.out.size; omega), (HB3.out.setCell (Nat.le_refl _) _).setCell (Nat.le_refl _) _⟩
  · go_wp2_with fail
    refine (HK.out _ _ (Or.inr ⟨hcap, rfl, rfl⟩)).mono ?_
    clear hcap k0 k1
    rintro e w4 ⟨q3, n3, c3, rfl, ho3, hb3⟩
    have hM3 := (hb3.block w.heap.size (by omega)).trans HM.out
    have HB3 := Lib.hid (HB2.out.trans (hb3.mono HB2.out.size))
    obtain ⟨m0, m1, g0, g1⟩ := two_cells hM3
    obtain ⟨z0, z1, hZ⟩ := two_put hM3 (.slice none 0 0) (.slice none 0 0)
    clear hZ ho3 hb3 hM3
    go_wp2_with fail
    (try simp only [Exit.inBlock, Exit.then])
    refine bodyPost_ret (by simp [results, Try.results15, go_sem, z0, z1]; try rfl) rfl ?_
    exact ⟨_, rfl, no_hel (by simp; have := HB3.out.size; omega), (HB3.out.setCell (Nat.le_refl _) _).setCell (Nat.le_refl _) _⟩
theorem set2_inside (w : World) (g : Nat) (u v : Value) : Inside g (g + 1) w ((w.setCell ⟨g, 0, none⟩ u).setCell ⟨g, 1, none⟩ v) :=
  Inside.row (lo := g) (hi := g + 1) ((set_grown w g 0 u).trans (set_grown _ g 1 v)) (fun r e => by cases e; exact ⟨Nat.le_refl _, Nat.lt_succ_self _⟩)
set_option maxHeartbeats 4000000 in
set_option maxRecDepth 100000 in
theorem readHello_yes {b : Option Addr} {m d : Nat} {y : List Int} {w : World} (hv : Nums .i64 w b m y) (hd : m ≤ d ∧ (d : Int) ≤ 9223372036854775807) (hm : m ≤ 1000000000) {q : Nat} (hz : y[0]? = some (q : Int)) (hq : 1 + q ≤ m) (hva : areV ((y.drop 1).take q) = true) (hdo : decOk (y.drop (1 + q)) = true) :
    Calls Try.prog 15 #[.slice b m d] w (MadeHelB w.heap.size ⟨(y.drop 1).take q, decL (y.drop (1 + q))⟩ true w) := by
  have HX := Lib.hid (rhBox (d := d) hv)
  have hyl := hv.len
  have KR := Lib.hid (readItems_yes (w.heap.size + 1) b m d 0 q y _ HX.out.cur HX.out.fix hd hm hz (by omega))
  unfold Rdd at KR
  rw [Nat.zero_add] at KR
  have HY := Lib.hid hv
  clear hz
  go_enter Try.func15, Try.ntmps15
  go_wp2_with fail
  generalize ((w.alloc (.cells #[.slice none 0 0, .slice none 0 0] 27)).alloc (.cells #[.slice b m d, .int .i64 0] 72)) = W1 at *
  refine KR.out.mono ?_
  rintro e w1 ⟨p, r, rfl, hf, hc, hg⟩
  have hM := (hg.block w.heap.size (by have := HX.out.big; omega) (by simp)).trans HX.out.box
  have hs1 := Nat.lt_of_lt_of_le HX.out.big hg.size
  have HB := Lib.hid (HX.out.bel.grown hg (by have := HX.out.big; omega) (fun j e => by cases e; omega))
  obtain ⟨hb2, hM2, hV2, hN2, hC2⟩ : Below w1.heap.size w1 (w1.alloc (.cells #[.int .i64 0, .slice p q r] 74)) ∧ (w1.alloc (.cells #[.int .i64 0, .slice p q r] 74)).heap[w.heap.size]? = some (.cells #[.slice none 0 0, .slice none 0 0] 27 (0, 0)) ∧ (w1.alloc (.cells #[.int .i64 0, .slice p q r] 74)).heap[w1.heap.size]? = some (.cells #[.int .i64 0, .slice p q r] 74 (0, 0)) ∧ Nums .i64 (w1.alloc (.cells #[.int .i64 0, .slice p q r] 74)) p q ((y.drop 1).take q) ∧ Cur (w1.alloc (.cells #[.int .i64 0, .slice p q r] 74)) (w.heap.size + 1) b m d (1 + q) :=
    ⟨alloc_same _ _, ((alloc_same w1 _).block w.heap.size (by omega)).trans hM, heap_alloc_new w1 _, (hf w1 hg).same (alloc_same _ _), hc.same (alloc_same _ _)⟩
  have HB2 := Lib.hid (HB.out.trans (hb2.mono HB.out.size))
  have hs2 := Nat.lt_of_lt_of_le hs1 hb2.size
  have hlt2 : w1.heap.size < (w1.alloc (.cells #[.int .i64 0, .slice p q r] 74)).heap.size := by simp
  have HN := Lib.hid hN2
  have HM := Lib.hid hM2
  have HV := Lib.hid hV2
  obtain ⟨v0, v1, _, _⟩ := two_cells hV2
  obtain ⟨k0, k1, _, _⟩ := two_cells hC2
  have KV := Lib.hid (areVersions_any (c := r) hN2)
  rw [hva] at KV
  clear hg hM hM2 hb2 hC2 hc hf hV2 hN2 KR
  go_wp2_with fail
  generalize w1.alloc (.cells #[.int .i64 0, .slice p q r] 74) = W2 at *
  refine KV.out.mono ?_
  rintro e w3 ⟨rfl, rfl⟩
  have hadd : (0 : Int) ≤ 1 + (q : Int) := by omega
  have KD := Lib.hid (fun (a0 : Option Addr) (d0 : Nat) (h0 : m - (1 + q) ≤ d0 ∧ (d0 : Int) ≤ 9223372036854775807) (ha : 0 < m - (1 + q) → ∀ ad, b = some ad → a0 = some (ad.add (1 + q))) => decodeExts_any (b := a0) (m := m - (1 + q)) (d := d0) (y := y.drop (1 + q)) (w := W2) ((HY.out.same HB2.out).sub_all (1 + q) hq ha) h0 (by omega))
  unfold DxTold at KD
  rw [hdo] at KD
  have HK : Hid (∀ (p2 : Option Addr) (d2 : Nat), (d = 1 + q ∧ p2 = b ∧ d2 = 0 ∨ ¬ d = 1 + q ∧ p2 = b.map (fun x => x.add (1 + q)) ∧ d2 = d - (1 + q)) → Calls Try.prog 55 #[.slice p2 (m - (1 + q)) d2] W2 (fun e w' => ∃ q3 n3 c3, e = .returned (.tuple #[.slice q3 n3 c3, .bool true]) ∧ OwnV 99 3 w' W2.heap.size q3 n3 c3 (decL (y.drop (1 + q))) ∧ Below W2.heap.size W2 w')) := Lib.hid (fun p2 d2 h9 => by
    rcases h9 with ⟨h1, h2, h3⟩ | ⟨h1, h2, h3⟩
    · rw [h2, h3]; exact KD.out b 0 (by omega) (fun h => by omega)
    · rw [h2, h3]; exact KD.out _ _ (by omega) (fun _ ad e => by rw [e]; rfl))
  clear v0 v1 KV KD
  by_cases hcap : d = 1 + q
  · go_wp2_with fail
    refine (HK.out b 0 (Or.inl ⟨hcap, rfl, rfl⟩)).mono ?_
    clear hcap k0 k1
    rintro e w4 ⟨q3, n3, c3, rfl, ho3, hb3⟩
    have hM3 := (hb3.block w.heap.size (by omega)).trans HM.out
    have HB3 := Lib.hid (HB2.out.trans (hb3.mono HB2.out.size))
    have HM3 := Lib.hid hM3
    obtain ⟨v0, v1, _, _⟩ := two_cells ((hb3.block w1.heap.size hlt2).trans HV.out)
    have KC := Lib.hid (copyList_any (c := r) (HN.out.same hb3) (by omega))
    have HO3 := Lib.hid ho3
    have hs3 := hb3.size
    clear ho3 hb3 hM3
    go_wp2_with fail
    refine KC.out.mono ?_
    rintro e w5 ⟨p5, n5, c5, rfl, ho5, hb5⟩
    have hM5 := (hb5.block w.heap.size (by omega)).trans HM3.out
    have HO5 := Lib.hid ho5
    have HOH : Hid (OwnHel w5.heap.size w5 W2.heap.size (.agg #[.slice p5 n5 c5, .slice q3 n3 c3]) ⟨(y.drop 1).take q, decL (y.drop (1 + q))⟩) := Lib.hid (own_hel ho5 (HO3.out.lim.same hb5) ho5.span (by omega) (Nat.le_refl _) (Nat.le_refl _) hb5.size (Or.inr (Nat.le_refl _)) (Nat.le_refl _))
    have HB5 := Lib.hid (HB3.out.trans (hb5.mono HB3.out.size))
    obtain ⟨m0, m1, g0, g1⟩ := two_cells hM5
    obtain ⟨z0, z1, hZ⟩ := two_put hM5 (.slice p5 n5 c5) (.slice q3 n3 c3)
    clear hZ ho5 hb5 hM5 KC v0 v1
    go_wp2_with fail
    (try simp only [Exit.inBlock, Exit.then])
    refine bodyPost_ret (by simp [results, Try.results15, go_sem, z0, z1]; try rfl) rfl ?_
    have hfin := (HOH.out.aside (set2_inside w5 w.heap.size (.slice p5 n5 c5) (.slice q3 n3 c3)) (Or.inl (by omega))).lower (B' := w.heap.size) (by omega)
    exact ⟨_, rfl, by simpa using hfin, (HB5.out.setCell (Nat.le_refl _) _).setCell (Nat.le_refl _) _⟩
  · go_wp2_with fail
    refine (HK.out _ _ (Or.inr ⟨hcap, rfl, rfl⟩)).mono ?_
    clear hcap k0 k1
    rintro e w4 ⟨q3, n3, c3, rfl, ho3, hb3⟩
    have hM3 := (hb3.block w.heap.size (by omega)).trans HM.out
    have HB3 := Lib.hid (HB2.out.trans (hb3.mono HB2.out.size))
    have HM3 := Lib.hid hM3
    obtain ⟨v0, v1, _, _⟩ := two_cells ((hb3.block w1.heap.size hlt2).trans HV.out)
    have KC := Lib.hid (copyList_any (c := r) (HN.out.same hb3) (by omega))
    have HO3 := Lib.hid ho3
    have hs3 := hb3.size
    clear ho3 hb3 hM3
    go_wp2_with fail
    refine KC.out.mono ?_
    rintro e w5 ⟨p5, n5, c5, rfl, ho5, hb5⟩
    have hM5 := (hb5.block w.heap.size (by omega)).trans HM3.out
    have HO5 := Lib.hid ho5
    have HOH : Hid (OwnHel w5.heap.size w5 W2.heap.size (.agg #[.slice p5 n5 c5, .slice q3 n3 c3]) ⟨(y.drop 1).take q, decL (y.drop (1 + q))⟩) := Lib.hid (own_hel ho5 (HO3.out.lim.same hb5) ho5.span (by omega) (Nat.le_refl _) (Nat.le_refl _) hb5.size (Or.inr (Nat.le_refl _)) (Nat.le_refl _))
    have HB5 := Lib.hid (HB3.out.trans (hb5.mono HB3.out.size))
    obtain ⟨m0, m1, g0, g1⟩ := two_cells hM5
    obtain ⟨z0, z1, hZ⟩ := two_put hM5 (.slice p5 n5 c5) (.slice q3 n3 c3)
    clear hZ ho5 hb5 hM5 KC v0 v1
    go_wp2_with fail
    (try simp only [Exit.inBlock, Exit.then])
    refine bodyPost_ret (by simp [results, Try.results15, go_sem, z0, z1]; try rfl) rfl ?_
    have hfin := (HOH.out.aside (set2_inside w5 w.heap.size (.slice p5 n5 c5) (.slice q3 n3 c3)) (Or.inl (by omega))).lower (B' := w.heap.size) (by omega)
    exact ⟨_, rfl, by simpa using hfin, (HB5.out.setCell (Nat.le_refl _) _).setCell (Nat.le_refl _) _⟩
theorem readHello_any {b : Option Addr} {m d : Nat} {y : List Int} {w : World} (hv : Nums .i64 w b m y) (hd : m ≤ d ∧ (d : Int) ≤ 9223372036854775807) (hm : m ≤ 1000000000) : Calls Try.prog 15 #[.slice b m d] w (MadeHelB w.heap.size (rdHel y) (rdOk y) w) := by
  have hyl := hv.len
  have no : rdH y = none → Calls Try.prog 15 #[.slice b m d] w (MadeHelB w.heap.size ⟨[], []⟩ false w) → Calls Try.prog 15 #[.slice b m d] w (MadeHelB w.heap.size (rdHel y) (rdOk y) w) := fun e h => by
    rw [(rdH_none e).1, (rdH_none e).2]; exact h
  cases y with
  | nil =>
    refine no rfl (readHello_no hv hd hm fun W h1 h2 => readItems_no _ b m d W ?_ hm)
    obtain rfl : m = 0 := hyl.symm
    exact h1
  | cons z t =>
    by_cases hz : 0 ≤ z ∧ z ≤ (t.length : Int)
    · obtain ⟨q, rfl⟩ : ∃ q : Nat, z = q := ⟨z.toNat, by omega⟩
      have hl : t.length + 1 = m := by rw [← hyl]; rfl
      have hq : q ≤ t.length := by omega
      cases ha : areV (t.take q) with
      | false => exact no (rdH_old ha) (readHello_old hv hd hm (q := q) rfl (by omega) ha)
      | true =>
        have e1 : ((q : Int) :: t).drop (1 + q) = t.drop q := by rw [Nat.add_comm, List.drop_succ_cons]
        cases hdo : decOk (t.drop q) with
        | false => exact no (rdH_at_no hq ha hdo) (readHello_odd hv hd hm (q := q) rfl (by omega) ha (by rw [e1]; exact hdo))
        | true =>
          have e := rdH_some (rdH_at_yes hq ha hdo)
          rw [e.1, e.2]
          have h := readHello_yes hv hd hm (q := q) rfl (by omega) ha (by rw [e1]; exact hdo)
          rw [e1] at h
          exact h
    · refine no (rdH_out hz) (readHello_no hv hd hm fun W h1 h2 => readItems_out _ b m d 0 (z :: t) z W h1 h2 hd hm rfl ?_)
      have hl : t.length + 1 = m := by rw [← hyl]; rfl
      omega
end Go.Proofs.Ytcpnchjgklemgaa
namespace Go.Proofs.Ytcpnchjgklemgaa
open Go.ChangeShapes Go.WideShapes Go.ChangeAt Go.RowKit
set_option linter.unusedVariables false
set_option linter.unusedSimpArgs false

set_option maxHeartbeats 4000000 in
set_option maxRecDepth 100000 in
theorem extsWhereK_any (f : Int → Bool) (P : Nat) {a : Option Addr} {n c : Nat} {l : List Vl} {w : World} (h : Vals w a n l) (hz : ∀ z ∈ tagsX l, (Lit.int .i64 z).wf = true)
    (hA : ∀ (k : Int) (W : World), (Lit.int .i64 k).wf = true → Below w.heap.size w W → Calls Try.prog 112 #[.int .i64 k, .pointer (some ⟨P, 0, none⟩)] W (Told (.bool (f k)) W)) (hn : n ≤ 1048576) (hit : itemsOf l ≤ 1048576) :
    Calls Try.prog 109 #[.slice a n c, .func (.func 112) #[] #[.pointer (some ⟨P, 0, none⟩)]] w (MadeV 99 3 w.heap.size (whX f l) w) := by
  have H := Lib.hid h
  have hln := Lib.hid h.len
  have HZ := Lib.hid hz
  have HA := Lib.hid hA
  obtain ⟨i0, hi, hz0, hz1, hz2⟩ := info_parts infoExtS
  have HI := Lib.hid (And.intro hi (And.intro hz0 (And.intro hz1 hz2)))
  have HO : Hid (OwnV 99 3 (w.alloc (.cells #[] 99)) w.heap.size (some ⟨w.heap.size, 0, none⟩) 0 0 (whX f (l.take 0))) := Lib.hid (OwnV.empty (Nat.le_refl _))
  clear h hz hA hi hz0 hz1 hz2
  go_enter Try.func109, Try.ntmps109
  go_wp2_with fail
  go_loopw [5, 11] (fun v i wr => ∃ (j : Nat) (q : Option Addr) (r e : Nat), j ≤ n ∧ i = .int .i64 j ∧ v = .slice q r e ∧ OwnV 99 3 wr w.heap.size q r e (whX f (l.take j)) ∧ Below w.heap.size w wr) (fun _ i _ => n - (intOf i).toNat)
  case atStart => exact ⟨0, _, _, _, Nat.zero_le _, rfl, rfl, HO.out, alloc_same _ _⟩
  case round =>
    obtain ⟨j, q, r, e, hj, rfl, rfl, hown, hb⟩ := hrel
    have HO2 := Lib.hid hown
    have HB2 := Lib.hid hb
    clear hown hb
    by_cases hlt : j < n
    · obtain ⟨bb, o, p, pm, pd, k, y, rfl, hx, hc0, hc1, hN, hr⟩ := (H.out.same HB2.out).at_ hlt
      have hsz := HB2.out.size
      have hym := hN.len
      have hyi := itemsOf_mem hx
      dsimp only at hyi
      have hrl : r ≤ 1048576 := by
        have h1 := HO2.out.len
        have h2 := wh_few f (l.take j)
        rw [List.length_take] at h2
        omega
      have HW : Hid (Below wr.heap.size wr (wr.alloc (.cells #[.int .i64 k, .slice p pm pd] 99))) := Lib.hid (alloc_same _ _)
      have HWc : Hid ((wr.alloc (.cells #[.int .i64 k, .slice p pm pd] 99)).cell? ⟨wr.heap.size, 0, none⟩ = some (.int .i64 k) ∧ (wr.alloc (.cells #[.int .i64 k, .slice p pm pd] 99)).cell? ⟨wr.heap.size, 1, none⟩ = some (.slice p pm pd)) := Lib.hid ⟨block_cell (heap_alloc_new wr _) 0, block_cell (heap_alloc_new wr _) 1⟩
      have hs2 : wr.heap.size ≤ (wr.alloc (.cells #[.int .i64 k, .slice p pm pd] 99)).heap.size := HW.out.size
      have HK := Lib.hid (HA.out k (wr.alloc (.cells #[.int .i64 k, .slice p pm pd] 99)) (HZ.out k (tags_mem hx)) (HB2.out.trans (HW.out.mono hsz)))
      have HNp := Lib.hid hN
      cases hk : f k with
      | true =>
        have HF : Hid (whX f (l.take (j + 1)) = whX f (l.take j) ++ [⟨k, y⟩]) := Lib.hid (wh_yes hx hk)
        rw [hk] at HK
        clear hx hN hk
        go_wp2_with fail
        refine HK.out.mono ?_
        rintro e2 w2 ⟨rfl, hb2⟩
        have HB3 : Hid (Below wr.heap.size wr w2) := Lib.hid (HW.out.trans (hb2.mono hs2))
        have c0 := cell_stay HWc.out.1 hb2
        have c1 := cell_stay HWc.out.2 hb2
        have hs3 := HB3.out.size
        have HC := Lib.hid (copyExt_any k p pm pd y w2 (HNp.out.same HB3.out) (by omega))
        unfold MadeX at HC
        clear hb2 HK
        go_wp2_with fail
        refine HC.out.mono ?_
        rintro e3 w3 ⟨q3, m3, d3, rfl, ho3, hb3⟩
        have HO3 := Lib.hid ho3
        have HB4 := Lib.hid (HB3.out.trans (hb3.mono hs3))
        have hs4 := HB4.out.size
        have HNN : Hid (Items Vh.enc 2 (w3.alloc (.cells #[.int .i64 k, .slice q3 m3 d3] 99)) (some ⟨w3.heap.size, 0, none⟩) 1 [⟨k, q3, m3, d3⟩]) := Lib.hid (items_new Vh.enc_len w3 ⟨k, q3, m3, d3⟩ 99)
        clear hb3 hc0 hc1 ho3 c0 c1
        go_wp2_with (at_builtin; refine wpl_appV (S := wr.heap.size) (B := w.heap.size) _ rfl (.tmp 19) (.tmp 22) 25 rfl 99 3 i0 (.agg #[.int .i64 0, .slice none 0 0]) 32 Try.underlying25 HI.out.1 HI.out.2.1 HI.out.2.2.1 HI.out.2.2.2 rfl rfl ((HO2.out.lim.same HB4.out).same (alloc_same _ _)) rfl HNN.out ((HO3.out.lower (by omega)).alloc _) (fun ad e => by have := (HO3.out.span ad e).1; omega) (by omega) ?c4 ?c5 ?_)
        case c4 => omega
        case c5 => simp; omega
        intro a4 c4 w4 ho4 hb4
        have HO4 : Hid (OwnV 99 3 w4 w.heap.size a4 (r + 1) c4 (whX f (l.take (j + 1)))) := Lib.hid (by rw [HF.out]; exact ho4)
        have HB5 : Hid (Below w.heap.size w w4) := Lib.hid ((HB2.out.trans (HB4.out.mono hsz)).trans ((((alloc_same _ _).mono (Nat.le_trans hsz hs4))).trans hb4))
        clear ho4 hb4
        go_wp2_with fail
        go_roundw
        case rel => exact ⟨j + 1, a4, _, c4, by omega, by go_num, rfl, HO4.out, HB5.out⟩
        case measure => simp [intOf]; omega
      | false =>
        have HF : Hid (whX f (l.take (j + 1)) = whX f (l.take j)) := Lib.hid (wh_no hx hk)
        rw [hk] at HK
        clear hx hN hk
        go_wp2_with fail
        refine HK.out.mono ?_
        rintro e2 w2 ⟨rfl, hb2⟩
        have HB3 : Hid (Below wr.heap.size wr w2) := Lib.hid (HW.out.trans (hb2.mono hs2))
        clear hb2 HK
        go_wp2_with fail
        go_roundw
        case rel => exact ⟨j + 1, q, r, e, by omega, by go_num, rfl, by rw [HF.out]; exact HO2.out.same HB3.out, HB2.out.trans (HB3.out.mono hsz)⟩
        case measure => simp [intOf]; omega
    · obtain rfl : j = n := by omega
      go_wp2
      go_ret
      have h1 := HO2.out
      rw [List.take_of_length_le (by rw [hln.out]; omega)] at h1
      exact ⟨_, _, _, rfl, h1, HB2.out⟩
end Go.Proofs.Ytcpnchjgklemgaa
