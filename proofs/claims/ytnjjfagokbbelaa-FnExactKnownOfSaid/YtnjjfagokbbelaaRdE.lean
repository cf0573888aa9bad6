/- The parts of an extension, and an extension, read off the cursor: by the program. -/
import Derived.Test.YtnjjfagokbbelaaTg
import Derived.Test.YtnjjfagokbbelaaRfI
namespace Go.Proofs.Ytnjjfagokbbelaa
open Go.ChangeShapes Go.WideShapes Go.ChangeAt Go.RowKit
set_option linter.unusedVariables false
set_option linter.unusedSimpArgs false

/-- What is left by a part that is not read, by a number that is, by a body that is. -/
def PtNo (g : Nat) (w : World) (e : Ending) (w' : World) : Prop := e = .returned .nilIface ∧ w.grownBy w' (some g)
def PtNum (g : Nat) (b : Option Addr) (m d : Nat) (z : Int) (k' : Nat) (w : World) (e : Ending) (w' : World) : Prop :=
  e = .returned (.iface 3 (.int .i64 z)) ∧ Cur w' g b m d k' ∧ w.grownBy w' (some g)
def PtRow (g : Nat) (b : Option Addr) (m d : Nat) (it : List Int) (k' : Nat) (w : World) (e : Ending) (w' : World) : Prop :=
  ∃ p q r, e = .returned (.iface 26 (.slice p q r)) ∧ Own .i64 3 w' w.heap.size p q r it ∧ Cur w' g b m d k' ∧ w.grownBy w' (some g)
theorem rf_none {x : Fd} {y : List Int} {g : Nat} {b : Option Addr} {m d k : Nat} {w : World} (h : rdF x y k = none)
    (hc : Calls Try.prog 103 #[.pointer (some ⟨g, 0, none⟩), x.val] w (RfTold 3 g b m d x y k w)) :
    Calls Try.prog 103 #[.pointer (some ⟨g, 0, none⟩), x.val] w (Rdn g w) := by
  unfold RfTold at hc
  rw [h] at hc
  exact hc
theorem rf_some {x : Fd} {y : List Int} {g : Nat} {b : Option Addr} {m d k k' : Nat} {v : Vl} {w : World} (h : rdF x y k = some (v, k'))
    (hc : Calls Try.prog 103 #[.pointer (some ⟨g, 0, none⟩), x.val] w (RfTold 3 g b m d x y k w)) :
    Calls Try.prog 103 #[.pointer (some ⟨g, 0, none⟩), x.val] w (fun e w' => ∃ p q r, e = .returned (.tuple #[.agg #[.int .i64 v.num, .slice p q r], .bool true]) ∧ Own .i64 3 w' w.heap.size p q r v.items ∧ Cur w' g b m d k' ∧ w.grownBy w' (some g)) := by
  unfold RfTold at hc
  rw [h] at hc
  exact hc
set_option maxHeartbeats 2000000 in
set_option maxRecDepth 100000 in
theorem readPart_no {x : Fd} {ch : Int} {y : List Int} {g : Nat} {b : Option Addr} {m d k : Nat} {w : World} (hp : ∀ w0, Calls Try.prog 84 #[.int .i32 ch] w0 (Told x.val w0)) (hz : rdF x y k = none)
    (hr : ∀ w0, Below w.heap.size w w0 → Calls Try.prog 103 #[.pointer (some ⟨g, 0, none⟩), x.val] w0 (RfTold 3 g b m d x y k w0)) :
    Calls Try.prog 86 #[.pointer (some ⟨g, 0, none⟩), .int .i32 ch] w (PtNo g w) := by
  have KP := Lib.hid (hp w)
  have KR := Lib.hid (fun w0 (hb : Below w.heap.size w w0) => rf_none hz (hr w0 hb))
  clear hp hr hz
  unfold Rdn at KR
  go_enter Try.func86, Try.ntmps86
  go_wp2_with fail
  refine KP.out.mono ?_
  rintro e w1 ⟨rfl, hb1⟩
  have HB1 := Lib.hid hb1
  clear hb1
  go_wp2_with fail
  refine (KR.out w1 HB1.out).mono ?_
  rintro e w2 ⟨rfl, hg2⟩
  have HG2 := Lib.hid ((grown_below HB1.out (some g)).trans hg2)
  clear hg2
  go_wp2_with fail
  go_ret
  exact ⟨rfl, HG2.out.trans (grown_below (alloc_same _ _) _)⟩
set_option maxHeartbeats 2000000 in
set_option maxRecDepth 100000 in
theorem readPart_num {x : Fd} {ch : Int} {y : List Int} {g : Nat} {b : Option Addr} {m d k k' : Nat} {v : Vl} {w : World} (hch : (ch == 98) = false) (hp : ∀ w0, Calls Try.prog 84 #[.int .i32 ch] w0 (Told x.val w0)) (hz : rdF x y k = some (v, k'))
    (hr : ∀ w0, Below w.heap.size w w0 → Calls Try.prog 103 #[.pointer (some ⟨g, 0, none⟩), x.val] w0 (RfTold 3 g b m d x y k w0)) :
    Calls Try.prog 86 #[.pointer (some ⟨g, 0, none⟩), .int .i32 ch] w (PtNum g b m d v.num k' w) := by
  have KP := Lib.hid (hp w)
  have KR := Lib.hid (fun w0 (hb : Below w.heap.size w w0) => rf_some hz (hr w0 hb))
  clear hp hr hz
  go_enter Try.func86, Try.ntmps86
  go_wp2_with fail
  refine KP.out.mono ?_
  rintro e w1 ⟨rfl, hb1⟩
  have HB1 := Lib.hid hb1
  clear hb1
  go_wp2_with fail
  refine (KR.out w1 HB1.out).mono ?_
  rintro e w2 ⟨p, q, r, rfl, ho2, hc2, hg2⟩
  have HG2 := Lib.hid ((grown_below HB1.out (some g)).trans hg2)
  have HC2 := Lib.hid hc2
  clear hg2 hc2 ho2
  go_wp2_with fail
  go_ret
  exact ⟨rfl, HC2.out.same (alloc_same _ _), HG2.out.trans (grown_below (alloc_same _ _) _)⟩
set_option maxHeartbeats 2000000 in
set_option maxRecDepth 100000 in
theorem readPart_row {x : Fd} {y : List Int} {g : Nat} {b : Option Addr} {m d k k' : Nat} {v : Vl} {w : World} (hp : ∀ w0, Calls Try.prog 84 #[.int .i32 98] w0 (Told x.val w0)) (hz : rdF x y k = some (v, k'))
    (hr : ∀ w0, Below w.heap.size w w0 → Calls Try.prog 103 #[.pointer (some ⟨g, 0, none⟩), x.val] w0 (RfTold 3 g b m d x y k w0)) :
    Calls Try.prog 86 #[.pointer (some ⟨g, 0, none⟩), .int .i32 98] w (PtRow g b m d v.items k' w) := by
  have KP := Lib.hid (hp w)
  have KR := Lib.hid (fun w0 (hb : Below w.heap.size w w0) => rf_some hz (hr w0 hb))
  clear hp hr hz
  go_enter Try.func86, Try.ntmps86
  go_wp2_with fail
  refine KP.out.mono ?_
  rintro e w1 ⟨rfl, hb1⟩
  have HB1 := Lib.hid hb1
  clear hb1
  go_wp2_with fail
  refine (KR.out w1 HB1.out).mono ?_
  rintro e w2 ⟨p, q, r, rfl, ho2, hc2, hg2⟩
  have HG2 := Lib.hid ((grown_below HB1.out (some g)).trans hg2)
  have HC2 := Lib.hid hc2
  have HO2 := Lib.hid (ho2.lower HB1.out.size)
  clear hg2 hc2 ho2
  go_wp2_with fail
  go_ret
  exact ⟨_, _, _, rfl, HO2.out.same (alloc_same _ _), HC2.out.same (alloc_same _ _), HG2.out.trans (grown_below (alloc_same _ _) _)⟩
theorem is_int (z : Int) (w : World) : (Instr.typeAssert (.iface 3 (.int .i64 z)) 20 3 true).run Try.prog w = .ok (.tuple #[.int .i64 z, .bool true]) w := by kernel_rfl
theorem is_row (p : Option Addr) (q r : Nat) (w : World) : (Instr.typeAssert (.iface 26 (.slice p q r)) 20 26 true).run Try.prog w = .ok (.tuple #[.slice p q r, .bool true]) w := by kernel_rfl
theorem not_int (w : World) : (Instr.typeAssert .nilIface 20 3 true).run Try.prog w = .ok (.tuple #[.int .i64 0, .bool false]) w := by kernel_rfl
theorem not_row (w : World) : (Instr.typeAssert .nilIface 20 26 true).run Try.prog w = .ok (.tuple #[.slice none 0 0, .bool false]) w := by kernel_rfl
set_option maxHeartbeats 4000000 in
set_option maxRecDepth 100000 in
theorem readExt_no1 (g : Nat) (b : Option Addr) (m d k : Nat) (y : List Int) (w : World) (h : Cur w g b m d k) (hv : Fix w g b m y) (hd : m ≤ d ∧ (d : Int) ≤ 9223372036854775807) (hm : m ≤ 1000000000) (hk : k ≤ m) (h1 : rdF fdT y k = none) :
    Calls Try.prog 87 #[.pointer (some ⟨g, 0, none⟩)] w (Rdn g w) := by
  have hgl := h.lt
  have hb0 := alloc_same w (.cells #[.int .i64 0, .slice none 0 0] 57)
  have hM := heap_alloc_new w (.cells #[.int .i64 0, .slice none 0 0] 57)
  have hsz : w.heap.size + 1 = (w.alloc (.cells #[.int .i64 0, .slice none 0 0] 57)).heap.size := by simp
  have h0 := h.same hb0
  have hv0 := hv.same hb0
  have HB0 := Lib.hid hb0
  have KT := Lib.hid (readPart_no (w := w.alloc (.cells #[.int .i64 0, .slice none 0 0] 57)) partTag h1 (fun w0 hb => readField_any fdT g b m d k y w0 (h0.same hb) (hv0.same hb) hd hm hk (Or.inl rfl)))
  have NI := not_int
  unfold PtNo at KT
  unfold Rdn
  clear h hv h0 hv0 hb0 h1
  go_enter Try.func87, Try.ntmps87
  go_wp2_with fail
  generalize w.alloc (.cells #[.int .i64 0, .slice none 0 0] 57) = W0 at *
  refine KT.out.mono ?_
  rintro e w1 ⟨rfl, hg1⟩
  have hM1 : w1.heap[w.heap.size]? = some (.cells #[.int .i64 0, .slice none 0 0] 57 (0, 0)) := by rw [hg1.block _ (by omega) (by simp; omega)]; exact hM
  have HG1 := Lib.hid ((grown_below HB0.out (some g)).trans hg1)
  clear hM hg1
  obtain ⟨m0, m1, g0, g1⟩ := two_cells hM1
  obtain ⟨z0, z1, hZ⟩ := two_put hM1 (.int .i64 0) (.slice none 0 0)
  clear hM1 hZ
  go_wp2_with fail
  (try simp only [Exit.inBlock, Exit.then])
  refine bodyPost_ret (by simp [results, Try.results87, go_sem, z0, z1]; try rfl) rfl ?_
  exact ⟨rfl, grown_set2 HG1.out (by omega) _ _⟩
set_option maxHeartbeats 4000000 in
set_option maxRecDepth 100000 in
theorem readExt_no2 (g : Nat) (b : Option Addr) (m d k k1 : Nat) (y : List Int) (w : World) (h : Cur w g b m d k) (hv : Fix w g b m y) (hd : m ≤ d ∧ (d : Int) ≤ 9223372036854775807) (hm : m ≤ 1000000000) (hk : k ≤ m) (t : Vl) (hk1 : k1 ≤ m) (h1 : rdF fdT y k = some (t, k1)) (h2 : rdF fdB y k1 = none) :
    Calls Try.prog 87 #[.pointer (some ⟨g, 0, none⟩)] w (Rdn g w) := by
  have hgl := h.lt
  have hb0 := alloc_same w (.cells #[.int .i64 0, .slice none 0 0] 57)
  have hM := heap_alloc_new w (.cells #[.int .i64 0, .slice none 0 0] 57)
  have hsz : w.heap.size + 1 = (w.alloc (.cells #[.int .i64 0, .slice none 0 0] 57)).heap.size := by simp
  have h0 := h.same hb0
  have hv0 := hv.same hb0
  have HB0 := Lib.hid hb0
  have KT := Lib.hid (readPart_num (w := w.alloc (.cells #[.int .i64 0, .slice none 0 0] 57)) (by decide) partTag h1 (fun w0 hb => readField_any fdT g b m d k y w0 (h0.same hb) (hv0.same hb) hd hm hk (Or.inl rfl)))
  have NI := is_int t.num
  have HV := Lib.hid hv0
  unfold PtNum at KT
  have NR := not_row
  unfold Rdn
  clear h hv h0 hv0 hb0 h1
  go_enter Try.func87, Try.ntmps87
  go_wp2_with fail
  generalize w.alloc (.cells #[.int .i64 0, .slice none 0 0] 57) = W0 at *
  refine KT.out.mono ?_
  rintro e w1 ⟨rfl, hc1, hg1⟩
  have hs1 : w.heap.size + 1 ≤ w1.heap.size := by have := hg1.size; omega
  have hM1 : w1.heap[w.heap.size]? = some (.cells #[.int .i64 0, .slice none 0 0] 57 (0, 0)) := by rw [hg1.block _ (by omega) (by simp; omega)]; exact hM
  have HG1 := Lib.hid ((grown_below HB0.out (some g)).trans hg1)
  have KB := Lib.hid (readPart_no (w := w1) partBody h2 (fun w0 hb => readField_any fdB g b m d k1 y w0 (hc1.same hb) ((HV.out.on hg1).same hb) hd hm hk1 (Or.inr (Or.inl rfl))))
  unfold PtNo at KB
  clear hM hg1 hc1
  go_wp2_with fail
  refine KB.out.mono ?_
  rintro e w2 ⟨rfl, hg2⟩
  have hM2 : w2.heap[w.heap.size]? = some (.cells #[.int .i64 0, .slice none 0 0] 57 (0, 0)) := by rw [hg2.block _ (by omega) (by simp; omega)]; exact hM1
  have HG2 := Lib.hid (HG1.out.trans hg2)
  clear hM1 hg2
  obtain ⟨m0, m1, g0, g1⟩ := two_cells hM2
  obtain ⟨z0, z1, hZ⟩ := two_put hM2 (.int .i64 0) (.slice none 0 0)
  clear hM2 hZ
  go_wp2_with fail
  (try simp only [Exit.inBlock, Exit.then])
  refine bodyPost_ret (by simp [results, Try.results87, go_sem, z0, z1]; try rfl) rfl ?_
  exact ⟨rfl, grown_set2 HG2.out (by omega) _ _⟩
set_option maxHeartbeats 4000000 in
set_option maxRecDepth 100000 in
theorem readExt_yes (g : Nat) (b : Option Addr) (m d k k1 k2 : Nat) (y : List Int) (w : World) (h : Cur w g b m d k) (hv : Fix w g b m y) (hd : m ≤ d ∧ (d : Int) ≤ 9223372036854775807) (hm : m ≤ 1000000000) (hk : k ≤ m) (t v : Vl) (hk1 : k1 ≤ m) (h1 : rdF fdT y k = some (t, k1)) (h2 : rdF fdB y k1 = some (v, k2)) :
    Calls Try.prog 87 #[.pointer (some ⟨g, 0, none⟩)] w (fun e w' => ∃ p q r, e = .returned (.tuple #[.agg #[.int .i64 t.num, .slice p q r], .bool true]) ∧ Own .i64 3 w' w.heap.size p q r v.items ∧ Cur w' g b m d k2 ∧ w.grownBy w' (some g)) := by
  have hgl := h.lt
  have hb0 := alloc_same w (.cells #[.int .i64 0, .slice none 0 0] 57)
  have hM := heap_alloc_new w (.cells #[.int .i64 0, .slice none 0 0] 57)
  have hsz : w.heap.size + 1 = (w.alloc (.cells #[.int .i64 0, .slice none 0 0] 57)).heap.size := by simp
  have h0 := h.same hb0
  have hv0 := hv.same hb0
  have HB0 := Lib.hid hb0
  have KT := Lib.hid (readPart_num (w := w.alloc (.cells #[.int .i64 0, .slice none 0 0] 57)) (by decide) partTag h1 (fun w0 hb => readField_any fdT g b m d k y w0 (h0.same hb) (hv0.same hb) hd hm hk (Or.inl rfl)))
  have NI := is_int t.num
  have HV := Lib.hid hv0
  unfold PtNum at KT
  have NR := is_row
  clear h hv h0 hv0 hb0 h1
  go_enter Try.func87, Try.ntmps87
  go_wp2_with fail
  generalize w.alloc (.cells #[.int .i64 0, .slice none 0 0] 57) = W0 at *
  refine KT.out.mono ?_
  rintro e w1 ⟨rfl, hc1, hg1⟩
  have hs1 : w.heap.size + 1 ≤ w1.heap.size := by have := hg1.size; omega
  have hM1 : w1.heap[w.heap.size]? = some (.cells #[.int .i64 0, .slice none 0 0] 57 (0, 0)) := by rw [hg1.block _ (by omega) (by simp; omega)]; exact hM
  have HG1 := Lib.hid ((grown_below HB0.out (some g)).trans hg1)
  have KB := Lib.hid (readPart_row (w := w1) partBody h2 (fun w0 hb => readField_any fdB g b m d k1 y w0 (hc1.same hb) ((HV.out.on hg1).same hb) hd hm hk1 (Or.inr (Or.inl rfl))))
  unfold PtRow at KB
  clear hM hg1 hc1
  go_wp2_with fail
  refine KB.out.mono ?_
  rintro e w2 ⟨p, q, r, rfl, ho2, hc2, hg2⟩
  have hM2 : w2.heap[w.heap.size]? = some (.cells #[.int .i64 0, .slice none 0 0] 57 (0, 0)) := by rw [hg2.block _ (by omega) (by simp; omega)]; exact hM1
  have HG2 := Lib.hid (HG1.out.trans hg2)
  have HC2 := Lib.hid hc2
  have HO2 := Lib.hid (ho2.lower (B' := w.heap.size) (by omega))
  have HOUT : Hid (∀ ad, p = some ad → ad.block ≠ w.heap.size) := Lib.hid (fun ad e => by have := (ho2.span ad e).1; omega)
  clear hM1 hg2 hc2 ho2
  obtain ⟨m0, m1, g0, g1⟩ := two_cells hM2
  obtain ⟨z0, z1, hZ⟩ := two_put hM2 (.int .i64 t.num) (.slice p q r)
  clear hM2 hZ
  go_wp2_with fail
  (try simp only [Exit.inBlock, Exit.then])
  refine bodyPost_ret (by simp [results, Try.results87, go_sem, z0, z1]; try rfl) rfl ?_
  exact ⟨p, q, r, rfl, (HO2.out.set HOUT.out _ _).set HOUT.out _ _, HC2.out.set2 (by omega) _ _, grown_set2 HG2.out (by omega) _ _⟩
/-- What is left by the reading of one extension. -/
def RxTold (tI : TypeId) (g : Nat) (b : Option Addr) (m d : Nat) (y : List Int) (k : Nat) (w : World) (e : Ending) (w' : World) : Prop :=
  match rdX y k with
  | none => Rdn g w e w'
  | some (x, k') => ∃ p q r, e = .returned (.tuple #[.agg #[.int .i64 x.num, .slice p q r], .bool true]) ∧ Own .i64 tI w' w.heap.size p q r x.items ∧ Cur w' g b m d k' ∧ w.grownBy w' (some g)
theorem readExt_any (g : Nat) (b : Option Addr) (m d k : Nat) (y : List Int) (w : World) (h : Cur w g b m d k) (hv : Fix w g b m y) (hd : m ≤ d ∧ (d : Int) ≤ 9223372036854775807) (hm : m ≤ 1000000000) (hk : k ≤ m) :
    Calls Try.prog 87 #[.pointer (some ⟨g, 0, none⟩)] w (RxTold 3 g b m d y k w) := by
  have hyl := hv.len
  unfold RxTold rdX
  cases h1 : rdF fdT y k with
  | none => exact readExt_no1 g b m d k y w h hv hd hm hk h1
  | some p =>
    obtain ⟨t, k1⟩ := p
    have hk1 : k1 ≤ m := by have := (rdF_form h1).2.1; omega
    dsimp only
    cases h2 : rdF fdB y k1 with
    | none => exact readExt_no2 g b m d k k1 y w h hv hd hm hk t hk1 h1 h2
    | some q =>
      obtain ⟨v, k2⟩ := q
      exact readExt_yes g b m d k k1 k2 y w h hv hd hm hk t v hk1 h1 h2
end Go.Proofs.Ytnjjfagokbbelaa
