/- The cursor from which the inputs of the laws are drawn: what its steps return and leave; a number out of a list. -/
import Derived.Test.YtiaknjeeonlbcaaMem
import Derived.Test.YtiaknjeeonlbcaaOpen
import Derived.Test.YtiaknjeeonlbcaaUv
import Derived.Laws.BitsLemmas
import Derived.Deep.RegionHeld
import Derived.Deep.QuietTactic
import Derived.BigQuiet
import Derived.RegionTactic
namespace Go.Proofs.Ytiaknjeeonlbcaa
open Go.ChangeShapes Go.WideShapes Go.ChangeAt Go.RowKit
set_option linter.unusedVariables false

theorem and255 (n : Int) : bits .and .i64 n 255 = n % 256 := by
  have h : (BitVec.ofInt 64 255).toNat = 2 ^ 8 - 1 := by decide
  have key : (BitVec.ofInt 64 n &&& BitVec.ofInt 64 255).toNat = (n % ((2 ^ 64 : Nat) : Int)).toNat % 2 ^ 8 := by
    rw [BitVec.toNat_and, BitVec.toNat_ofInt, h, Nat.and_two_pow_sub_one_eq_mod]
  show IntKind.i64.wrap ((BitVec.ofInt 64 n &&& BitVec.ofInt 64 255).toNat : Nat) = n % 256
  rw [key, IntKind.wrap_i64]
  omega
theorem and30 (n : Int) : bits .and .i64 n 1073741823 = n % 1073741824 := by
  have h : (BitVec.ofInt 64 1073741823).toNat = 2 ^ 30 - 1 := by decide
  have key : (BitVec.ofInt 64 n &&& BitVec.ofInt 64 1073741823).toNat = (n % ((2 ^ 64 : Nat) : Int)).toNat % 2 ^ 30 := by
    rw [BitVec.toNat_and, BitVec.toNat_ofInt, h, Nat.and_two_pow_sub_one_eq_mod]
  show IntKind.i64.wrap ((BitVec.ofInt 64 n &&& BitVec.ofInt 64 1073741823).toNat : Nat) = n % 1073741824
  rw [key, IntKind.wrap_i64]
  omega

/-- Block b is a cursor over n bytes from a on; it stands at place i. -/
def CurAt (w : World) (b : Nat) (a : Option Addr) (n c : Nat) (i h : Int) : Prop :=
  w.heap[b]? = some (.cells #[.slice a n c, .int .i64 i, .int .i64 h] 55 (0, 0))
/-- The n bytes from a on. -/
def Bytes (w : World) (a : Option Addr) (n : Nat) : Prop := ∀ j, j < n → ∃ ad, a = some ad ∧ ∃ x : Int, 0 ≤ x ∧ x ≤ 255 ∧ w.cell? (ad.add j) = some (.int .u8 x)

theorem cur_cells {w : World} {b : Nat} {a : Option Addr} {n c : Nat} {i h : Int} (hcur : CurAt w b a n c i h) :
    w.cell? ⟨b, 0, none⟩ = some (.slice a n c) ∧ w.cell? ⟨b, 1, none⟩ = some (.int .i64 i) ∧ w.cell? ⟨b, 2, none⟩ = some (.int .i64 h) ∧ ∀ o, w.frozen? ⟨b, o, none⟩ = false := by
  unfold CurAt at hcur
  exact ⟨by simp [World.cell?, hcur], by simp [World.cell?, hcur], by simp [World.cell?, hcur], by intro o; simp [World.frozen?, hcur]⟩

/-- Nothing but block b has changed; the world may have new blocks. -/
structure Only (b : Nat) (w w' : World) : Prop where
  os : w'.os = w.os
  tape : w'.tape = w.tape
  output : w'.output = w.output
  size : w.heap.size ≤ w'.heap.size
  block : ∀ k, k < w.heap.size → k ≠ b → w'.heap[k]? = w.heap[k]?
theorem Only.refl (b : Nat) (w : World) : Only b w w := ⟨rfl, rfl, rfl, Nat.le_refl _, fun _ _ _ => rfl⟩
theorem Only.trans {b : Nat} {u v w : World} (h : Only b u v) (k : Only b v w) : Only b u w :=
  ⟨k.os.trans h.os, k.tape.trans h.tape, k.output.trans h.output, Nat.le_trans h.size k.size, fun j hj hb => (k.block j (Nat.lt_of_lt_of_le hj h.size) hb).trans (h.block j hj hb)⟩
theorem Only.drewN {b : Nat} {w w' : World} (h : Only b w w') (q : Nat) : Only b w (w'.drewN q) := ⟨h.os, h.tape, h.output, h.size, h.block⟩
theorem Only.setCell {b : Nat} {w w' : World} (h : Only b w w') (o : Nat) (v : Value) : Only b w (w'.setCell ⟨b, o, none⟩ v) :=
  ⟨h.os, h.tape, h.output, Nat.le_trans h.size ((Below.refl 0 w').setCell (Nat.zero_le _) v).size, fun k hk hb => by rw [Below.heap_setCell _ _ _ _ hb]; exact h.block k hk hb⟩
theorem Only.alloc {b : Nat} {w w' : World} (h : Only b w w') (o : Obj) : Only b w (w'.alloc o) :=
  ⟨h.os, h.tape, h.output, by simp; have := h.size; omega, fun k hk hb => by rw [Below.heap_alloc _ _ _ (Nat.lt_of_lt_of_le hk h.size)]; exact h.block k hk hb⟩
theorem Only.below {b B : Nat} {w w' : World} (h : Only b w w') (hB : B ≤ b) (hw : B ≤ w.heap.size) : Below B w w' :=
  ⟨h.os, h.tape, h.output, h.size, fun k hk => h.block k (by omega) (by omega)⟩
theorem Only.cell {b : Nat} {w w' : World} (h : Only b w w') {p : Addr} (hp : p.block < w.heap.size) (hb : p.block ≠ b) : w'.cell? p = w.cell? p :=
  World.cell?_of_block (w := w) (h.block p.block hp hb)
theorem Only.bytes {b : Nat} {w w' : World} (h : Only b w w') {a : Option Addr} {n : Nat} (hb : Bytes w a n) (hne : 0 < n → ∀ ad, a = some ad → ad.block ≠ b) : Bytes w' a n := by
  intro j hj
  obtain ⟨ad, e, x, h0, h1, hx⟩ := hb j hj
  refine ⟨ad, e, x, h0, h1, ?_⟩
  rw [h.cell (cell_in hx) (by rw [addr_block]; exact hne (by omega) ad e)]
  exact hx
theorem Only.curs {b : Nat} {w w' : World} {d : Nat} {a : Option Addr} {n c : Nat} {i h : Int} (ho : Only b w w') (hc : CurAt w d a n c i h) (hd : d ≠ b) : CurAt w' d a n c i h := by
  unfold CurAt at *
  have hlt : d < w.heap.size := by
    rcases Nat.lt_or_ge d w.heap.size with h1 | h1
    · exact h1
    · rw [Array.getElem?_eq_none h1] at hc; cases hc
  rw [ho.block d hlt hd]
  exact hc
theorem CurAt.set2 {w : World} {b : Nat} {a : Option Addr} {n c : Nat} {i h : Int} (hc : CurAt w b a n c i h) (h' : Int) : CurAt (w.setCell ⟨b, 2, none⟩ (.int .i64 h')) b a n c i h' := by
  unfold CurAt at *
  rw [Joins.block_setCell hc]
  rfl
theorem CurAt.set1 {w : World} {b : Nat} {a : Option Addr} {n c : Nat} {i h : Int} (hc : CurAt w b a n c i h) (i' : Int) : CurAt (w.setCell ⟨b, 1, none⟩ (.int .i64 i')) b a n c i' h := by
  unfold CurAt at *
  rw [Joins.block_setCell hc]
  rfl

set_option maxRecDepth 100000 in
theorem byte_out (b : Nat) (a : Option Addr) (n c k : Nat) (h : Int) (w : World) (hcur : CurAt w b a n c k h) (h1 : ¬ k < n) (hn : (n : Int) ≤ 9223372036854775807) :
    Calls Try.prog 55 #[.pointer (some ⟨b, 0, none⟩)] w fun e w' => ∃ x h' : Int, 0 ≤ x ∧ x ≤ 255 ∧ e = .returned (.int .i64 x) ∧ CurAt w' b a n c k h' ∧ Only b w w' := by
  obtain ⟨hc0, hc1, hc2, hf⟩ := cur_cells hcur
  have hf1 := hf 1
  have hf2 := hf 2
  clear hf
  have H := Lib.hid hcur
  clear hcur
  obtain ⟨h', hw⟩ : ∃ h', wrap64 (wrap64 (h * 6364136223846793005) + 1442695040888963407) = h' := ⟨_, rfl⟩
  obtain ⟨x, hx⟩ : ∃ x, bits .and .i64 (bits .xor .i64 (h' / 8589934592) (h' / 140737488355328)) 255 = x := ⟨_, rfl⟩
  have hx0 : 0 ≤ x := by rw [and255] at hx; omega
  have hx1 : x ≤ 255 := by rw [and255] at hx; omega
  have hdec : decide ((k : Int) < (n : Int)) = false := by simp; omega
  go_enter Try.func55, Try.ntmps55
  go_wp2
  go_quiet (fail)
  go_wp2
  go_quiet (fail)
  go_wp2
  go_ret
  exact ⟨x, h', hx0, hx1, rfl, H.out.set2 h', (((Only.refl b w).setCell 2 _).drewN _).drewN _⟩
set_option maxRecDepth 100000 in
theorem byte_in (b : Nat) (ad : Addr) (n c k : Nat) (h y : Int) (w : World) (hcur : CurAt w b (some ad) n c k h) (h1 : k < n) (hn : (n : Int) ≤ 9223372036854775807)
    (hy : w.cell? (ad.add k) = some (.int .u8 y)) (hy0 : 0 ≤ y) (hy1 : y ≤ 255) (hab : ad.block ≠ b) :
    Calls Try.prog 55 #[.pointer (some ⟨b, 0, none⟩)] w fun e w' => ∃ x h' : Int, 0 ≤ x ∧ x ≤ 255 ∧ e = .returned (.int .i64 x) ∧ CurAt w' b (some ad) n c (k + 1 : Nat) h' ∧ Only b w w' := by
  obtain ⟨hc0, hc1, hc2, hf⟩ := cur_cells hcur
  have hf1 := hf 1
  have hf2 := hf 2
  clear hf
  have H := Lib.hid hcur
  clear hcur
  obtain ⟨h', hw⟩ : ∃ h', wrap64 (wrap64 (h * 6364136223846793005) + 1442695040888963407) = h' := ⟨_, rfl⟩
  obtain ⟨x, hx⟩ : ∃ x, bits .and .i64 (bits .xor .i64 (h' / 8589934592) (h' / 140737488355328)) 255 = x := ⟨_, rfl⟩
  have hx0 : 0 ≤ x := by rw [and255] at hx; omega
  have hx1 : x ≤ 255 := by rw [and255] at hx; omega
  obtain ⟨x2, hx2⟩ : ∃ x2, bits .and .i64 (x + y) 255 = x2 := ⟨_, rfl⟩
  have hx20 : 0 ≤ x2 := by rw [and255] at hx2; omega
  have hx21 : x2 ≤ 255 := by rw [and255] at hx2; omega
  have hdec : decide ((k : Int) < (n : Int)) = true := by simp; omega
  have hcy : (w.setCell ⟨b, 2, none⟩ (.int .i64 h')).cell? (ad.add k) = some (.int .u8 y) := by
    rw [World.cell?_setCell_far _ _ _ _ (by unfold Addr.add; split <;> exact fun e => hab e.symm)]; exact hy
  clear hy
  go_enter Try.func55, Try.ntmps55
  go_wp2
  go_quiet (fail)
  go_wp2
  go_quiet (fail)
  go_wp2
  go_quiet (fail)
  go_wp2
  go_ret
  exact ⟨x2, h', hx20, hx21, rfl, (H.out.set2 h').set1 _, (((Only.refl b w).setCell 2 _).drewN _).setCell 1 _⟩

/-- A cursor in block b over the bytes of a. -/
def Curs (w : World) (b : Nat) (a : Option Addr) (n c : Nat) : Prop := (∃ k : Nat, ∃ h : Int, k ≤ n ∧ CurAt w b a n c k h) ∧ Bytes w a n ∧ (n : Int) ≤ 9223372036854775807 ∧ (0 < n → ∀ ad, a = some ad → ad.block ≠ b)
/-- What a step of the cursor in block b leaves. -/
def Drawn (b : Nat) (a : Option Addr) (n c : Nat) (w w' : World) : Prop := Curs w' b a n c ∧ Only b w w'
theorem Drawn.refl {w : World} {b : Nat} {a : Option Addr} {n c : Nat} (h : Curs w b a n c) : Drawn b a n c w w := ⟨h, Only.refl _ _⟩
theorem Drawn.trans {u v w : World} {b : Nat} {a : Option Addr} {n c : Nat} (h : Drawn b a n c u v) (k : Drawn b a n c v w) : Drawn b a n c u w := ⟨k.1, h.2.trans k.2⟩
theorem Only.same {b : Nat} {u v w : World} (h : Only b u v) (hb : Below v.heap.size v w) : Only b u w :=
  h.trans ⟨hb.os, hb.tape, hb.output, hb.size, fun k hk _ => hb.block k hk⟩
theorem Bytes.same {w w' : World} {a : Option Addr} {n : Nat} (h : Bytes w a n) (hb : Below w.heap.size w w') : Bytes w' a n := by
  intro j hj
  obtain ⟨ad, e, x, h0, h1, hx⟩ := h j hj
  exact ⟨ad, e, x, h0, h1, by rw [hb.cell (cell_in hx)]; exact hx⟩
theorem CurAt.lt {w : World} {b : Nat} {a : Option Addr} {n c : Nat} {i h : Int} (hc : CurAt w b a n c i h) : b < w.heap.size := by
  unfold CurAt at hc
  rcases Nat.lt_or_ge b w.heap.size with h1 | h1
  · exact h1
  · rw [Array.getElem?_eq_none h1] at hc; cases hc
theorem Curs.lt {w : World} {b : Nat} {a : Option Addr} {n c : Nat} (h : Curs w b a n c) : b < w.heap.size := by
  obtain ⟨⟨_, _, _, hcur⟩, _⟩ := h
  exact hcur.lt
theorem Curs.same {w w' : World} {b : Nat} {a : Option Addr} {n c : Nat} (h : Curs w b a n c) (hB : Below w.heap.size w w') : Curs w' b a n c := by
  obtain ⟨⟨k, hh, hk, hcur⟩, hb, hn, hne⟩ := h
  refine ⟨⟨k, hh, hk, ?_⟩, hb.same hB, hn, hne⟩
  have hlt := hcur.lt
  unfold CurAt at *
  rw [hB.block b hlt]
  exact hcur
theorem Drawn.same {u v w : World} {b : Nat} {a : Option Addr} {n c : Nat} (h : Drawn b a n c u v) (hB : Below v.heap.size v w) : Drawn b a n c u w := ⟨h.1.same hB, h.2.same hB⟩
theorem Drawn.below {b B : Nat} {a : Option Addr} {n c : Nat} {w w' : World} (h : Drawn b a n c w w') (hB : B ≤ b) (hw : B ≤ w.heap.size) : Below B w w' := h.2.below hB hw
theorem step_any (b : Nat) (a : Option Addr) (n c : Nat) (w : World) (hc : Curs w b a n c) :
    Calls Try.prog 55 #[.pointer (some ⟨b, 0, none⟩)] w fun e w' => ∃ x : Int, 0 ≤ x ∧ x ≤ 255 ∧ e = .returned (.int .i64 x) ∧ Drawn b a n c w w' := by
  obtain ⟨⟨k, h, hk, hcur⟩, hb, hn, hne⟩ := hc
  by_cases h1 : k < n
  · obtain ⟨ad, rfl, y, hy0, hy1, hy⟩ := hb k h1
    refine (byte_in b ad n c k h y w hcur h1 hn hy hy0 hy1 (hne (by omega) ad rfl)).mono ?_
    rintro e w' ⟨x, h', hx0, hx1, he, hc', ho⟩
    exact ⟨x, hx0, hx1, he, ⟨⟨k + 1, h', by omega, hc'⟩, ho.bytes hb hne, hn, hne⟩, ho⟩
  · refine (byte_out b a n c k h w hcur h1 hn).mono ?_
    rintro e w' ⟨x, h', hx0, hx1, he, hc', ho⟩
    exact ⟨x, hx0, hx1, he, ⟨⟨k, h', hk, hc'⟩, ho.bytes hb hne, hn, hne⟩, ho⟩

set_option maxRecDepth 100000 in
theorem belowNo_any (b : Nat) (a : Option Addr) (n c : Nat) (m : Int) (hm : m ≤ 0) (w : World) :
    Calls Try.prog 46 #[.pointer (some ⟨b, 0, none⟩), .int .i64 m] w fun e w' => e = .returned (.int .i64 0) ∧ w = w' := by
  go_enter Try.func46, Try.ntmps46
  go_wp2_with fail
  go_ret
  exact ⟨rfl, rfl⟩
set_option maxRecDepth 100000 in
theorem below_any (b : Nat) (a : Option Addr) (n c : Nat) (m : Int) (hm : 1 ≤ m) (hm2 : m ≤ 9223372036854775807) (w : World) (hc : Curs w b a n c) :
    Calls Try.prog 46 #[.pointer (some ⟨b, 0, none⟩), .int .i64 m] w fun e w' => ∃ x : Int, 0 ≤ x ∧ x < m ∧ e = .returned (.int .i64 x) ∧ Drawn b a n c w w' := by
  have H := Lib.hid hc
  clear hc
  by_cases h256 : m ≤ 256
  · go_enter Try.func46, Try.ntmps46
    go_wp2_with (go_at_call 55; refine (step_any b a n c _ H.out).mono ?_; rintro e w' ⟨x, hx0, hx1, rfl, hd⟩)
    go_ret
    exact ⟨x % m, Int.emod_nonneg _ (by omega), Int.emod_lt_of_pos _ (by omega), rfl, hd⟩
  · go_enter Try.func46, Try.ntmps46
    go_wp2_with fail
    refine (step_any b a n c _ H.out).mono ?_
    rintro e w1 ⟨x, hx0, hx1, rfl, hd1⟩
    have H1 := Lib.hid hd1
    clear hd1
    go_wp2_with fail
    refine (step_any b a n c _ H1.out.1).mono ?_
    rintro e w2 ⟨y, hy0, hy1, rfl, hd2⟩
    have H2 := Lib.hid hd2
    clear hd2
    go_wp2_with fail
    refine (step_any b a n c _ H2.out.1).mono ?_
    rintro e w3 ⟨z, hz0, hz1, rfl, hd3⟩
    have H3 := Lib.hid hd3
    clear hd3
    go_wp2_with fail
    go_ret
    exact ⟨_, Int.emod_nonneg _ (by omega), Int.emod_lt_of_pos _ (by omega), rfl, (H1.out.trans H2.out).trans H3.out⟩
theorem ret_int {k : IntKind} {a b : Int} (h : a = b) : Ending.returned (.int k a) = .returned (.int k b) := by rw [h]
theorem new_curs {w : World} {a : Option Addr} {n c : Nat} {z : Int} (hn : (n : Int) ≤ 9223372036854775807) (hb : Bytes w a n) :
    Curs (w.alloc (.cells #[.slice a n c, .int .i64 0, .int .i64 z] 55)) w.heap.size a n c :=
  ⟨⟨0, z, Nat.zero_le _, by unfold CurAt; show (w.heap.push _)[w.heap.size]? = _; simp⟩, hb.same (alloc_same _ _), by omega, fun h0 ad e h => by
    obtain ⟨ad', e', x, _, _, hx⟩ := hb 0 h0
    rw [e] at e'
    cases e'
    have := cell_in hx
    rw [addr_block] at this
    omega⟩

set_option maxRecDepth 100000 in
theorem pick_any (b : Nat) (a : Option Addr) (n c : Nat) (lb m : Nat) (zs : List Int) (hm : 1 ≤ m) (hm2 : (m : Int) ≤ 9223372036854775807) (w : World) (hc : Curs w b a n c) (hlb : lb ≠ b)
    (hz : ∀ j, j < m → w.cell? ⟨lb, j, none⟩ = some (.int .i64 (zs.getD j 0))) :
    Calls Try.prog 26 #[.pointer (some ⟨b, 0, none⟩), .slice (some ⟨lb, 0, none⟩) m m] w fun e w' => ∃ j : Nat, j < m ∧ e = .returned (.int .i64 (zs.getD j 0)) ∧ Drawn b a n c w w' := by
  have H := Lib.hid hc
  have HZ := Lib.hid hz
  clear hc hz
  go_enter Try.func26, Try.ntmps26
  go_wp2_with fail
  refine (below_any b a n c m (by omega) hm2 _ H.out).mono ?_
  rintro e w1 ⟨x, hx0, hx1, rfl, hd1⟩
  obtain ⟨k, rfl⟩ : ∃ k : Nat, x = k := ⟨x.toNat, by omega⟩
  have hcell : w1.cell? ⟨lb, k, none⟩ = some (.int .i64 (zs.getD k 0)) := by
    rw [hd1.2.cell (cell_in (HZ.out k (by omega))) hlb]
    exact HZ.out k (by omega)
  have H1 := Lib.hid hd1
  clear hd1
  generalize hv : zs.getD k 0 = v at hcell
  have HV := Lib.hid hv
  clear hv
  go_wp2_with fail
  go_ret
  exact ⟨k, by omega, ret_int HV.out.symm, H1.out⟩
set_option maxRecDepth 100000 in
theorem new_any (a : Option Addr) (n c : Nat) (hn : (n : Int) ≤ 9223372036854775807) (w : World) (hb : Bytes w a n) :
    Calls Try.prog 24 #[.slice a n c] w fun e w' => e = .returned (.pointer (some ⟨w.heap.size, 0, none⟩)) ∧ Curs w' w.heap.size a n c ∧ Below w.heap.size w w' := by
  have HB := Lib.hid hb
  clear hb
  go_enter Try.func24, Try.ntmps24
  go_wp2
  go_loop [3, 4] (fun h i => ∃ k : Nat, ∃ z : Int, k ≤ n ∧ i = .int .i64 k ∧ h = .int .i64 z) (fun _ i => n - (intOf i).toNat)
  case atStart => exact ⟨0, _, Nat.zero_le _, rfl, rfl⟩
  case round =>
    obtain ⟨k, z, hk, rfl, rfl⟩ := hrel
    by_cases hlt : k < n
    · by_cases h4 : (k : Int) < 4000
      · obtain ⟨ad, rfl, x, hx0, hx1, hx⟩ := HB.out k hlt
        go_wp2
        go_round
        case rel => exact ⟨k + 1, _, by omega, by go_num, rfl⟩
        case measure => simp [intOf]; omega
      · go_wp2
        go_ret
        exact ⟨rfl, new_curs hn HB.out, alloc_same _ _⟩
    · go_wp2
      go_ret
      exact ⟨rfl, new_curs hn HB.out, alloc_same _ _⟩

/-- A list of integers that the call has just laid. -/
theorem pickNew (b : Nat) (a : Option Addr) (n c : Nat) (zs : List Int) (m : Nat) (hm : 1 ≤ m) (hm2 : (m : Int) ≤ 9223372036854775807) (hz : zs.length = m) {cs : Array Value} (hcs : cs = (zs.map (Value.int .i64)).toArray) {T : TypeId} (w : World) (hc : Curs w b a n c) :
    Calls Try.prog 26 #[.pointer (some ⟨b, 0, none⟩), .slice (some ⟨w.heap.size, 0, none⟩) m m] (w.alloc (.cells cs T)) fun e w' => ∃ x : Int, x ∈ zs ∧ e = .returned (.int .i64 x) ∧ Drawn b a n c w w' := by
  have hlt := hc.lt
  refine (pick_any b a n c w.heap.size m zs hm hm2 _ (hc.same (alloc_same _ _)) (by omega) (fun j hj => ?_)).mono ?_
  · have hj' : j < zs.length := by omega
    have : (w.alloc (.cells cs T)).heap[w.heap.size]? = some (.cells cs T (0, 0)) := by show (w.heap.push _)[w.heap.size]? = _; simp
    rw [Joins.cell_of_block this, hcs]
    simp [List.getD, List.getElem?_eq_getElem hj']
  · rintro e w1 ⟨j, hj, rfl, hd⟩
    have hj' : j < zs.length := by omega
    exact ⟨zs.getD j 0, by rw [List.getD, List.getElem?_eq_getElem hj']; exact List.getElem_mem hj', rfl, hd.1, ((Only.refl b w).alloc _).trans hd.2⟩
/-- An integer of 64 bits. -/
def I64 (x : Int) : Prop := -9223372036854775808 ≤ x ∧ x ≤ 9223372036854775807
theorem i64_wf {x : Int} (h : (Lit.int .i64 x).wf = true) : I64 x := by
  simp [Lit.wf, IntKind.min, IntKind.max, IntKind.signed, IntKind.bits] at h
  exact ⟨by omega, by omega⟩
theorem i64_wrap (n : Int) : I64 (wrap64 n) := i64_wf (wrap64_wf n)
/-- What a draw of an integer leaves. -/
def DrewInt (b : Nat) (a : Option Addr) (n c : Nat) (w : World) (e : Ending) (w' : World) : Prop := ∃ x : Int, e = .returned (.int .i64 x) ∧ I64 x ∧ Drawn b a n c w w'

theorem list_i64 {l : List Int} (h : (l.all fun x => decide (-9223372036854775808 ≤ x) && decide (x ≤ 9223372036854775807)) = true) {x : Int} (hx : x ∈ l) : I64 x := by
  rw [List.all_eq_true] at h
  simpa [I64] using h x hx

/-- The input of a law: n bytes that lie below the call's own blocks. -/
def Code (w : World) (a : Option Addr) (n : Nat) : Prop := Bytes w a n ∧ (n : Int) ≤ 9223372036854775807
theorem Code.same {w w' : World} {a : Option Addr} {n : Nat} (h : Code w a n) (hb : Below w.heap.size w w') : Code w' a n :=
  ⟨h.1.same hb, h.2⟩
theorem code_of {w : World} {a : Option Addr} {n : Nat} {l : List Int} (h : Nums .u8 w a n l) (hB : Bs l) : Code w a n :=
  ⟨fun j hj => by
    obtain ⟨ad, x, e, hx, hc⟩ := h.at_ hj
    have := hB x (List.mem_of_getElem? hx)
    exact ⟨ad, e, x, this.1, this.2, hc⟩, h.fits⟩
theorem Only.under {b B : Nat} {u v w : World} (h : Only b u v) (hb : Below B v w) (hB : u.heap.size ≤ B) : Only b u w :=
  ⟨hb.os.trans h.os, hb.tape.trans h.tape, hb.output.trans h.output, Nat.le_trans h.size hb.size, fun k hk hne => (hb.block k (Nat.lt_of_lt_of_le hk hB)).trans (h.block k hk hne)⟩
theorem Curs.under {b B : Nat} {a : Option Addr} {n c : Nat} {u v w : World} (h : Curs v b a n c) (h0 : Curs u b a n c) (hb : Below B v w) (hB : u.heap.size ≤ B) : Curs w b a n c := by
  have hlt := h0.lt
  obtain ⟨⟨k, hh, hk, hcur⟩, hby, hn, hne⟩ := h
  refine ⟨⟨k, hh, hk, ?_⟩, ?_, hn, hne⟩
  · unfold CurAt at *
    rw [hb.block b (by omega)]
    exact hcur
  · intro j hj
    obtain ⟨ad, e, x, h1, h2, hx⟩ := hby j hj
    obtain ⟨ad', e', x', _, _, hx'⟩ := h0.2.1 j hj
    rw [e] at e'
    cases e'
    exact ⟨ad, e, x, h1, h2, by rw [hb.cell (Nat.lt_of_lt_of_le (cell_in hx') hB)]; exact hx⟩
/-- New memory that is not the cursor's leaves the cursor. -/
theorem Drawn.under {b B : Nat} {a : Option Addr} {n c : Nat} {u v w : World} (h : Drawn b a n c u v) (h0 : Curs u b a n c) (hb : Below B v w) (hB : u.heap.size ≤ B) : Drawn b a n c u w := ⟨h.1.under h0 hb hB, h.2.under hb hB⟩
theorem only_grown {b : Nat} {w w' : World} (h : Only b w w') : w.grownBy w' (some b) := ⟨h.os, h.tape, h.output, h.size, fun i hi hne => h.block i hi (fun e => hne (by rw [e]))⟩
/-- A step of the cursor leaves what lies in other blocks. -/
theorem Own.only {k : IntKind} {t : TypeId} {w w' : World} {B n c b lo hi : Nat} {a : Option Addr} {l : List Int} (h : Own k t w B a n c l) (ho : Only b w w') (s : Span a lo hi) (hd : b < lo ∨ hi ≤ b) : Own k t w' B a n c l := by
  have hg := only_grown ho
  cases a with
  | none => exact ⟨h.1, h.2.kept hg (Or.inl rfl)⟩
  | some ad =>
    have h1 := s ad rfl
    refine ⟨h.1, h.2.kept hg (Or.inr ?_)⟩
    simp only [Value.ownBlock, ne_eq, Option.some.injEq]
    omega

end Go.Proofs.Ytiaknjeeonlbcaa
