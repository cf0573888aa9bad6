/- What chapter 1's draws return: some integers of 64 bits, some short text. -/
import Derived.Test.YteicmmfgliokdaaDoorDraw2
import Derived.Test.YteicmmfgliokdaaDoorFmt
namespace Go.Proofs.YteicmmfgliokdaaDoor
open Go.ChangeShapes Go.WideShapes Go.ChangeAt Go.RowKit Go.Lib
set_option linter.unusedVariables false

/-- An integer of 64 bits. -/
def I64 (x : Int) : Prop := -9223372036854775808 ≤ x ∧ x ≤ 9223372036854775807
theorem i64_wf {x : Int} (h : (Lit.int .i64 x).wf = true) : I64 x := by
  simp [Lit.wf, IntKind.min, IntKind.max, IntKind.signed, IntKind.bits] at h
  exact ⟨by omega, by omega⟩
theorem i64_wrap (n : Int) : I64 (wrap64 n) := i64_wf (wrap64_wf n)
/-- What a draw of an integer leaves. -/
def DrewInt (b : Nat) (a : Option Addr) (n c : Nat) (w : World) (e : Ending) (w' : World) : Prop := ∃ x : Int, e = .returned (.int .i64 x) ∧ I64 x ∧ Drawn b a n c w w'

theorem list_i64 {l : List Int} (h : (l.all fun x => decide (-9223372036854775808 ≤ x) && decide (x ≤ 9223372036854775807)) = true) {x : Int} (hx : x ∈ l) : I64 x := by
  rw [List.all_eq_true] at h
  simpa [I64] using h x hx

set_option maxRecDepth 100000 in
theorem odd_any (b : Nat) (a : Option Addr) (n c : Nat) (w : World) (hc : Curs w b a n c) :
    Calls Tryd.prog 26 #[.pointer (some ⟨b, 0, none⟩)] w (DrewInt b a n c w) := by
  have H := Lib.hid hc
  clear hc
  go_enter Tryd.func26, Tryd.ntmps26
  go_wp2_with fail
  refine (pickNew b a n c [-1, 0, 1, 2, 255, 256, 65535, 2147483647, 2147483648, 4294967295, 4294967296, -2147483648, 9223372036854775807, -9223372036854775808] 14 (by omega) (by omega) rfl rfl w H.out).mono ?_
  rintro e w1 ⟨v, hv, rfl, hd1⟩
  have H1 := Lib.hid hd1
  have HV := Lib.hid hv
  clear hd1 hv
  go_wp2_with fail
  go_ret
  exact ⟨v, rfl, list_i64 (by decide) HV.out, H1.out⟩

set_option maxRecDepth 100000 in
theorem num_any (b : Nat) (a : Option Addr) (n c : Nat) (w : World) (hc : Curs w b a n c) :
    Calls Tryd.prog 17 #[.pointer (some ⟨b, 0, none⟩)] w (DrewInt b a n c w) := by
  have H := Lib.hid hc
  clear hc
  go_enter Tryd.func17, Tryd.ntmps17
  go_wp2_with fail
  refine (below_any b a n c 4 (by omega) (by omega) _ H.out).mono ?_
  rintro e w1 ⟨x, hx0, hx1, rfl, hd1⟩
  have H1 := Lib.hid hd1
  clear hd1
  rcases (show x = 0 ∨ x = 1 ∨ x = 2 ∨ x = 3 by omega) with rfl | rfl | rfl | rfl
  · go_wp2_with fail
    refine (below_any b a n c 2000 (by omega) (by omega) _ H1.out.1).mono ?_
    rintro e w2 ⟨y, hy0, hy1, rfl, hd2⟩
    have H2 := Lib.hid hd2
    clear hd2
    go_wp2_with fail
    go_ret
    exact ⟨y, rfl, ⟨by omega, by omega⟩, H1.out.trans H2.out⟩
  · go_wp2_with fail
    refine (pickNew b a n c [0, 1, 127, 128, 2147483646, 2147483647, 1000000000000] 7 (by omega) (by omega) rfl rfl _ H1.out.1).mono ?_
    rintro e w2 ⟨v, hv, rfl, hd2⟩
    have H2 := Lib.hid hd2
    have HV := Lib.hid hv
    clear hd2 hv
    go_wp2_with fail
    go_ret
    exact ⟨v, rfl, list_i64 (by decide) HV.out, H1.out.trans H2.out⟩
  · go_wp2_with fail
    refine (below_any b a n c 1000000 (by omega) (by omega) _ H1.out.1).mono ?_
    rintro e w2 ⟨y, hy0, hy1, rfl, hd2⟩
    have H2 := Lib.hid hd2
    clear hd2
    go_wp2_with fail
    refine (below_any b a n c 1000000 (by omega) (by omega) _ H2.out.1).mono ?_
    rintro e w3 ⟨z, hz0, hz1, rfl, hd3⟩
    have H3 := Lib.hid hd3
    clear hd3
    go_wp2_with fail
    go_ret
    exact ⟨wrap64 (y * z), rfl, i64_wrap _, (H1.out.trans H2.out).trans H3.out⟩
  · go_wp2_with fail
    refine (below_any b a n c 20 (by omega) (by omega) _ H1.out.1).mono ?_
    rintro e w2 ⟨y, hy0, hy1, rfl, hd2⟩
    have H2 := Lib.hid hd2
    clear hd2
    go_wp2_with fail
    go_ret
    exact ⟨y, rfl, ⟨by omega, by omega⟩, H1.out.trans H2.out⟩

set_option maxRecDepth 100000 in
theorem raw_any (b : Nat) (a : Option Addr) (n c : Nat) (w : World) (hc : Curs w b a n c) :
    Calls Tryd.prog 23 #[.pointer (some ⟨b, 0, none⟩)] w (DrewInt b a n c w) := by
  have H := Lib.hid hc
  clear hc
  go_enter Tryd.func23, Tryd.ntmps23
  go_wp2_with fail
  refine (once_any b a n c 2 (by omega) (by omega) _ H.out).mono ?_
  rintro e w1 ⟨t, rfl, hd1⟩
  have H1 := Lib.hid hd1
  clear hd1
  cases t
  · go_wp2_with fail
    refine (pickNew b a n c [-1, 1000000000000, 1000000000001] 3 (by omega) (by omega) rfl rfl _ H1.out.1).mono ?_
    rintro e w2 ⟨v, hv, rfl, hd2⟩
    have H2 := Lib.hid hd2
    have HV := Lib.hid hv
    clear hd2 hv
    go_wp2_with fail
    go_ret
    exact ⟨v, rfl, list_i64 (by decide) HV.out, H1.out.trans H2.out⟩
  · go_wp2_with fail
    refine (odd_any b a n c _ H1.out.1).mono ?_
    rintro e w2 ⟨v, rfl, hv, hd2⟩
    have H2 := Lib.hid hd2
    have HV := Lib.hid hv
    clear hd2 hv
    go_wp2_with fail
    go_ret
    exact ⟨v, rfl, HV.out, H1.out.trans H2.out⟩

set_option maxRecDepth 100000 in
theorem one_any (b : Nat) (a : Option Addr) (n c : Nat) (w : World) (hc : Curs w b a n c) :
    Calls Tryd.prog 19 #[.pointer (some ⟨b, 0, none⟩)] w (DrewInt b a n c w) := by
  have H := Lib.hid hc
  clear hc
  go_enter Tryd.func19, Tryd.ntmps19
  go_wp2_with fail
  refine (once_any b a n c 6 (by omega) (by omega) _ H.out).mono ?_
  rintro e w1 ⟨t, rfl, hd1⟩
  have H1 := Lib.hid hd1
  clear hd1
  cases t
  · go_wp2_with fail
    refine (num_any b a n c _ H1.out.1).mono ?_
    rintro e w2 ⟨v, rfl, hv, hd2⟩
    have H2 := Lib.hid hd2
    have HV := Lib.hid hv
    clear hd2 hv
    go_wp2_with fail
    go_ret
    exact ⟨v, rfl, HV.out, H1.out.trans H2.out⟩
  · go_wp2_with fail
    refine (raw_any b a n c _ H1.out.1).mono ?_
    rintro e w2 ⟨v, rfl, hv, hd2⟩
    have H2 := Lib.hid hd2
    have HV := Lib.hid hv
    clear hd2 hv
    go_wp2_with fail
    go_ret
    exact ⟨v, rfl, HV.out, H1.out.trans H2.out⟩

/-- The input of a law: n bytes that lie below the call's own blocks. -/
def Code (w : World) (a : Option Addr) (n : Nat) : Prop := Bytes w a n ∧ (n : Int) ≤ 9223372036854775807
theorem Code.same {w w' : World} {a : Option Addr} {n : Nat} (h : Code w a n) (hb : Below w.heap.size w w') : Code w' a n :=
  ⟨h.1.same hb, h.2⟩

theorem laidOut : laidOutB Tryd.prog = true := by kernel_rfl
theorem byte_cells : Tryd.prog.cellsOf 5 = 1 := by kernel_rfl
/-- A law's input, as it comes in. -/
theorem open_code {H : Type} {enc : TypeId × Value → H} {W : World} {base : Nat} {v : Value} {d : DataW H} {p : List MemPlace} (hval : Value.okWide Tryd.prog W .any base 22 v)
    (h : DataW.Trod enc Tryd.prog W 0 (fun _ => true) true 22 v d p) : ∃ (a : Option Addr) (n c : Nat), v = .slice a n c ∧ Code W a n := by
  obtain ⟨a0, len, cap, rfl⟩ := okWide_slice Tryd.underlying22 hval
  obtain ⟨fuel, hf⟩ := h
  rcases open_ints Tryd.underlying22 Tryd.underlying5 byte_cells hf with ⟨hcs, hx⟩ | ⟨a, len', cap', zs, hcs, _, hl, hm, hz, hx, hcell, hwz⟩
  · simp [Value.cells] at hcs
    obtain ⟨rfl, rfl, rfl⟩ := hcs
    exact ⟨none, 0, 0, rfl, fun j hj => absurd hj (by omega), by omega⟩
  · simp [Value.cells] at hcs
    obtain ⟨rfl, rfl, rfl⟩ := hcs
    have hb : Bytes W (some a) len := by
      intro j hj
      have hj' : j < zs.length := by rw [hz]; split <;> omega
      have hw := hwz (zs.getD j 0) (by rw [List.getD, List.getElem?_eq_getElem hj']; exact List.getElem_mem hj')
      simp [Lit.wf, IntKind.min, IntKind.max, IntKind.signed, IntKind.bits] at hw
      exact ⟨a, rfl, zs.getD j 0, by simpa using hw.1, by simpa using hw.2, hcell j hj'⟩
    exact ⟨some a, len, cap, rfl, hb, by unfold maxLen at hm; omega⟩

set_option maxRecDepth 100000 in
theorem drawFormatInt_any (a : Option Addr) (n c : Nat) (w : World) (hc : Code w a n) :
    Calls Tryd.prog 8 #[.slice a n c] w fun e w' => ∃ x : Int, e = .returned (.int .i64 x) ∧ I64 x ∧ Below w.heap.size w w' := by
  have H := Lib.hid hc
  clear hc
  go_enter Tryd.func8, Tryd.ntmps8
  go_wp2_with fail
  refine (new_any a n c H.out.2 _ H.out.1).mono ?_
  rintro e w1 ⟨rfl, hc1, hb1⟩
  have H1 := Lib.hid hc1
  have HB := Lib.hid hb1
  clear hc1 hb1
  go_wp2_with fail
  refine (one_any w.heap.size a n c _ H1.out).mono ?_
  rintro e w2 ⟨v, rfl, hv, hd2⟩
  have H2 := Lib.hid hd2
  have HV := Lib.hid hv
  clear hd2 hv
  go_wp2_with fail
  go_ret
  exact ⟨v, rfl, HV.out, HB.out.trans (H2.out.below (Nat.le_refl _) HB.out.size)⟩
set_option maxRecDepth 100000 in
theorem drawCeilDiv_any (a : Option Addr) (n c : Nat) (w : World) (hc : Code w a n) :
    Calls Tryd.prog 10 #[.slice a n c] w fun e w' => ∃ x y : Int, e = .returned (.tuple #[.int .i64 x, .int .i64 y]) ∧ I64 x ∧ I64 y ∧ Below w.heap.size w w' := by
  have H := Lib.hid hc
  clear hc
  go_enter Tryd.func10, Tryd.ntmps10
  go_wp2_with fail
  refine (new_any a n c H.out.2 _ H.out.1).mono ?_
  rintro e w1 ⟨rfl, hc1, hb1⟩
  have H1 := Lib.hid hc1
  have HB := Lib.hid hb1
  clear hc1 hb1
  go_wp2_with fail
  refine (one_any w.heap.size a n c _ H1.out).mono ?_
  rintro e w2 ⟨v, rfl, hv, hd2⟩
  have H2 := Lib.hid hd2
  have HV := Lib.hid hv
  clear hd2 hv
  go_wp2_with fail
  refine (one_any w.heap.size a n c _ H2.out.1).mono ?_
  rintro e w3 ⟨u, rfl, hu, hd3⟩
  have H3 := Lib.hid hd3
  have HU := Lib.hid hu
  clear hd3 hu
  go_wp2_with fail
  go_ret2
  exact ⟨v, u, rfl, HV.out, HU.out, HB.out.trans ((H2.out.trans H3.out).below (Nat.le_refl _) HB.out.size)⟩

/-- The texts of the list from which ParseInt's input is drawn, and the numerals, are short. -/
def shortTexts : List ByteArray := [⟨#[]⟩, ⟨#[48]⟩, ⟨#[48, 48]⟩, ⟨#[45, 49]⟩, ⟨#[48, 49]⟩, ⟨#[55]⟩, ⟨#[49, 48, 48, 48, 48, 48, 48, 48, 48, 48, 48, 48, 48]⟩, ⟨#[49, 48, 48, 48, 48, 48, 48, 48, 48, 48, 48, 48, 49]⟩, ⟨#[57, 57, 57, 57, 57, 57, 57, 57, 57, 57, 57, 57, 57, 57]⟩, ⟨#[49, 120]⟩, ⟨#[32, 49]⟩]
set_option maxRecDepth 100000 in
theorem drawParseInt_any (a : Option Addr) (n c : Nat) (w : World) (hc : Code w a n) :
    Calls Tryd.prog 6 #[.slice a n c] w fun e w' => ∃ s : ByteArray, e = .returned (.string s) ∧ s.size ≤ 1000 ∧ Below w.heap.size w w' := by
  have H := Lib.hid hc
  clear hc
  go_enter Tryd.func6, Tryd.ntmps6
  go_wp2_with fail
  refine (new_any a n c H.out.2 _ H.out.1).mono ?_
  rintro e w1 ⟨rfl, hc1, hb1⟩
  have H1 := Lib.hid hc1
  have HB := Lib.hid hb1
  clear hc1 hb1
  go_wp2_with fail
  refine (once_any w.heap.size a n c 2 (by omega) (by omega) _ H1.out).mono ?_
  rintro e w2 ⟨t, rfl, hd2⟩
  have H2 := Lib.hid hd2
  clear hd2
  cases t
  · go_wp2_with fail
    refine (num_any w.heap.size a n c _ H2.out.1).mono ?_
    rintro e w3 ⟨v, rfl, hv, hd3⟩
    have H3 := Lib.hid hd3
    have HV := Lib.hid hv
    clear hd3 hv
    go_wp2_with fail
    refine (specFmt_any v HV.out.1 HV.out.2 _).mono ?_
    rintro e w4 ⟨rfl, hb4⟩
    have H4 := Lib.hid hb4
    clear hb4
    go_wp2_with fail
    go_ret
    refine ⟨_, rfl, ?_, HB.out.trans (((H2.out.trans H3.out).below (Nat.le_refl _) HB.out.size).trans (H4.out.mono ?_))⟩
    · have := itoa_length_le v HV.out.1 HV.out.2
      show (itoa v).toArray.size ≤ 1000
      simp
      omega
    · have := HB.out.size; have := H2.out.2.size; have := H3.out.2.size; omega
  · go_wp2_with fail
    refine (pickTextNew w.heap.size a n c shortTexts 11 (by omega) (by omega) rfl rfl _ H2.out.1).mono ?_
    rintro e w3 ⟨s, hs, rfl, hd3⟩
    have H3 := Lib.hid hd3
    have HS := Lib.hid hs
    clear hd3 hs
    go_wp2_with fail
    go_ret
    refine ⟨s, rfl, ?_, HB.out.trans ((H2.out.trans H3.out).below (Nat.le_refl _) HB.out.size)⟩
    have h := HS.out
    have hall : (shortTexts.all fun x => decide (x.size ≤ 1000)) = true := by decide
    rw [List.all_eq_true] at hall
    simpa using hall s h
end Go.Proofs.YteicmmfgliokdaaDoor
