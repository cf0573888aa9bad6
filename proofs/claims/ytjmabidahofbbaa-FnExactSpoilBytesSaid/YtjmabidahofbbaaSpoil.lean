/- A list of bytes of which one byte is another one, in the program and in its model. -/
import Derived.Test.YtjmabidahofbbaaPick
import Derived.Test.YtjmabidahofbbaaCpl
namespace Go.Proofs.Ytjmabidahofbbaa
open Go.ChangeShapes Go.WideShapes Go.ChangeAt Go.RowKit
set_option linter.unusedVariables false

/-- The list with a byte that is picked at a place that is picked. -/
def spoilOf (l : List Int) (s : Int) : List Int := if l.length = 0 then [] else l.set (pickOf s 0 l.length).toNat (pickOf s 1 256)
theorem spoilOf_none {l : List Int} (s : Int) (h : l.length = 0) : spoilOf l s = [] := if_pos h
theorem spoilOf_some {l : List Int} (s : Int) (h : l.length ≠ 0) : spoilOf l s = l.set (pickOf s 0 l.length).toNat (pickOf s 1 256) := if_neg h
theorem spoilOf_len (l : List Int) (s : Int) : (spoilOf l s).length = l.length := by
  by_cases h : l.length = 0
  · rw [spoilOf_none s h, h]; rfl
  · rw [spoilOf_some s h, List.length_set]
/-- At one place at most it differs. -/
theorem spoilOf_other (l : List Int) (s : Int) : ∃ q : Nat, ∀ j : Nat, j ≠ q → (spoilOf l s)[j]? = l[j]? := by
  by_cases h : l.length = 0
  · exact ⟨0, fun j _ => by rw [spoilOf_none s h, List.eq_nil_of_length_eq_zero h]⟩
  · exact ⟨(pickOf s 0 l.length).toNat, fun j hj => by rw [spoilOf_some s h, List.getElem?_set_ne (fun e => hj e.symm)]⟩

set_option maxHeartbeats 2000000 in
set_option maxRecDepth 100000 in
theorem spoilBytes_any (a : Option Addr) (n c : Nat) (l : List Int) (s : Int) (w : World) (h : Nums .i64 w a n l) (hn : n ≤ 1000000000) (hs : Fit64 s) :
    Calls Try.prog 19 #[.slice a n c, .int .i64 s] w (Made .i64 3 w.heap.size (spoilOf l s) w) := by
  have H := Lib.hid h
  have hl := h.len
  have hbd := pickOf_bd s 0 n
  obtain ⟨q, hq⟩ : ∃ q : Nat, pickOf s 0 n = q := ⟨(pickOf s 0 n).toNat, by omega⟩
  have KP0 := Lib.hid (fun w0 : World => pickOf_any s 0 n w0 hs (fit_mk (by omega) (by omega)) (fit_mk (by omega) (by omega)))
  have KP1 := Lib.hid (fun w0 : World => pickOf_any s 1 256 w0 hs (fit_mk (by omega) (by omega)) (fit_mk (by omega) (by omega)))
  have hqn : 0 < n → q < n := fun h0 => by have := hbd.2.2 (by omega); omega
  have HV : Hid (0 < n → spoilOf l s = l.set q (pickOf s 1 256)) := Lib.hid fun h0 => by rw [spoilOf_some s (by omega), hl, hq, Int.toNat_natCast]
  have HV0 : Hid (n = 0 → spoilOf l s = []) := Lib.hid fun h0 => spoilOf_none s (by omega)
  rw [hq] at KP0
  have KC := Lib.hid (copyList_any (c := c) h (by omega))
  clear h hs hbd hq
  unfold Made
  go_enter Try.func19, Try.ntmps19
  go_wp2_with fail
  refine KC.out.mono ?_
  rintro e w1 ⟨a1, n1, c1, rfl, ho1, hb1⟩
  obtain rfl : n = n1 := by rw [← ho1.len]; exact hl.symm
  have HO1 := Lib.hid ho1
  have HB1 := Lib.hid hb1
  clear ho1 hb1
  by_cases h0 : 0 < n
  · have hqI : (q : Int) < (n : Int) := by have := hqn h0; omega
    have h0I : (0 : Int) < (n : Int) := by omega
    obtain ⟨g, e, _, _⟩ := HO1.out.head h0
    subst e
    go_wp2_with fail
    refine (KP0.out _).mono ?_
    rintro e w2 ⟨rfl, hb2⟩
    have HO2 := Lib.hid (HO1.out.same hb2)
    have HB2 := Lib.hid (HB1.out.trans (hb2.mono HB1.out.size))
    clear hb2
    go_wp2_with fail
    refine (KP1.out _).mono ?_
    rintro e w3 ⟨rfl, hb3⟩
    have HO3 := Lib.hid (HO2.out.same hb3)
    have HB3 := Lib.hid (HB2.out.trans (hb3.mono HB2.out.size))
    have hf := HO3.out.row.frozenAt q
    obtain ⟨u, hu⟩ : ∃ u, w3.cell? ⟨g, q, none⟩ = some u := by
      rw [HO3.out.row.cellAt q (by omega)]
      have : q < (l.map (Value.int .i64)).length := by rw [List.length_map, hl]; omega
      exact ⟨_, List.getElem?_eq_getElem this⟩
    clear hb3
    go_wp2_with fail
    go_ret
    have hst := HO3.out.row.stored q (.int .i64 (pickOf s 1 256))
    rw [← List.map_set] at hst
    have hsp := HO3.out.span _ rfl
    refine ⟨_, _, _, rfl, ⟨by rw [HV.out h0, List.length_set, hl], by rw [HV.out h0]; exact hst.1⟩, HB3.out.grown hst.2 HB3.out.size (fun k e => by cases e; exact hsp.1)⟩
  · obtain rfl : n = 0 := by omega
    go_wp2_with fail
    go_ret
    refine ⟨_, _, _, rfl, ?_, HB1.out⟩
    rw [HV0.out (by first | trivial | rfl)]
    have := HO1.out
    rwa [List.eq_nil_of_length_eq_zero hl] at this

set_option maxHeartbeats 2000000 in
set_option maxRecDepth 100000 in
theorem specSpoilBytes_any (a : Option Addr) (n c : Nat) (l : List Int) (s : Int) (w : World) (h : Nums .i64 w a n l) (hn : n ≤ 1000000000) (hs : Fit64 s) :
    Calls Try.prog 33 #[.slice a n c, .int .i64 s] w (Made .i64 3 w.heap.size (spoilOf l s) w) := by
  have H := Lib.hid h
  have hl := h.len
  have hbd := pickOf_bd s 0 n
  obtain ⟨q, hq⟩ : ∃ q : Nat, pickOf s 0 n = q := ⟨(pickOf s 0 n).toNat, by omega⟩
  have KP0 := Lib.hid (fun w0 : World => specPickOf_any s 0 n w0 hs (fit_mk (by omega) (by omega)) (fit_mk (by omega) (by omega)))
  have KP1 := Lib.hid (fun w0 : World => specPickOf_any s 1 256 w0 hs (fit_mk (by omega) (by omega)) (fit_mk (by omega) (by omega)))
  have hqn : 0 < n → q < n := fun h0 => by have := hbd.2.2 (by omega); omega
  have HV : Hid (0 < n → spoilOf l s = l.set q (pickOf s 1 256)) := Lib.hid fun h0 => by rw [spoilOf_some s (by omega), hl, hq, Int.toNat_natCast]
  have HV0 : Hid (n = 0 → spoilOf l s = []) := Lib.hid fun h0 => spoilOf_none s (by omega)
  rw [hq] at KP0
  obtain ⟨i0, hi, hz0, hz1, hz2⟩ := info_parts infoIntS
  have HI := Lib.hid (And.intro hi (And.intro hz0 (And.intro hz1 hz2)))
  clear hi hz0 hz1 hz2 h hs hbd hq
  have KO := Lib.hid (Own.empty (k := .i64) (t := 3) (w := w) (B := w.heap.size) (Nat.le_refl _))
  unfold Made
  go_enter Try.func33, Try.ntmps33
  go_wp2_with (at_builtin; refine wpl_app _ rfl (.tmp 6) (.tmp 7) 29 rfl .i64 3 i0 (.int .i64 0) 8 Try.underlying29 HI.out.1 HI.out.2.1 HI.out.2.2.1 HI.out.2.2.2 rfl rfl KO.out rfl (H.out.same (alloc_same _ _)) (by omega) ?c1 ?c2 ?_)
  case c1 => omega
  case c2 => simp
  intro a1 c1 w1 ho1 hb1
  have HO1 := Lib.hid ho1
  have HB1 := Lib.hid ((alloc_same w (.cells #[] 3)).trans hb1)
  clear ho1 hb1
  by_cases h0 : 0 < n
  · have hqI : (q : Int) < (n : Int) := by have := hqn h0; omega
    have h0I : (0 : Int) < (n : Int) := by omega
    obtain ⟨g, e, _, _⟩ := HO1.out.head h0
    subst e
    go_wp2_with fail
    refine (KP0.out _).mono ?_
    rintro e w2 ⟨rfl, hb2⟩
    have HO2 := Lib.hid (HO1.out.same hb2)
    have HB2 := Lib.hid (HB1.out.trans (hb2.mono HB1.out.size))
    clear hb2
    go_wp2_with fail
    refine (KP1.out _).mono ?_
    rintro e w3 ⟨rfl, hb3⟩
    have HO3 := Lib.hid (HO2.out.same hb3)
    have HB3 := Lib.hid (HB2.out.trans (hb3.mono HB2.out.size))
    have hf := HO3.out.row.frozenAt q
    obtain ⟨u, hu⟩ : ∃ u, w3.cell? ⟨g, q, none⟩ = some u := by
      rw [HO3.out.row.cellAt q (by omega)]
      have : q < (l.map (Value.int .i64)).length := by rw [List.length_map, hl]; omega
      exact ⟨_, List.getElem?_eq_getElem this⟩
    clear hb3
    go_wp2_with fail
    go_ret
    have hst := HO3.out.row.stored q (.int .i64 (pickOf s 1 256))
    rw [← List.map_set] at hst
    have hsp := HO3.out.span _ rfl
    refine ⟨_, _, _, rfl, ⟨by rw [HV.out h0, List.length_set, hl], by rw [HV.out h0]; exact hst.1⟩, HB3.out.grown hst.2 HB3.out.size (fun k e => by cases e; exact hsp.1)⟩
  · obtain rfl : n = 0 := by omega
    go_wp2_with fail
    go_ret
    refine ⟨_, _, _, rfl, ?_, HB1.out⟩
    rw [HV0.out (by first | trivial | rfl)]
    have := HO1.out
    rwa [List.eq_nil_of_length_eq_zero hl] at this
end Go.Proofs.Ytjmabidahofbbaa
