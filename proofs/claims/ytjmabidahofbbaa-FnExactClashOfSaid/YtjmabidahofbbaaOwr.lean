/- Owners: the function that tells them, what it has captured, and what it says. -/
import Derived.Test.YtjmabidahofbbaaOwnK
import Derived.Test.YtjmabidahofbbaaPlc
namespace Go.Proofs.Ytjmabidahofbbaa
open Go.ChangeShapes Go.WideShapes Go.ChangeAt Go.RowKit Go.Sort
set_option linter.unusedVariables false

theorem ownOf_filter (l : List En) (t : Int) : ownOf l t = ownOf (l.filter fun x => x.tag == t) t := by
  unfold ownOf
  rw [List.find?_filter]
  congr 1
  congr 1
  funext x
  cases x.tag == t <;> rfl
theorem asc_of_up {d : Array En} (h : Up En.tag 0 d.size d) : Asc d.toList := by
  intro i j x y hx hy hij
  have hj : j < d.size := by
    rcases Nat.lt_or_ge j d.size with h | h
    · exact h
    · rw [List.getElem?_eq_none (by simpa using h)] at hy; cases hy
  have := h i j (Nat.zero_le _) hij hj
  rw [getElem!_pos d i (by omega), getElem!_pos d j hj] at this
  rw [Array.getElem?_toList, Array.getElem?_eq_getElem (by omega)] at hx
  rw [Array.getElem?_toList, Array.getElem?_eq_getElem hj] at hy
  rw [Option.some.inj hx, Option.some.inj hy] at this
  exact this
theorem own_sorted {d0 d : Array En} (h : Stb En.tag 0 d0.size d0 d) (t : Int) : ownOf d.toList t = ownOf d0.toList t := by
  rw [ownOf_filter, ownOf_filter d0.toList]
  have := h.whole t
  rw [this]
theorem own_plc_yes {l : List En} {t : Int} {k : Nat} {x : En} (h : Plc l t k true) (hx : l[k]? = some x) : ownOf l t = x.vend := by
  obtain ⟨y, hy, hyt⟩ := h.yes rfl
  rw [hx] at hy
  cases hy
  have hf : l.find? (fun z => z.tag == t) = some x := by
    rw [List.find?_eq_some_iff_getElem]
    have hk : k < l.length := by
      rcases Nat.lt_or_ge k l.length with h | h
      · exact h
      · rw [List.getElem?_eq_none h] at hx; cases hx
    refine ⟨by simpa using hyt, k, hk, ?_, fun j hj => ?_⟩
    · rw [List.getElem?_eq_getElem hk] at hx; exact Option.some.inj hx
    · have := h.lo j l[j] (List.getElem?_eq_getElem (by omega)) hj
      simp; omega
  unfold ownOf
  rw [hf]
theorem own_plc_no {l : List En} {t : Int} {k : Nat} (h : Plc l t k false) : ownOf l t = -1 := by
  have hf : l.find? (fun z => z.tag == t) = none := by
    rw [List.find?_eq_none]
    intro x hx
    obtain ⟨i, hi, e⟩ := List.getElem_of_mem hx
    have := h.no rfl i x (by rw [List.getElem?_eq_getElem hi, e])
    simpa using this
  unfold ownOf
  rw [hf]

/-- The function that tells the owners in l: what it has captured lies from B on. -/
def Owner (l : List En) (w : World) (B : Nat) (v : Value) : Prop :=
  ∃ p a n c l', v = .func (.func 94) #[] #[.pointer (some ⟨p, 0, none⟩)] ∧ B ≤ p ∧ w.cell? ⟨p, 0, none⟩ = some (.slice a n c) ∧ Ens w a n l' ∧ n ≤ 1048576000 ∧ Asc l' ∧ ∀ t, ownOf l' t = ownOf l t
theorem Owner.same {l : List En} {w w' : World} {B : Nat} {v : Value} (h : Owner l w B v) (hb : Below w.heap.size w w') : Owner l w' B v := by
  obtain ⟨p, a, n, c, l', e, h1, h2, h3, h4, h5, h6⟩ := h
  exact ⟨p, a, n, c, l', e, h1, cell_stay h2 hb, h3.same hb, h4, h5, h6⟩
set_option maxHeartbeats 1000000 in
set_option maxRecDepth 100000 in
theorem ownersIn_any {a : Option Addr} {n c : Nat} {l : List En} {w : World} (h : Ens w a n l) (hn : n ≤ 1048576000) :
    Calls Try.prog 71 #[.slice a n c] w (fun e w' => ∃ v, e = .returned v ∧ Owner l w' w.heap.size v ∧ Below w.heap.size w w') := by
  have hc := copyEntries_any (c := c) h hn
  have HL := Lib.hid h.len
  clear h
  go_enter Try.func71, Try.ntmps71
  go_wp2_with fail
  refine hc.mono ?_
  rintro e w1 ⟨g, d, rfl, ho, hb⟩
  have HO := Lib.hid ho
  have HB := Lib.hid hb
  clear ho hb hc
  have hsz := HB.out.size
  obtain ⟨g0, eg, hg1, hg2⟩ : ∃ g0, g0 = g ∧ w.heap.size ≤ g ∧ g < w1.heap.size := ⟨g, rfl, by
    have := HO.out.span ⟨g, 0, none⟩ rfl
    exact ⟨this.1, this.2⟩⟩
  clear eg
  have hrow : l.toArray.size = n := by simpa using HL.out
  have hs := sortStable_any g 0 d l.toArray l.toArray (w1.alloc (.cells #[.slice (some ⟨g, 0, none⟩) n d] 38)) (w1.alloc (.cells #[.slice (some ⟨g, 0, none⟩) n d] 38)) rfl (own_rowK (HO.out.alloc _)) (Go.Proofs.SWK.start (own_rowK (HO.out.alloc _)).hH) (by rw [hrow]; omega)
  rw [hrow] at hs
  have HS := Lib.hid hs
  have HR := Lib.hid hrow
  clear hs hrow
  go_wp2_with fail
  refine HS.out.mono ?_
  rintro e w2 ⟨rfl, d', ⟨hst, hup⟩, hS⟩
  have hown := own_swk (HO.out.alloc (.cells #[.slice (some ⟨g, 0, none⟩) n d] 38)) (by have := hst.1; rw [HR.out] at this; exact this) hS
  have hcell : w2.cell? ⟨w1.heap.size, 0, none⟩ = some (.slice (some ⟨g, 0, none⟩) n d) := by
    refine hown.2.cell (v := .slice (some ⟨g, 0, none⟩) n d) (by simp) ?_
    intro e
    have e2 : w1.heap.size = g := Option.some.inj e
    omega
  have hst2 : Stb En.tag 0 l.toArray.size l.toArray d' := by rw [HR.out]; exact hst
  have hsz2 : w1.heap.size < w2.heap.size := by have := hown.2.size; simp at this; omega
  have hbW : Below w.heap.size w w2 := grown_to (b := some ⟨g, 0, none⟩) (m := n) (d := d) hown.2 (HB.out.alloc hsz _) (lo := w.heap.size) (hi := g + 1) (fun ad e => by cases e; exact ⟨hg1, Nat.lt_succ_self _⟩) (Nat.le_refl _) (by simp; omega)
  have HW : Hid (Owner l w2 w.heap.size (.func (.func 94) #[] #[.pointer (some ⟨w1.heap.size, 0, none⟩)]) ∧ Below w.heap.size w w2) :=
    ⟨⟨w1.heap.size, some ⟨g, 0, none⟩, n, d, d'.toList, rfl, hsz, hcell, hown.1.items En.enc_len, hn, asc_of_up (by rw [hst.1, HR.out]; exact hup), fun t => own_sorted hst2 t⟩, hbW⟩
  clear hown hcell hst hst2 hup hS hbW
  go_wp2_with fail
  go_ret
  exact ⟨_, rfl, HW.out.1, HW.out.2⟩

set_option maxHeartbeats 1000000 in
set_option maxRecDepth 100000 in
theorem owner_says {l : List En} {w : World} {B p : Nat} (t : Int) (h : Owner l w B (.func (.func 94) #[] #[.pointer (some ⟨p, 0, none⟩)])) :
    Calls Try.prog 94 #[.int .i64 t, .pointer (some ⟨p, 0, none⟩)] w (Told (.int .i64 (ownOf l t)) w) := by
  obtain ⟨p', a, n, c, l', e, h1, h2, h3, h4, h5, h6⟩ := h
  simp only [Value.func.injEq, true_and, Array.mk.injEq, List.cons.injEq, Value.pointer.injEq, Option.some.injEq, Addr.mk.injEq, and_true] at e
  subst e
  rw [← h6 t]
  have hp := placeOf_any (c := c) t h3 h5 h4
  have H := Lib.hid h3
  have HC := Lib.hid h2
  clear h3 h5 h6
  go_enter Try.func94, Try.ntmps94
  go_wp2_with fail
  refine hp.mono ?_
  rintro e w1 ⟨k, f, rfl, hk, hb⟩
  have HK := Lib.hid hk
  have HB := Lib.hid hb
  have hc2 : w1.cell? ⟨p, 0, none⟩ = some (.slice a n c) := cell_stay HC.out hb
  clear hk hb hp
  cases f with
  | false =>
    have HV : Hid ((-1 : Int) = ownOf l' t) := (own_plc_no HK.out).symm
    go_wp2
    go_ret
    exact ⟨by rw [← HV.out]; rfl, HB.out⟩
  | true =>
    obtain ⟨x, hx, hxt⟩ := HK.out.yes rfl
    have hkn : k < n := by
      have := H.out.len
      rcases Nat.lt_or_ge k l'.length with h | h
      · omega
      · rw [List.getElem?_eq_none h] at hx; cases hx
    obtain ⟨b, o, y, rfl, hy, hc0, hc1, hc2'⟩ := ens_at (H.out.same HB.out) hkn
    rw [hx] at hy
    cases hy
    have HV : Hid (x.vend = ownOf l' t) := (own_plc_yes HK.out hx).symm
    clear hx hxt
    go_wp2
    go_ret
    exact ⟨by rw [← HV.out]; rfl, HB.out⟩
set_option maxHeartbeats 1000000 in
set_option maxRecDepth 100000 in
theorem ownerOf_any {a : Option Addr} {n c : Nat} {l : List En} {w : World} (t : Int) (h : Ens w a n l) (hn : n ≤ 1048576000) :
    Calls Try.prog 25 #[.slice a n c, .int .i64 t] w (Told (.int .i64 (ownOf l t)) w) := by
  have hc := ownersIn_any (c := c) h hn
  clear h
  go_enter Try.func25, Try.ntmps25
  go_wp2_with fail
  refine hc.mono ?_
  rintro e w1 ⟨v, rfl, ho, hb⟩
  obtain ⟨p, a', n', c', l', rfl, h1, h2, h3, h4, h5, h6⟩ := ho
  have hs := owner_says (B := w.heap.size) t ⟨p, a', n', c', l', rfl, h1, h2, h3, h4, h5, h6⟩
  have HB := Lib.hid hb
  clear h1 h2 h3 h4 h5 h6 hb hc
  go_wp2_with fail
  refine hs.mono ?_
  rintro e w2 ⟨rfl, hb2⟩
  go_wp2_with fail
  go_ret
  exact ⟨rfl, HB.out.trans (hb2.mono HB.out.size)⟩
end Go.Proofs.Ytjmabidahofbbaa
