/- Tags retired: what is retired, and by the program. -/
import Derived.Test.YtjmabidahofbbaaOwnK
import Derived.Test.YtjmabidahofbbaaPlc
namespace Go.Proofs.Ytjmabidahofbbaa
open Go.ChangeShapes Go.WideShapes Go.ChangeAt Go.RowKit Go.Sort
set_option linter.unusedVariables false

/-- Tags ascend strictly. -/
def Sasc (l : List En) : Prop := ∀ (i j : Nat) (x y : En), l[i]? = some x → l[j]? = some y → i < j → x.tag < y.tag
theorem Sasc.asc {l : List En} (h : Sasc l) : Asc l := fun i j x y hx hy hij => Int.le_of_lt (h i j x y hx hy hij)
theorem regFrom_least : ∀ (l : List En) (p : Int), regFrom p l = true → ∀ x ∈ l, p ≤ x.tag
  | [], _, _, x, hx => by cases hx
  | y :: l, p, h, x, hx => by
    rw [regFrom_cons] at h
    simp only [Bool.and_eq_true] at h
    have h1 := inB_iff.1 h.1.1.1
    rcases List.mem_cons.1 hx with rfl | hx
    · exact h1.1
    · have := regFrom_least l _ h.2 x hx; omega
theorem regFrom_sasc : ∀ (l : List En) (p : Int), regFrom p l = true → Sasc l
  | [], _, _ => fun i j x y hx => by simp at hx
  | z :: l, p, h => by
    rw [regFrom_cons] at h
    simp only [Bool.and_eq_true] at h
    intro i j x y hx hy hij
    cases j with
    | zero => omega
    | succ j =>
      have hy' : l[j]? = some y := by simpa using hy
      cases i with
      | zero =>
        have hz : z = x := by simpa using hx
        subst hz
        have hm : y ∈ l := List.mem_of_getElem? hy'
        have := regFrom_least l _ h.2 y hm
        omega
      | succ i =>
        have hx' : l[i]? = some x := by simpa using hx
        exact regFrom_sasc l _ h.2 i j x y hx' hy' (by omega)
theorem isReg_parts {l : List En} (h : isReg l = true) : l.length ≤ 12 ∧ regFrom 0 l = true := by
  unfold isReg at h
  rw [Bool.and_eq_true, decide_eq_true_eq] at h
  exact h
theorem isReg_sasc {l : List En} (h : isReg l = true) : Sasc l := regFrom_sasc l 0 (isReg_parts h).2

/-- Where the entry to be retired stands. -/
def hitOf (l : List En) (t : Int) : Option Nat := l.findIdx? fun x => x.tag == t && !x.old
def retOk (l : List En) (t : Int) : Bool := isReg l && (hitOf l t).isSome
def retL (l : List En) (t : Int) : List En := if isReg l then match hitOf l t with
  | some k => l.modify k fun x => ⟨x.tag, x.vend, true⟩
  | none => l else l
theorem retL_len (l : List En) (t : Int) : (retL l t).length = l.length := by
  unfold retL
  split
  · split <;> simp
  · rfl
theorem ret_not {l : List En} {t : Int} (h : isReg l = false) : retL l t = l ∧ retOk l t = false := by
  unfold retL retOk
  rw [h]
  simp
theorem ret_none {l : List En} {t : Int} (h : hitOf l t = none) : retL l t = l ∧ retOk l t = false := by
  unfold retL retOk
  rw [h]
  simp
theorem ret_some {l : List En} {t : Int} {k : Nat} (hr : isReg l = true) (h : hitOf l t = some k) : retL l t = l.modify k (fun x => ⟨x.tag, x.vend, true⟩) ∧ retOk l t = true := by
  unfold retL retOk
  rw [h, hr]
  simp
theorem flat_old {l : List En} {k : Nat} {x : En} (hx : l[k]? = some x) : (flatOf En.enc l).set (k * 3 + 2) (.bool true) = flatOf En.enc (l.modify k fun x => ⟨x.tag, x.vend, true⟩) := by
  have hk : k < l.length := by
    rcases Nat.lt_or_ge k l.length with h | h
    · exact h
    · rw [List.getElem?_eq_none h] at hx; cases hx
  have hs : l = l.take k ++ x :: l.drop (k + 1) := by
    rw [← drop_cons hx, List.take_append_drop]
  have hm : l.modify k (fun x => (⟨x.tag, x.vend, true⟩ : En)) = l.take k ++ ⟨x.tag, x.vend, true⟩ :: l.drop (k + 1) := by
    rw [List.modify_eq_take_cons_drop hk]
    rw [List.getElem?_eq_getElem hk] at hx
    rw [Option.some.inj hx]
  rw [hm]
  conv => lhs; rw [hs]
  rw [flatOf_app, flatOf_app]
  have hl : (flatOf En.enc (l.take k)).length = k * 3 := by rw [flatOf_len En.enc_len, List.length_take]; congr 1; omega
  rw [List.set_append_right _ _ (by omega), hl, show k * 3 + 2 - k * 3 = 2 by omega]
  rfl
/-- An entry of the call's own, marked as retired. -/
theorem own_old {t : TypeId} {w : World} {B g n c k : Nat} {l : List En} {x : En} (h : OwnN t w B (some ⟨g, 0, none⟩) n c l) (hx : l[k]? = some x) :
    OwnN t (w.setCell ⟨g, k * 3 + 2, none⟩ (.bool true)) B (some ⟨g, 0, none⟩) n c (l.modify k fun x => ⟨x.tag, x.vend, true⟩) ∧ w.grownBy (w.setCell ⟨g, k * 3 + 2, none⟩ (.bool true)) (some g) := by
  have hs := h.row.stored (k * 3 + 2) (.bool true)
  rw [flat_old hx] at hs
  exact ⟨⟨by rw [List.length_modify]; exact h.len, hs.1⟩, hs.2⟩
theorem lt_of_get {α : Type} {l : List α} {k : Nat} {x : α} (hx : l[k]? = some x) : k < l.length := by
  rcases Nat.lt_or_ge k l.length with h | h
  · exact h
  · rw [List.getElem?_eq_none h] at hx; cases hx
theorem hit_some {l : List En} {t : Int} {k : Nat} {x : En} (hx : l[k]? = some x) (ht : x.tag = t) (ho : x.old = false) (hb : ∀ (p : Nat) (y : En), l[p]? = some y → p < k → ¬ (y.tag = t ∧ y.old = false)) : hitOf l t = some k := by
  have hk := lt_of_get hx
  unfold hitOf
  rw [List.findIdx?_eq_some_iff_getElem]
  refine ⟨hk, ?_, fun j hj => ?_⟩
  · rw [List.getElem?_eq_getElem hk] at hx
    rw [Option.some.inj hx]; simp [ht, ho]
  · have := hb j l[j] (List.getElem?_eq_getElem (by omega)) hj
    intro hc
    apply this
    simpa using hc
theorem hit_none {l : List En} {t : Int} (hb : ∀ (p : Nat) (y : En), l[p]? = some y → ¬ (y.tag = t ∧ y.old = false)) : hitOf l t = none := by
  unfold hitOf
  rw [List.findIdx?_eq_none_iff]
  intro x hx
  obtain ⟨i, hi, e⟩ := List.getElem_of_mem hx
  have := hb i x (by rw [List.getElem?_eq_getElem hi, e])
  cases h1 : x.tag == t with
  | false => rfl
  | true =>
    cases h2 : x.old with
    | true => rfl
    | false => exact absurd ⟨by simpa using h1, h2⟩ this

set_option maxHeartbeats 2000000 in
set_option maxRecDepth 100000 in
theorem retireTag_any {a : Option Addr} {n c : Nat} {l : List En} {w : World} (t : Int) (h : Ens w a n l) (hn : n ≤ 1048576000) :
    Calls Try.prog 27 #[.slice a n c, .int .i64 t] w (fun e w' => ∃ b m d, e = .returned (.tuple #[.slice b m d, .bool (retOk l t)]) ∧ OwnN 51 w' w.heap.size b m d (retL l t) ∧ Below w.heap.size w w') := by
  have hcopy := copyEntries_any (c := c) h hn
  have H := Lib.hid h
  have HL := Lib.hid h.len
  clear h
  go_enter Try.func27, Try.ntmps27
  go_wp2_with fail
  refine hcopy.mono ?_
  rintro e w1 ⟨g, d, rfl, ho, hb⟩
  have HO1 := Lib.hid ho
  have HB1 := Lib.hid hb
  have hreg := isRegistry_any (c := c) (H.out.same hb)
  clear ho hb hcopy
  obtain ⟨r, hr⟩ : ∃ r, isReg l = r := ⟨_, rfl⟩
  rw [hr] at hreg
  have HR := Lib.hid hr
  clear hr
  go_wp2_with fail
  refine hreg.mono ?_
  rintro e w2 ⟨rfl, hb⟩
  have HO2 : Hid (OwnN 51 w2 w.heap.size (some ⟨g, 0, none⟩) n d l) := Lib.hid (HO1.out.same hb)
  have HB2 : Hid (Below w.heap.size w w2) := Lib.hid (HB1.out.trans (hb.mono HB1.out.size))
  clear hb hreg HO1 HB1
  cases r with
  | false =>
    obtain ⟨q1, q2⟩ := ret_not (t := t) HR.out
    have HQ := Lib.hid (And.intro q1 q2)
    clear q1 q2
    go_wp2
    go_ret2
    refine ⟨some ⟨g, 0, none⟩, n, d, by rw [HQ.out.2]; rfl, ?_, HB2.out⟩
    rw [HQ.out.1]; exact HO2.out
  | true =>
    have hp := placeOf_any (c := d) t (HO2.out.items En.enc_len) (isReg_sasc HR.out).asc hn
    go_wp2_with fail
    refine hp.mono ?_
    rintro e w3 ⟨k, f, rfl, hk, hb⟩
    have HK := Lib.hid hk
    have HO3 : Hid (OwnN 51 w3 w.heap.size (some ⟨g, 0, none⟩) n d l) := Lib.hid (HO2.out.same hb)
    have HB3 : Hid (Below w.heap.size w w3) := Lib.hid (HB2.out.trans (hb.mono HB2.out.size))
    clear hb hp hk HO2 HB2
    cases f with
    | false =>
      obtain ⟨q1, q2⟩ := ret_none (hit_none (l := l) (t := t) fun p y hy hc => HK.out.no rfl p y hy hc.1)
      have HQ := Lib.hid (And.intro q1 q2)
      clear q1 q2
      go_wp2
      go_ret2
      refine ⟨some ⟨g, 0, none⟩, n, d, by rw [HQ.out.2]; rfl, ?_, HB3.out⟩
      rw [HQ.out.1]; exact HO3.out
    | true =>
      obtain ⟨x, hx, hxt⟩ := HK.out.yes rfl
      have hkn : k < n := by have h1 := lt_of_get hx; have h2 := HL.out; omega
      obtain ⟨b, o, y, eb, hy, hc0, hc1, hc2⟩ := ens_at (HO3.out.items En.enc_len) hkn
      cases eb
      rw [hx] at hy
      cases hy
      have HX := Lib.hid (And.intro hx hxt)
      clear hx hxt
      rw [Nat.zero_add] at hc0 hc1 hc2
      cases hold : x.old with
      | true =>
        rw [hold] at hc2
        obtain ⟨q1, q2⟩ := ret_none (hit_none (l := l) (t := t) fun p y hy hc => by
          by_cases e : p = k
          · subst e
            have h0 := HX.out.1
            rw [hy] at h0
            cases h0
            rw [hold] at hc
            exact absurd hc.2 (by simp)
          · rcases Nat.lt_or_gt_of_ne e with h1 | h1
            · have := isReg_sasc HR.out p k y x hy HX.out.1 h1
              have := HX.out.2
              omega
            · have := isReg_sasc HR.out k p x y HX.out.1 hy h1
              have := HX.out.2
              omega)
        have HQ := Lib.hid (And.intro q1 q2)
        clear q1 q2 hold
        go_wp2
        go_ret2
        refine ⟨some ⟨g, 0, none⟩, n, d, by rw [HQ.out.2]; rfl, ?_, HB3.out⟩
        rw [HQ.out.1]; exact HO3.out
      | false =>
        rw [hold] at hc2
        obtain ⟨q1, q2⟩ := ret_some HR.out (hit_some HX.out.1 HX.out.2 hold fun p y hy hp hc => by
          have := isReg_sasc HR.out p k y x hy HX.out.1 hp
          have := HX.out.2
          omega)
        have HQ := Lib.hid (And.intro q1 q2)
        clear q1 q2 hold
        have hf := HO3.out.row.frozenAt (k * 3 + 2)
        have hs := own_old HO3.out HX.out.1
        have hsp := HO3.out.span
        have HW : Hid (OwnN 51 (w3.setCell ⟨g, k * 3 + 2, none⟩ (.bool true)) w.heap.size (some ⟨g, 0, none⟩) n d (l.modify k fun x => ⟨x.tag, x.vend, true⟩) ∧ Below w.heap.size w (w3.setCell ⟨g, k * 3 + 2, none⟩ (.bool true))) :=
          Lib.hid ⟨hs.1, grown_to (b := some ⟨g, 0, none⟩) (m := n) (d := d) hs.2 HB3.out hsp (Nat.le_refl _) HB3.out.size⟩
        clear hs hsp
        go_wp2
        go_ret2
        refine ⟨some ⟨g, 0, none⟩, n, d, by rw [HQ.out.2]; rfl, ?_, HW.out.2⟩
        rw [HQ.out.1]; exact HW.out.1
end Go.Proofs.Ytjmabidahofbbaa
