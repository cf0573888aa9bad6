/- A map that the call itself has made, of which every entry meets G; a variable of many cells, stored and read whole. No function of the program is spoken of. How two formats differ: by the program. What lies within a format is a message of the wider one; a tail can be left. No function of the program is spoken of. In which ways two formats may differ, and how the other way round. No function of the program is spoken of. The names of the ways in which formats differ: by the program and by the model. -/
import Derived.Test.YtjkjnhkamieljaaG1
import Derived.Maps.OwnOps
import Derived.Deep.RegionHeld3
import Derived.Laws.Tables
import Derived.Laws.Rows
import Derived.Test.YtjkjnhkamieljaaG9
import Derived.Handy
namespace Go.Proofs.Ytjkjnhkamieljaa
open Go.ChangeShapes Go.WideShapes Go.ChangeAt Go.RowKit
open Go.ChangeMaps Go.MapKept
open Go.WideElems (Fit rd rg pl rd_val)
open Go.Maps (Keyed)
set_option linter.unusedVariables false

/-- What an entry holds is not looked at by the reader: G speaks of it. -/
abbrev unread (_ : Value) : Option (DataW Unit × List MemPlace) := some (.nil, [])
/-- Block b is a map of at most n entries, and every one of them meets G. -/
def Keeps (P : Program) (k : TypeId) (w : World) (b n : Nat) (G : Value → Value → Prop) : Prop :=
  ∃ es clock, w.heap[b]? = some (.map es clock) ∧ Fit P k unread es clock ∧ es.size ≤ n ∧ ∀ x ∈ es.toList, G x.key x.val

section
variable {P : Program} {k t e : TypeId} {w w' : World} {b n : Nat} {G : Value → Value → Prop}
theorem Keeps.made (w : World) (P : Program) (k : TypeId) (G : Value → Value → Prop) : Keeps P k (w.alloc (.map #[] 0)) w.heap.size 0 G :=
  ⟨#[], 0, (MapKept.heap_alloc w _).1, ⟨by simp, stamped_empty 0, by simp⟩, Nat.le_refl _, by simp⟩
theorem Keeps.of_heap (h : Keeps P k w b n G) (e : w'.heap[b]? = w.heap[b]?) : Keeps P k w' b n G := by
  obtain ⟨es, clock, h1, h2⟩ := h
  exact ⟨es, clock, e.trans h1, h2⟩
theorem Keeps.lt (h : Keeps P k w b n G) : b < w.heap.size := by
  obtain ⟨es, clock, h1, _⟩ := h
  exact (Array.getElem?_eq_some_iff.1 h1).1
theorem Keeps.mono (h : Keeps P k w b n G) {n' : Nat} (hn : n ≤ n') : Keeps P k w b n' G := by
  obtain ⟨es, clock, h1, h2, h3, h4⟩ := h
  exact ⟨es, clock, h1, h2, Nat.le_trans h3 hn, h4⟩
theorem Keeps.look (h : Keeps P k w b n G) (K : Keyed P k) (ht : P.underlying t = some (.map k e)) {z : Value} (hz : (zeroValue e).run P w = .ok z w) {key : Value} {kl : Lit} (hkey : keyOf P k key = some kl) :
    (Instr.lookup t (.map (some b)) key true).run P w = .ok (.tuple #[z, .bool false]) w ∨ ∃ v, (Instr.lookup t (.map (some b)) key true).run P w = .ok (.tuple #[v, .bool true]) w ∧ G key v := by
  obtain ⟨es, clock, hb, F, _, hG⟩ := h
  rcases Maps.fit_look true K ht hz hb F hkey with ⟨h1, _, _⟩ | ⟨e0, y, hm, he, hr, _⟩
  · exact Or.inl h1
  · exact Or.inr ⟨e0.val, hr, by rw [← he]; exact hG e0 hm⟩
theorem Keeps.put (h : Keeps P k w b n G) (K : Keyed P k) (ht : P.underlying t = some (.map k e)) (hn : n < maxLen) {key val : Value} {kl : Lit} (hkey : keyOf P k key = some kl) (hv : G key val) :
    ∃ w', (Instr.mapUpdate t (.map (some b)) key val).run P w = .ok () w' ∧ Keeps P k w' b (n + 1) G ∧ w.grownBy w' (some b) := by
  obtain ⟨es, clock, hb, F, hs, hG⟩ := h
  obtain ⟨es', clock', hrun, F', hput, _, _, hwho⟩ := Maps.fit_store (R' := unread) (yv := (.nil, [])) (val := val) K ht hb F (Nat.lt_of_le_of_lt hs hn) (fun _ _ _ _ hz => hz) hkey rfl
  refine ⟨_, hrun, ⟨es', clock', heap_setBlock_same hb _, F', ?_, ?_⟩, ⟨rfl, rfl, rfl, by simp [setBlock], fun i _ hi => heap_setBlock_other hb _ (fun e => hi (by rw [e]))⟩⟩
  · have e1 : es'.size = ((es'.toList.map (rg P k unread)).foldr DataW.insert []).length := by rw [length_sorted]; simp
    rw [e1, hput]
    unfold putKey
    rw [length_insert]
    have e2 := List.length_filter_le (notKey kl) ((es.toList.map (rg P k unread)).foldr DataW.insert [])
    rw [length_sorted] at e2
    simp at e2
    omega
  · intro x hx
    rcases hwho x hx with ⟨h1, _⟩ | ⟨h1, h2⟩
    · exact hG x h1
    · rw [h1, h2]; exact hv
end

section
variable {P : Program} (w : World)
theorem wpl_put {ops : Array Oper} {rest : List Oper} {o : Oper} {a : Act} {Q : Exit → Act → World → Prop} (hg : o.guard = none) (m x v : Operand) (t : TypeId) (hop : o.op = Op.mapUpdate t m x v)
    (k e : TypeId) (K : Keyed P k) (ht : P.underlying t = some (.map k e)) (b n : Nat) (G : Value → Value → Prop)
    (hm : a.eval m = .map (some b)) (hk : Keeps P k w b n G) (hn : n < maxLen) (key val : Value) (kl : Lit) (hx : a.eval x = key) (hv : a.eval v = val) (hkey : keyOf P k key = some kl) (hG : G key val)
    (hK : ∀ w', Keeps P k w' b (n + 1) G → w.grownBy w' (some b) → wpList P ops Q rest (a.put o.dst undef) w') :
    wpList P ops Q (o :: rest) a w := by
  refine wpList_plain hg fun K' hK' => ?_
  obtain ⟨w', hrun, r1, r2⟩ := hk.put K ht hn hkey hG
  unfold Oper.wp
  simp [execOp, hop, hm, hx, hv, hrun, Result.andThen]
  exact hK' _ _ (hK w' r1 r2)

/-- A variable of many cells is stored whole. -/
theorem wpl_store_whole {ops : Array Oper} {rest : List Oper} {o : Oper} {a : Act} {Q : Exit → Act → World → Prop} (hgd : o.guard = none) (ty : TypeId) (x y : Operand) (ho : o.op = .store ty x y)
    (g : Nat) (cells : Array Value) (hx : a.eval x = .pointer (some ⟨g, 0, none⟩)) (hy : a.eval y = .agg cells)
    (t : TypeId) (old : Array Value) (hg : w.heap[g]? = some (.cells old t (0, 0))) (hi : (P.info? ty).map (·.size) = some cells.size)
    (hold : old.size = cells.size) (h1 : cells.all (·.oneCell') = true)
    (h : ∀ w', w'.heap[g]? = some (.cells cells t (0, 0)) → w.grownBy w' (some g) → wpList P ops Q rest (a.put o.dst undef) w') : wpList P ops Q (o :: rest) a w :=
  wpList_store_row hgd ty x y ho g cells hx hy t old hg hi hold h1 (h _ (setRow_heap w g old cells t _ hg) ⟨rfl, rfl, rfl, by simp, fun i _ hi => setRow_other w g i cells (fun e => hi (by rw [e]))⟩)
end
end Go.Proofs.Ytjkjnhkamieljaa
namespace Go.Proofs.Ytjkjnhkamieljaa
open Go.ChangeShapes Go.WideShapes Go.ChangeAt Go.RowKit
set_option linter.unusedVariables false

noncomputable def tailOf (l l' : List Fd) : Bool := decide (l.length < l'.length) && within l (l'.take l.length)
noncomputable def same (l l' : List Fd) : Bool := @decide (l = l') (Classical.propDecidable _)
/-- The four checks, by their codes. -/
noncomputable def chk (l l' : List Fd) : Nat → Bool
  | 0 => same l l'
  | 1 => within l l'
  | 2 => tailOf l l'
  | 3 => within l' l
  | _ => true
noncomputable def brOf (l l' : List Fd) : Int := if (isFmt l && isFmt l') = false then 4 else if chk l l' 0 = true then 0 else if chk l l' 1 = true then 1 else if chk l l' 2 = true then 2 else if chk l l' 3 = true then 3 else 4
theorem brOf_at {l l' : List Fd} (h : (isFmt l && isFmt l') = true) {j : Nat} (hj : j ≤ 4) (h0 : ∀ i, i < j → chk l l' i = false) (h1 : chk l l' j = true) : brOf l l' = j := by
  unfold brOf
  rw [if_neg (by rw [h]; decide)]
  rcases (by omega : j = 0 ∨ j = 1 ∨ j = 2 ∨ j = 3 ∨ j = 4) with rfl | rfl | rfl | rfl | rfl
  · rw [if_pos h1]; rfl
  · rw [if_neg (by rw [h0 0 (by omega)]; decide), if_pos h1]; rfl
  · rw [if_neg (by rw [h0 0 (by omega)]; decide), if_neg (by rw [h0 1 (by omega)]; decide), if_pos h1]; rfl
  · rw [if_neg (by rw [h0 0 (by omega)]; decide), if_neg (by rw [h0 1 (by omega)]; decide), if_neg (by rw [h0 2 (by omega)]; decide), if_pos h1]; rfl
  · rw [if_neg (by rw [h0 0 (by omega)]; decide), if_neg (by rw [h0 1 (by omega)]; decide), if_neg (by rw [h0 2 (by omega)]; decide), if_neg (by rw [h0 3 (by omega)]; decide)]; rfl
theorem below_step {P : Nat → Prop} {j : Nat} (h : ∀ i, i < j → P i) (hj : P j) : ∀ i, i < j + 1 → P i := fun i hi => by
  rcases Nat.lt_or_ge i j with h1 | h1
  · exact h i h1
  · obtain rfl : i = j := by omega
    exact hj
section
variable {a b : Option Addr} {n m c d : Nat} {l l' : List Fd} {w : World}
theorem equalFormats_any (h : Fds w a n l) (h' : Fds w b m l') : Calls Try.prog 14 #[.slice a n c, .slice b m d] w (Told (.bool (same l l')) w) := by
  by_cases e : l = l'
  · subst e
    have : same l l = true := by simp [same]
    rw [this]
    exact equalFormats_yes h h'
  · have : same l l' = false := by simp [same, e]
    rw [this]
    exact equalFormats_no h h' e
set_option maxRecDepth 100000 in
theorem isAround_any (h : Fds w a n l) (h' : Fds w b m l') (hc : n ≤ c ∧ (c : Int) ≤ 9223372036854775807) (hd : m ≤ d ∧ (d : Int) ≤ 9223372036854775807) :
    Calls Try.prog 32 #[.slice a n c, .slice b m d] w (Told (.bool (within l' l)) w) := by
  have K := Lib.hid (isWithin_any h' h hd hc)
  clear h h' hc hd
  go_enter Try.func32, Try.ntmps32
  go_wp2_with fail
  refine K.out.mono ?_
  rintro e w1 ⟨rfl, hb1⟩
  have HB1 := Lib.hid hb1
  clear hb1
  go_wp2_with fail
  go_ret
  exact ⟨rfl, HB1.out⟩
set_option maxRecDepth 100000 in
theorem isWithTail_any (h : Fds w a n l) (h' : Fds w b m l') (hc : n ≤ c ∧ (c : Int) ≤ 9223372036854775807) (hd : m ≤ d ∧ (d : Int) ≤ 9223372036854775807) (hn : n ≤ 1048576000) :
    Calls Try.prog 31 #[.slice a n c, .slice b m d] w (Told (.bool (tailOf l l')) w) := by
  have hl := h.len
  have hl' := h'.len
  have K := Lib.hid (firstF_any b m d n l' w h' hn)
  have K2 := Lib.hid (fun (w1 : World) (hb : Below w.heap.size w w1) (p : Option Addr) (k f : Nat) (hp : Fds w1 p k (l'.take n)) (hq : k ≤ f ∧ (f : Int) ≤ 9223372036854775807) => isWithin_any (h.same hb) hp hc hq)
  by_cases hlt : n < m
  · have ht : tailOf l l' = within l (l'.take n) := by simp [tailOf, hl, hl', hlt]
    rw [ht]
    have hq : decide ((m : Int) > (n : Int)) = true := by simp; omega
    clear h h' hc hd ht hl hl'
    go_enter Try.func31, Try.ntmps31
    go_wp2_with fail
    refine K.out.mono ?_
    rintro e w1 ⟨p, f, rfl, ho, hb1⟩
    have HB1 := Lib.hid hb1
    have K3 := Lib.hid (K2.out w1 hb1 p _ f (ho.items Fd.enc_len) ho.room)
    clear hb1 ho
    go_wp2_with fail
    refine K3.out.mono ?_
    rintro e w2 ⟨rfl, hb2⟩
    have HB2 := Lib.hid (HB1.out.trans (hb2.mono HB1.out.size))
    clear hb2
    go_wp2_with fail
    go_ret
    exact ⟨rfl, HB2.out⟩
  · have ht : tailOf l l' = false := by simp [tailOf, hl, hl', hlt]
    rw [ht]
    have hq : decide ((m : Int) > (n : Int)) = false := by simp; omega
    clear h h' hc hd ht hl hl'
    go_enter Try.func31, Try.ntmps31
    go_wp2_with fail
    go_ret
    exact ⟨rfl, Below.refl _ _⟩
end
theorem tab0 (w : World) : (Instr.index 46 (.agg #[.func (.func 14) #[] #[], .func (.func 15) #[] #[], .func (.func 31) #[] #[], .func (.func 32) #[] #[]]) (.int .i64 0)).run Try.prog w = .ok (.func (.func 14) #[] #[]) w := by kernel_rfl
theorem tab1 (w : World) : (Instr.index 46 (.agg #[.func (.func 14) #[] #[], .func (.func 15) #[] #[], .func (.func 31) #[] #[], .func (.func 32) #[] #[]]) (.int .i64 1)).run Try.prog w = .ok (.func (.func 15) #[] #[]) w := by kernel_rfl
theorem tab2 (w : World) : (Instr.index 46 (.agg #[.func (.func 14) #[] #[], .func (.func 15) #[] #[], .func (.func 31) #[] #[], .func (.func 32) #[] #[]]) (.int .i64 2)).run Try.prog w = .ok (.func (.func 31) #[] #[]) w := by kernel_rfl
theorem tab3 (w : World) : (Instr.index 46 (.agg #[.func (.func 14) #[] #[], .func (.func 15) #[] #[], .func (.func 31) #[] #[], .func (.func 32) #[] #[]]) (.int .i64 3)).run Try.prog w = .ok (.func (.func 32) #[] #[]) w := by kernel_rfl
section
variable {a b : Option Addr} {n m c d : Nat} {l l' : List Fd} {w : World}
set_option maxHeartbeats 2000000 in
set_option maxRecDepth 100000 in
theorem breakOf_any (h : Fds w a n l) (h' : Fds w b m l') (hc : n ≤ c ∧ (c : Int) ≤ 9223372036854775807) (hd : m ≤ d ∧ (d : Int) ≤ 9223372036854775807) (hn : n ≤ 1048576000) :
    Calls Try.prog 11 #[.slice a n c, .slice b m d] w (Told (.int .i64 (brOf l l')) w) := by
  have F1 := Lib.hid (isFormat_any a n c l w h hc)
  have F2 := Lib.hid (fun (w1 : World) (hb : Below w.heap.size w w1) => isFormat_any b m d l' w1 (h'.same hb) hd)
  have K0 := Lib.hid (fun (w1 : World) (hb : Below w.heap.size w w1) => equalFormats_any (c := c) (d := d) (h.same hb) (h'.same hb))
  have K1 := Lib.hid (fun (w1 : World) (hb : Below w.heap.size w w1) => isWithin_any (h.same hb) (h'.same hb) hc hd)
  have K2 := Lib.hid (fun (w1 : World) (hb : Below w.heap.size w w1) => isWithTail_any (h.same hb) (h'.same hb) hc hd hn)
  have K3 := Lib.hid (fun (w1 : World) (hb : Below w.heap.size w w1) => isAround_any (h.same hb) (h'.same hb) hc hd)
  have hl := Lib.hid h.len
  clear h h' hc hd
  cases hA : isFmt l with
  | false =>
    have HE : Hid (brOf l l' = 4) := Lib.hid (if_pos (by rw [hA]; rfl))
    rw [hA] at F1
    go_enter Try.func11, Try.ntmps11
    go_wp2_with fail
    refine F1.out.mono ?_
    rintro e w1 ⟨rfl, hb1⟩
    have HB1 := Lib.hid hb1
    clear hb1
    go_wp2_with fail
    go_ret
    exact ⟨by rw [HE.out]; rfl, HB1.out⟩
  | true =>
    rw [hA] at F1
    cases hA' : isFmt l' with
    | false =>
      have HE : Hid (brOf l l' = 4) := Lib.hid (if_pos (by rw [hA, hA']; rfl))
      rw [hA'] at F2
      go_enter Try.func11, Try.ntmps11
      go_wp2_with fail
      refine F1.out.mono ?_
      rintro e w1 ⟨rfl, hb1⟩
      have HB1 := Lib.hid hb1
      clear hb1
      go_wp2_with fail
      refine (F2.out _ HB1.out).mono ?_
      rintro e w2 ⟨rfl, hb2⟩
      have HB2 := Lib.hid (HB1.out.trans (hb2.mono HB1.out.size))
      clear hb2
      go_wp2_with fail
      go_ret
      exact ⟨by rw [HE.out]; rfl, HB2.out⟩
    | true =>
      have HF : Hid ((isFmt l && isFmt l') = true) := Lib.hid (by rw [hA, hA']; rfl)
      rw [hA'] at F2
      go_enter Try.func11, Try.ntmps11
      go_wp2_with fail
      refine F1.out.mono ?_
      rintro e w1 ⟨rfl, hb1⟩
      have HB1 := Lib.hid hb1
      clear hb1
      go_wp2_with fail
      refine (F2.out _ HB1.out).mono ?_
      rintro e w2 ⟨rfl, hb2⟩
      have HB2 := Lib.hid (HB1.out.trans (hb2.mono HB1.out.size))
      clear hb2
      have HB0 := Lib.hid ((alloc_same w2 (.cells #[.nilFunc, .nilFunc, .nilFunc, .nilFunc] 46)).mono HB2.out.size)
      go_wp2_with (with_reducible refine wpl_store_whole _ rfl 46 (.tmp 5) (.tmp 16) rfl w2.heap.size #[.func (.func 14) #[] #[], .func (.func 15) #[] #[], .func (.func 31) #[] #[], .func (.func 32) #[] #[]] rfl rfl 46 _ (heap_alloc_new _ _) ?c2 ?c3 ?c4 ?_)
      case c2 => kernel_rfl
      case c3 => rfl
      case c4 => simp [Value.oneCell']
      intro w3 h3 hg3
      have H3 := Lib.hid h3
      have HB3 := Lib.hid ((HB2.out.trans HB0.out).grown hg3 (by have := HB2.out.size; have := HB0.out.size; omega) (fun _ e => by cases e; exact HB2.out.size))
      clear h3 hg3
      go_wp2_with (with_reducible refine wpList_load_row rfl 46 (.tmp 5) rfl w2.heap.size rfl 46 #[.func (.func 14) #[] #[], .func (.func 15) #[] #[], .func (.func 31) #[] #[], .func (.func 32) #[] #[]] (0, 0) _ H3.out Try.underlying46 rfl ?c1 ?_)
      case c1 => kernel_rfl
      go_loopw [18] (fun i wr => ∃ j : Nat, j ≤ 4 ∧ i = .int .i64 j ∧ (∀ i, i < j → chk l l' i = false) ∧ Below w.heap.size w wr) (fun i _ => 4 - (intOf i).toNat)
      case atStart => exact ⟨0, by omega, rfl, fun i hi => absurd hi (by omega), HB3.out⟩
      case round =>
        obtain ⟨j, hj, rfl, ht, hb⟩ := hrel
        have HB := Lib.hid hb
        have HT := Lib.hid ht
        clear hb ht
        clear HB3 H3 HB0
        rcases (by omega : j = 0 ∨ j = 1 ∨ j = 2 ∨ j = 3 ∨ j = 4) with rfl | rfl | rfl | rfl | rfl
        · have K := Lib.hid (K0.out _ HB.out)
          have ht := tab0 wr
          cases hk : same l l' with
          | false =>
            rw [hk] at K
            have HQ : Hid (chk l l' 0 = false) := Lib.hid hk
            clear hk
            go_wp2_with fail
            refine K.out.mono ?_
            rintro e w3 ⟨rfl, hb3⟩
            have HB3 := Lib.hid (HB.out.trans (hb3.mono HB.out.size))
            clear hb3
            go_wp2_with fail
            go_roundw
            case rel => exact ⟨1, by omega, by go_num, below_step HT.out HQ.out, HB3.out⟩
            case measure => simp [intOf]
          | true =>
            rw [hk] at K
            have HQ : Hid (brOf l l' = 0) := Lib.hid (brOf_at HF.out (j := 0) (by omega) HT.out hk)
            clear hk
            go_wp2_with fail
            refine K.out.mono ?_
            rintro e w3 ⟨rfl, hb3⟩
            have HB3 := Lib.hid (HB.out.trans (hb3.mono HB.out.size))
            clear hb3
            go_wp2_with fail
            go_ret
            exact ⟨by rw [HQ.out]; rfl, HB3.out⟩
        · have K := Lib.hid (K1.out _ HB.out)
          have ht := tab1 wr
          cases hk : within l l' with
          | false =>
            rw [hk] at K
            have HQ : Hid (chk l l' 1 = false) := Lib.hid hk
            clear hk
            go_wp2_with fail
            refine K.out.mono ?_
            rintro e w3 ⟨rfl, hb3⟩
            have HB3 := Lib.hid (HB.out.trans (hb3.mono HB.out.size))
            clear hb3
            go_wp2_with fail
            go_roundw
            case rel => exact ⟨2, by omega, by go_num, below_step HT.out HQ.out, HB3.out⟩
            case measure => simp [intOf]
          | true =>
            rw [hk] at K
            have HQ : Hid (brOf l l' = 1) := Lib.hid (brOf_at HF.out (j := 1) (by omega) HT.out hk)
            clear hk
            go_wp2_with fail
            refine K.out.mono ?_
            rintro e w3 ⟨rfl, hb3⟩
            have HB3 := Lib.hid (HB.out.trans (hb3.mono HB.out.size))
            clear hb3
            go_wp2_with fail
            go_ret
            exact ⟨by rw [HQ.out]; rfl, HB3.out⟩
        · have K := Lib.hid (K2.out _ HB.out)
          have ht := tab2 wr
          cases hk : tailOf l l' with
          | false =>
            rw [hk] at K
            have HQ : Hid (chk l l' 2 = false) := Lib.hid hk
            clear hk
            go_wp2_with fail
            refine K.out.mono ?_
            rintro e w3 ⟨rfl, hb3⟩
            have HB3 := Lib.hid (HB.out.trans (hb3.mono HB.out.size))
            clear hb3
            go_wp2_with fail
            go_roundw
            case rel => exact ⟨3, by omega, by go_num, below_step HT.out HQ.out, HB3.out⟩
            case measure => simp [intOf]
          | true =>
            rw [hk] at K
            have HQ : Hid (brOf l l' = 2) := Lib.hid (brOf_at HF.out (j := 2) (by omega) HT.out hk)
            clear hk
            go_wp2_with fail
            refine K.out.mono ?_
            rintro e w3 ⟨rfl, hb3⟩
            have HB3 := Lib.hid (HB.out.trans (hb3.mono HB.out.size))
            clear hb3
            go_wp2_with fail
            go_ret
            exact ⟨by rw [HQ.out]; rfl, HB3.out⟩
        · have K := Lib.hid (K3.out _ HB.out)
          have ht := tab3 wr
          cases hk : within l' l with
          | false =>
            rw [hk] at K
            have HQ : Hid (chk l l' 3 = false) := Lib.hid hk
            clear hk
            go_wp2_with fail
            refine K.out.mono ?_
            rintro e w3 ⟨rfl, hb3⟩
            have HB3 := Lib.hid (HB.out.trans (hb3.mono HB.out.size))
            clear hb3
            go_wp2_with fail
            go_roundw
            case rel => exact ⟨4, by omega, by go_num, below_step HT.out HQ.out, HB3.out⟩
            case measure => simp [intOf]
          | true =>
            rw [hk] at K
            have HQ : Hid (brOf l l' = 3) := Lib.hid (brOf_at HF.out (j := 3) (by omega) HT.out hk)
            clear hk
            go_wp2_with fail
            refine K.out.mono ?_
            rintro e w3 ⟨rfl, hb3⟩
            have HB3 := Lib.hid (HB.out.trans (hb3.mono HB.out.size))
            clear hb3
            go_wp2_with fail
            go_ret
            exact ⟨by rw [HQ.out]; rfl, HB3.out⟩
        · have HQ : Hid (brOf l l' = 4) := Lib.hid (brOf_at HF.out (j := 4) (by omega) HT.out rfl)
          go_wp2_with fail
          go_ret
          exact ⟨by rw [HQ.out]; rfl, HB.out⟩
end
end Go.Proofs.Ytjkjnhkamieljaa
namespace Go.Proofs.Ytjkjnhkamieljaa
open Go.ChangeShapes Go.WideShapes Go.ChangeAt Go.RowKit
set_option linter.unusedVariables false

theorem fdIn_parts {x y : Fd} (h : fdIn x y = true) : x.kind = y.kind ∧ x.cond = y.cond ∧ x.is = y.is ∧ x.max ≤ y.max := by
  simp only [fdIn, Bool.and_eq_true, decide_eq_true_eq, beq_iff_eq] at h
  exact ⟨h.1.1.2, h.1.2, h.2, h.1.1.1⟩
theorem isThere_alike {l l' : List Fd} {v : List Vl} {j : Nat} {x y : Fd} (hx : l[j]? = some x) (hy : l'[j]? = some y) (hc : x.cond = y.cond) (hi : x.is = y.is) : isThere l v j = isThere l' v j := by
  rw [isThere_in hx, isThere_in hy, hc, hi]
theorem fitsField_wider {x y : Fd} {k : Int} {z : List Int} (hk : x.kind = y.kind) (hm : x.max ≤ y.max) (h : fitsField x k z = true) : fitsField y k z = true := by
  unfold fitsField at h ⊢
  rw [← hk]
  split at h
  · rename_i h1
    rw [if_pos h1]
    simp only [Bool.and_eq_true, decide_eq_true_eq] at h ⊢
    exact ⟨⟨h.1.1, by omega⟩, h.2⟩
  · rename_i h1
    rw [if_neg h1]
    split at h
    · rename_i h2
      rw [if_pos h2]
      simp only [Bool.and_eq_true, decide_eq_true_eq, fitIts] at h ⊢
      exact ⟨h.1, by omega, h.2.2⟩
    · rename_i h2
      rw [if_neg h2]
      split at h
      · rename_i h3
        rw [if_pos h3]
        simp only [Bool.and_eq_true, decide_eq_true_eq, fitIts] at h ⊢
        exact ⟨h.1, by omega, h.2.2⟩
      · cases h
theorem codeV_alike {x y : Fd} (hk : x.kind = y.kind) (z : Vl) : codeV x z = codeV y z := by
  unfold codeV
  rw [hk]
theorem codeAt_of {l l' : List Fd} {v v' : List Vl} {j : Nat} {x y : Fd} {z : Vl} (hx : l[j]? = some x) (hy : l'[j]? = some y) (hz : v[j]? = some z) (hz' : v'[j]? = some z) (ht : isThere l v j = isThere l' v' j) (hk : x.kind = y.kind) : codeAt l v j = codeAt l' v' j := by
  cases h : isThere l v j with
  | true => rw [codeAt_yes hx hz h, codeAt_yes hy hz' (ht ▸ h), codeV_alike hk]
  | false => rw [codeAt_no h, codeAt_no (ht ▸ h)]
/-- A message of a format is a message of the wider one, and its bytes are the same. -/
theorem within_fits {l l' : List Fd} {v : List Vl} (h : within l l' = true) (hv : fitsFmt l v = true) : fitsFmt l' v = true ∧ encOf l' v = encOf l v := by
  obtain ⟨h1, h2, h3⟩ := within_fmt h
  obtain ⟨_, hl, ht⟩ := fitsFmt_parts hv
  have hll := fmtIn_len h3
  have hf : fitsFmt l' v = true := by
    refine fitsFmt_yes h2 (by omega) ?_
    intro i y z hi hy hz
    obtain ⟨x, hx⟩ : ∃ x, l[i]? = some x := ⟨_, List.getElem?_eq_getElem (by omega)⟩
    obtain ⟨e1, e2, e3, e4⟩ := fdIn_parts (fmtIn_at h3 hx hy)
    have h5 := ht i x z (by omega) hx hz
    rw [isThere_alike hx hy e2 e3] at h5
    cases hT : isThere l' v i with
    | true =>
      rw [hT, fitsAt_there rfl] at h5
      rw [fitsAt_there rfl]
      exact fitsField_wider e1 e4 h5
    | false =>
      rw [hT] at h5
      exact h5
  refine ⟨hf, ?_⟩
  rw [encOf_yes hf, encOf_yes hv]
  have : ∀ j, j ≤ l.length → codeTo l' v j = codeTo l v j := by
    intro j
    induction j with
    | zero => intro _; rfl
    | succ j ih =>
      intro hj
      obtain ⟨x, hx⟩ : ∃ x, l[j]? = some x := ⟨_, List.getElem?_eq_getElem (by omega)⟩
      obtain ⟨y, hy⟩ : ∃ y, l'[j]? = some y := ⟨_, List.getElem?_eq_getElem (by omega)⟩
      obtain ⟨z, hz⟩ : ∃ z, v[j]? = some z := ⟨_, List.getElem?_eq_getElem (by omega)⟩
      obtain ⟨e1, e2, e3, e4⟩ := fdIn_parts (fmtIn_at h3 hx hy)
      rw [codeTo, codeTo, ih (by omega), codeAt_of hx hy hz hz (isThere_alike hx hy e2 e3) e1]
  unfold codeOf
  rw [← hll]
  exact this _ (Nat.le_refl _)
theorem take_at {α : Type} {l : List α} {n j : Nat} (h : j < n) : (l.take n)[j]? = l[j]? := by
  rw [List.getElem?_take, if_pos h]
theorem codeTo_more (l : List Fd) (v : List Vl) (n : Nat) : ∀ k, ∃ r, codeTo l v (n + k) = codeTo l v n ++ r
  | 0 => ⟨[], by simp⟩
  | k + 1 => by
    obtain ⟨r, hr⟩ := codeTo_more l v n k
    exact ⟨r ++ codeAt l v (n + k), by rw [← Nat.add_assoc, codeTo, hr, List.append_assoc]⟩
/-- The first values of a message are a message of the first fields, and its bytes begin with that one's. -/
theorem first_fits {l : List Fd} {v : List Vl} {n : Nat} (hn : n ≤ l.length) (hf : isFmt (l.take n) = true) (hv : fitsFmt l v = true) :
    fitsFmt (l.take n) (v.take n) = true ∧ ∃ r, encOf l v = encOf (l.take n) (v.take n) ++ r := by
  obtain ⟨h1, hl, ht⟩ := fitsFmt_parts hv
  have hok := (isFmt_iff.1 h1).2
  have hlt : (l.take n).length = n := by rw [List.length_take]; omega
  have hT : ∀ j x, j < n → l[j]? = some x → isThere (l.take n) (v.take n) j = isThere l v j := by
    intro j x hj hx
    rw [isThere_alike (l' := l) (by rw [take_at hj]; exact hx) hx rfl rfl]
    exact isThere_part hx (okTo_cond hok (by omega) hx) fun q hq => take_at (by omega)
  have hfit : fitsFmt (l.take n) (v.take n) = true := by
    refine fitsFmt_yes hf (by rw [List.length_take, List.length_take]; omega) ?_
    intro i x z hi hx hz
    rw [hlt] at hi
    rw [take_at hi] at hx hz
    rw [hT i x hi hx]
    exact ht i x z (by omega) hx hz
  refine ⟨hfit, ?_⟩
  rw [encOf_yes hfit, encOf_yes hv]
  have : ∀ j, j ≤ n → codeTo (l.take n) (v.take n) j = codeTo l v j := by
    intro j
    induction j with
    | zero => intro _; rfl
    | succ j ih =>
      intro hj
      obtain ⟨x, hx⟩ : ∃ x, l[j]? = some x := ⟨_, List.getElem?_eq_getElem (by omega)⟩
      obtain ⟨z, hz⟩ : ∃ z, v[j]? = some z := ⟨_, List.getElem?_eq_getElem (by omega)⟩
      rw [codeTo, codeTo, ih (by omega), codeAt_of (l' := l) (v' := v) (by rw [take_at (by omega)]; exact hx) hx (by rw [take_at (by omega)]; exact hz) hz (hT j x (by omega) hx) rfl]
  obtain ⟨r, hr⟩ := codeTo_more l v n (l.length - n)
  refine ⟨r, ?_⟩
  unfold codeOf
  rw [hlt, this n (Nat.le_refl _), ← hr]
  congr 1
  omega

/-- So many of the messages that the first seeds make are not accepted. -/
noncomputable def lostTo (l l' : List Fd) : Nat → Nat
  | 0 => 0
  | k + 1 => lostTo l l' k + (if dmOk l' (encOf l (mkMsg l k)) = true then 0 else 1)
noncomputable def lostOf (l l' : List Fd) (s : Int) : Int := if (0 ≤ s ∧ s ≤ 50) ∧ isFmt l = true then (lostTo l l' s.toNat : Int) else 0
theorem lostTo_le (l l' : List Fd) : ∀ k, lostTo l l' k ≤ k
  | 0 => Nat.le_refl _
  | k + 1 => by
    have := lostTo_le l l' k
    unfold lostTo
    split <;> omega
theorem lost_within {l l' : List Fd} (h : within l l' = true) : ∀ k, lostTo l l' k = 0
  | 0 => rfl
  | k + 1 => by
    have hv := mkMsg_fits (k : Int) (within_fmt h).1
    obtain ⟨h1, h2⟩ := within_fits h hv
    rw [lostTo, lost_within h k, ← h2, if_pos (dm_code h1).1]
theorem lostOf_within {l l' : List Fd} (h : within l l' = true) (s : Int) : lostOf l l' s = 0 := by
  unfold lostOf
  split
  · rw [lost_within h]; rfl
  · rfl
/-- The first values of what is made are read, and the rest is left. -/
noncomputable def skipOf (l l' : List Fd) (s : Int) : Bool := decide (0 ≤ rpK l (encOf l' (mkMsg l' s))) && @decide (rpV l (encOf l' (mkMsg l' s)) = (mkMsg l' s).take l.length) (Classical.propDecidable _)
theorem rp_len {l : List Fd} {y : List Int} (h : 0 ≤ rpK l y) : (rpV l y).length = l.length := by
  cases hr : rdP l y with
  | none => rw [(rp_none hr).2] at h; omega
  | some q =>
    obtain ⟨v, k⟩ := q
    rw [(rp_some hr).1]
    exact (fitsFmt_parts (rdP_form hr).1).2.1
theorem skip_first {l' : List Fd} {n : Nat} (hn : n ≤ l'.length) (hf : isFmt (l'.take n) = true) (hf' : isFmt l' = true) (s : Int) : skipOf (l'.take n) l' s = true := by
  have hv := mkMsg_fits s hf'
  obtain ⟨h1, r, hr⟩ := first_fits hn hf hv
  obtain ⟨h2, h3⟩ := rp_code h1 r
  unfold skipOf
  rw [hr, h2, h3, Bool.and_eq_true]
  refine ⟨decide_eq_true (by omega), @decide_eq_true _ (Classical.propDecidable _) ?_⟩
  rw [List.length_take, Nat.min_eq_left hn]
end Go.Proofs.Ytjkjnhkamieljaa
namespace Go.Proofs.Ytjkjnhkamieljaa
open Go.ChangeShapes Go.WideShapes Go.ChangeAt Go.RowKit
set_option linter.unusedVariables false

theorem same_iff {l l' : List Fd} : same l l' = true ↔ l = l' := by unfold same; exact @decide_eq_true_iff _ (Classical.propDecidable _)
theorem same_not {l l' : List Fd} : same l l' = false ↔ l ≠ l' := by unfold same; exact @decide_eq_false_iff_not _ (Classical.propDecidable _)
theorem same_back {l l' : List Fd} (h : same l l' = false) : same l' l = false := same_not.2 fun e => same_not.1 h e.symm
theorem fmtIn_self : ∀ l : List Fd, fmtIn l l = true
  | [] => rfl
  | x :: l => by
    rw [fmtIn, fmtIn_self l, Bool.and_true]
    simp [fdIn]
theorem fmtIn_both : ∀ {l l' : List Fd}, fmtIn l l' = true → fmtIn l' l = true → l = l'
  | [], [], _, _ => rfl
  | x :: l, y :: l', h, h' => by
    simp only [fmtIn, Bool.and_eq_true] at h h'
    obtain ⟨e1, e2, e3, e4⟩ := fdIn_parts h.1
    obtain ⟨_, _, _, e5⟩ := fdIn_parts h'.1
    rw [fmtIn_both h.2 h'.2]
    obtain ⟨a1, a2, a3, a4⟩ := x
    obtain ⟨b1, b2, b3, b4⟩ := y
    dsimp only at e1 e2 e3 e4 e5
    obtain rfl : a2 = b2 := by omega
    subst e1 e2 e3
    rfl
  | [], _ :: _, h, _ => by simp [fmtIn] at h
  | _ :: _, [], h, _ => by simp [fmtIn] at h
theorem within_both {l l' : List Fd} (h : within l l' = true) (hs : same l l' = false) : within l' l = false := by
  cases hq : within l' l with
  | false => rfl
  | true => exact absurd (fmtIn_both (within_fmt h).2.2 (within_fmt hq).2.2) (same_not.1 hs)
theorem tail_same {l l' : List Fd} (h : fmtIn l l' = true) : tailOf l l' = false ∧ tailOf l' l = false := by
  have := fmtIn_len h
  simp [tailOf, this]
theorem not_within {l l' : List Fd} (h : isFmt l = false ∨ isFmt l' = false) : within l l' = false := by
  unfold within
  rcases h with h | h <;> simp [h]
/-- The number is one of these, with what it says of the fields. -/
structure BrCase (l l' : List Fd) (k : Int) (f s t : Bool) : Prop where
  is : brOf l l' = k
  fmt : isFmt l = f
  same : f = true → same l l' = s
  lies : within l l' = t
theorem br_cases (l l' : List Fd) :
    BrCase l l' 0 true true true ∨
    (BrCase l l' 1 true false true ∧ brOf l' l = 3) ∨
    (BrCase l l' 2 true false false ∧ l.length < l'.length ∧ isFmt l' = true) ∨
    (BrCase l l' 3 true false false ∧ brOf l' l = 1) ∨
    BrCase l l' 4 false false false ∨
    BrCase l l' 4 true false false := by
  cases hA : isFmt l with
  | false => exact Or.inr (Or.inr (Or.inr (Or.inr (Or.inl ⟨if_pos (by rw [hA]; rfl), hA, fun h => (by cases h), not_within (Or.inl hA)⟩))))
  | true =>
    cases hB : isFmt l' with
    | false =>
      have hs : same l l' = false := same_not.2 fun e => by rw [e, hB] at hA; cases hA
      exact Or.inr (Or.inr (Or.inr (Or.inr (Or.inr ⟨if_pos (by rw [hA, hB]; rfl), hA, fun _ => hs, not_within (Or.inr hB)⟩))))
    | true =>
      have hF : (isFmt l && isFmt l') = true := by rw [hA, hB]; rfl
      have hF' : (isFmt l' && isFmt l) = true := by rw [hA, hB]; rfl
      have n0 : ∀ (p q : List Fd) (i : Nat), i < 0 → chk p q i = false := fun _ _ i hi => absurd hi (by omega)
      cases h0 : same l l' with
      | true =>
        have e := same_iff.1 h0
        subst e
        exact Or.inl ⟨brOf_at hF (j := 0) (by omega) (n0 _ _) h0, hA, fun _ => h0, by unfold within; rw [hA, fmtIn_self]; rfl⟩
      | false =>
        have G0 := below_step (P := fun i => chk l l' i = false) (n0 _ _) (j := 0) h0
        have G0' := below_step (P := fun i => chk l' l i = false) (n0 _ _) (j := 0) (same_back h0)
        cases h1 : within l l' with
        | true =>
          have h2 := within_both h1 h0
          have h3 := (tail_same (within_fmt h1).2.2).2
          have G1' := below_step (P := fun i => chk l' l i = false) (below_step (P := fun i => chk l' l i = false) G0' (j := 1) h2) (j := 2) h3
          exact Or.inr (Or.inl ⟨⟨brOf_at hF (j := 1) (by omega) G0 h1, hA, fun _ => h0, h1⟩, brOf_at hF' (j := 3) (by omega) G1' h1⟩)
        | false =>
          have G1 := below_step (P := fun i => chk l l' i = false) G0 (j := 1) h1
          cases h2 : tailOf l l' with
          | true =>
            have h4 := h2
            simp only [tailOf, Bool.and_eq_true, decide_eq_true_eq] at h4
            exact Or.inr (Or.inr (Or.inl ⟨⟨brOf_at hF (j := 2) (by omega) G1 h2, hA, fun _ => h0, h1⟩, h4.1, rfl⟩))
          | false =>
            have G2 := below_step (P := fun i => chk l l' i = false) G1 (j := 2) h2
            cases h3 : within l' l with
            | true => exact Or.inr (Or.inr (Or.inr (Or.inl ⟨⟨brOf_at hF (j := 3) (by omega) G2 h3, hA, fun _ => h0, h1⟩, brOf_at hF' (j := 1) (by omega) G0' h3⟩)))
            | false => exact Or.inr (Or.inr (Or.inr (Or.inr (Or.inr ⟨brOf_at hF (j := 4) (by omega) (below_step (P := fun i => chk l l' i = false) G2 (j := 3) h3) rfl, hA, fun _ => h0, h1⟩))))
/-- What is made of the narrower format is decoded by the wider one. -/
theorem made_within {l l' : List Fd} (h : within l l' = true) (s : Int) : dmOk l' (encOf l (mkMsg l s)) = true ∧ dmV l' (encOf l (mkMsg l s)) = mkMsg l s := by
  obtain ⟨h1, h2⟩ := within_fits h (mkMsg_fits s (within_fmt h).1)
  rw [← h2]
  exact dm_code h1
theorem skip_same {l l' : List Fd} (hn : l.length < l'.length) (hA : isFmt l = true) (hB : isFmt l' = true) (h : same l (l'.take l.length) = true) (s : Int) : skipOf l l' s = true := by
  have e := same_iff.1 h
  have h1 := skip_first (n := l.length) (by omega) (by rw [← e]; exact hA) hB s
  rw [← e] at h1
  exact h1
end Go.Proofs.Ytjkjnhkamieljaa
namespace Go.Proofs.Ytjkjnhkamieljaa
open Go.ChangeShapes Go.WideShapes Go.ChangeAt Go.RowKit
set_option linter.unusedVariables false

theorem inRange_told (n l h : Int) (w : World) :
    Calls Try.prog 33 #[.int .i64 n, .int .i64 l, .int .i64 h] w (Told (.bool (decide (l ≤ n) && decide (n ≤ h))) w) := by
  by_cases h1 : l ≤ n <;> by_cases h2 : n ≤ h <;> (go_enter Try.func33, Try.ntmps33; go_wp2; go_ret; exact ⟨by simp [h1, h2], Below.refl _ _⟩)
theorem l1In_told (n l h : Int) (w : World) :
    Calls Try.prog 50 #[.int .i64 n, .int .i64 l, .int .i64 h] w (Told (.bool (decide (l ≤ n) && decide (n ≤ h))) w) := by
  by_cases h1 : l ≤ n <;> by_cases h2 : n ≤ h <;> (go_enter Try.func50, Try.ntmps50; go_wp2; go_ret; exact ⟨by simp [h1, h2], Below.refl _ _⟩)
def brName (k : Int) : List UInt8 := if k = 0 then [110, 111, 110, 101] else if k = 1 then [119, 105, 100, 101, 114] else if k = 2 then [116, 97, 105, 108] else if k = 3 then [110, 97, 114, 114, 111, 119, 101, 114] else if k = 4 then [111, 116, 104, 101, 114] else []
def namesRow : Array Value := #[.string ⟨#[110, 111, 110, 101]⟩, .string ⟨#[119, 105, 100, 101, 114]⟩, .string ⟨#[116, 97, 105, 108]⟩, .string ⟨#[110, 97, 114, 114, 111, 119, 101, 114]⟩, .string ⟨#[111, 116, 104, 101, 114]⟩]
theorem names_cell (w : World) (t : TypeId) (v : Value) (i : Nat) (h : namesRow[i]? = some v) : (w.alloc (.cells namesRow t)).cell? ⟨w.heap.size, i, none⟩ = some v := by
  simp only [World.cell?, heap_alloc_new]
  exact h
theorem brName_some {k : Int} (h0 : 0 ≤ k) (h4 : k ≤ 4) : brName k ≠ [] := by
  rcases (by omega : k = 0 ∨ k = 1 ∨ k = 2 ∨ k = 3 ∨ k = 4) with rfl | rfl | rfl | rfl | rfl <;> decide
set_option maxRecDepth 100000 in
theorem breakName_any (k : Int) (w : World) : Calls Try.prog 12 #[.int .i64 k] w (Told (.string ⟨(brName k).toArray⟩) w) := by
  by_cases hk : 0 ≤ k ∧ k ≤ 4
  · obtain ⟨h0, h4⟩ := hk
    rcases (by omega : k = 0 ∨ k = 1 ∨ k = 2 ∨ k = 3 ∨ k = 4) with rfl | rfl | rfl | rfl | rfl
    · have K := Lib.hid (fun (w0 : World) => inRange_told 0 0 4 w0)
      clear h0 h4
      go_enter Try.func12, Try.ntmps12
      go_wp2_with fail
      refine (K.out _).mono ?_
      rintro e w1 ⟨rfl, hb1⟩
      have HB1 := Lib.hid hb1
      have hc : w1.cell? ⟨w.heap.size, 0, none⟩ = some (.string ⟨#[110, 111, 110, 101]⟩) := cell_stay (names_cell w 47 (.string ⟨#[110, 111, 110, 101]⟩) 0 rfl) hb1
      clear hb1
      go_wp2
      go_ret
      exact ⟨rfl, (alloc_same w _).trans (HB1.out.mono (by simp))⟩
    · have K := Lib.hid (fun (w0 : World) => inRange_told 1 0 4 w0)
      clear h0 h4
      go_enter Try.func12, Try.ntmps12
      go_wp2_with fail
      refine (K.out _).mono ?_
      rintro e w1 ⟨rfl, hb1⟩
      have HB1 := Lib.hid hb1
      have hc : w1.cell? ⟨w.heap.size, 1, none⟩ = some (.string ⟨#[119, 105, 100, 101, 114]⟩) := cell_stay (names_cell w 47 (.string ⟨#[119, 105, 100, 101, 114]⟩) 1 rfl) hb1
      clear hb1
      go_wp2
      go_ret
      exact ⟨rfl, (alloc_same w _).trans (HB1.out.mono (by simp))⟩
    · have K := Lib.hid (fun (w0 : World) => inRange_told 2 0 4 w0)
      clear h0 h4
      go_enter Try.func12, Try.ntmps12
      go_wp2_with fail
      refine (K.out _).mono ?_
      rintro e w1 ⟨rfl, hb1⟩
      have HB1 := Lib.hid hb1
      have hc : w1.cell? ⟨w.heap.size, 2, none⟩ = some (.string ⟨#[116, 97, 105, 108]⟩) := cell_stay (names_cell w 47 (.string ⟨#[116, 97, 105, 108]⟩) 2 rfl) hb1
      clear hb1
      go_wp2
      go_ret
      exact ⟨rfl, (alloc_same w _).trans (HB1.out.mono (by simp))⟩
    · have K := Lib.hid (fun (w0 : World) => inRange_told 3 0 4 w0)
      clear h0 h4
      go_enter Try.func12, Try.ntmps12
      go_wp2_with fail
      refine (K.out _).mono ?_
      rintro e w1 ⟨rfl, hb1⟩
      have HB1 := Lib.hid hb1
      have hc : w1.cell? ⟨w.heap.size, 3, none⟩ = some (.string ⟨#[110, 97, 114, 114, 111, 119, 101, 114]⟩) := cell_stay (names_cell w 47 (.string ⟨#[110, 97, 114, 114, 111, 119, 101, 114]⟩) 3 rfl) hb1
      clear hb1
      go_wp2
      go_ret
      exact ⟨rfl, (alloc_same w _).trans (HB1.out.mono (by simp))⟩
    · have K := Lib.hid (fun (w0 : World) => inRange_told 4 0 4 w0)
      clear h0 h4
      go_enter Try.func12, Try.ntmps12
      go_wp2_with fail
      refine (K.out _).mono ?_
      rintro e w1 ⟨rfl, hb1⟩
      have HB1 := Lib.hid hb1
      have hc : w1.cell? ⟨w.heap.size, 4, none⟩ = some (.string ⟨#[111, 116, 104, 101, 114]⟩) := cell_stay (names_cell w 47 (.string ⟨#[111, 116, 104, 101, 114]⟩) 4 rfl) hb1
      clear hb1
      go_wp2
      go_ret
      exact ⟨rfl, (alloc_same w _).trans (HB1.out.mono (by simp))⟩
  · have hq : (decide ((0 : Int) ≤ k) && decide (k ≤ 4)) = false := by simp; omega
    have en : brName k = [] := by
      unfold brName
      rw [if_neg (by omega), if_neg (by omega), if_neg (by omega), if_neg (by omega), if_neg (by omega)]
    have K := Lib.hid (fun (w0 : World) => inRange_told k 0 4 w0)
    rw [hq] at K
    rw [en]
    clear hq hk en
    go_enter Try.func12, Try.ntmps12
    go_wp2_with fail
    refine (K.out _).mono ?_
    rintro e w1 ⟨rfl, hb1⟩
    have HB1 := Lib.hid hb1
    clear hb1
    go_wp2
    go_ret
    exact ⟨rfl, (alloc_same w _).trans (HB1.out.mono (by simp))⟩
set_option maxRecDepth 100000 in
theorem specBreakName_any (k : Int) (w : World) : Calls Try.prog 27 #[.int .i64 k] w (Told (.string ⟨(brName k).toArray⟩) w) := by
  by_cases hk : 0 ≤ k ∧ k ≤ 4
  · obtain ⟨h0, h4⟩ := hk
    rcases (by omega : k = 0 ∨ k = 1 ∨ k = 2 ∨ k = 3 ∨ k = 4) with rfl | rfl | rfl | rfl | rfl
    · have K := Lib.hid (fun (w0 : World) => l1In_told 0 0 4 w0)
      clear h0 h4
      go_enter Try.func27, Try.ntmps27
      go_wp2_with fail
      refine (K.out _).mono ?_
      rintro e w1 ⟨rfl, hb1⟩
      have HB1 := Lib.hid hb1
      clear hb1
      go_wp2
      go_ret
      exact ⟨rfl, HB1.out.trans ((alloc_same w1 _).mono HB1.out.size)⟩
    · have K := Lib.hid (fun (w0 : World) => l1In_told 1 0 4 w0)
      clear h0 h4
      go_enter Try.func27, Try.ntmps27
      go_wp2_with fail
      refine (K.out _).mono ?_
      rintro e w1 ⟨rfl, hb1⟩
      have HB1 := Lib.hid hb1
      clear hb1
      go_wp2
      go_ret
      exact ⟨rfl, HB1.out.trans ((alloc_same w1 _).mono HB1.out.size)⟩
    · have K := Lib.hid (fun (w0 : World) => l1In_told 2 0 4 w0)
      clear h0 h4
      go_enter Try.func27, Try.ntmps27
      go_wp2_with fail
      refine (K.out _).mono ?_
      rintro e w1 ⟨rfl, hb1⟩
      have HB1 := Lib.hid hb1
      clear hb1
      go_wp2
      go_ret
      exact ⟨rfl, HB1.out.trans ((alloc_same w1 _).mono HB1.out.size)⟩
    · have K := Lib.hid (fun (w0 : World) => l1In_told 3 0 4 w0)
      clear h0 h4
      go_enter Try.func27, Try.ntmps27
      go_wp2_with fail
      refine (K.out _).mono ?_
      rintro e w1 ⟨rfl, hb1⟩
      have HB1 := Lib.hid hb1
      clear hb1
      go_wp2
      go_ret
      exact ⟨rfl, HB1.out.trans ((alloc_same w1 _).mono HB1.out.size)⟩
    · have K := Lib.hid (fun (w0 : World) => l1In_told 4 0 4 w0)
      clear h0 h4
      go_enter Try.func27, Try.ntmps27
      go_wp2_with fail
      refine (K.out _).mono ?_
      rintro e w1 ⟨rfl, hb1⟩
      have HB1 := Lib.hid hb1
      clear hb1
      go_wp2
      go_ret
      exact ⟨rfl, HB1.out.trans ((alloc_same w1 _).mono HB1.out.size)⟩
  · have hq : (decide ((0 : Int) ≤ k) && decide (k ≤ 4)) = false := by simp; omega
    have en : brName k = [] := by
      unfold brName
      rw [if_neg (by omega), if_neg (by omega), if_neg (by omega), if_neg (by omega), if_neg (by omega)]
    have K := Lib.hid (fun (w0 : World) => l1In_told k 0 4 w0)
    rw [hq] at K
    rw [en]
    clear hq hk en
    go_enter Try.func27, Try.ntmps27
    go_wp2_with fail
    refine (K.out _).mono ?_
    rintro e w1 ⟨rfl, hb1⟩
    have HB1 := Lib.hid hb1
    clear hb1
    go_wp2
    go_ret
    exact ⟨rfl, HB1.out⟩
end Go.Proofs.Ytjkjnhkamieljaa
