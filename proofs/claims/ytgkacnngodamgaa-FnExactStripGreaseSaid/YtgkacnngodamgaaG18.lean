/- The extensions whose tag is in a list: by the model. A list of integers is decoded into extensions: by the model. Chapter 9 by the program and by the model: what the exact laws take. Lists of whole elements: the rest of a list from a place on; an append of many at a step of a region that draws its order. The extensions whose tag is in a list: by the model. -/
import Derived.Test.YtgkacnngodamgaaG10
import Derived.Test.YtgkacnngodamgaaG12
import Derived.Deep.RegionHeld3
import Derived.Test.YtgkacnngodamgaaG11
import Derived.Test.YtgkacnngodamgaaG13
import Derived.Test.YtgkacnngodamgaaG2
import Derived.Test.YtgkacnngodamgaaG15
namespace Go.Proofs.Ytgkacnngodamgaa
open Go.ChangeShapes Go.WideShapes Go.ChangeAt Go.RowKit
set_option linter.unusedVariables false
set_option linter.unusedSimpArgs false

set_option maxHeartbeats 4000000 in
set_option maxRecDepth 100000 in
theorem specKnownOf_any {a b : Option Addr} {n c m d : Nat} {l : List Vl} {ts : List Int} {w : World} (h : Vals w a n l) (h' : Nums .i64 w b m ts) (hn : n ≤ 1048576) (hit : itemsOf l ≤ 1048576) :
    Calls Try.prog 31 #[.slice a n c, .slice b m d] w (MadeV 57 3 w.heap.size (knownOf l ts) w) := by
  have H := Lib.hid h
  have HT := Lib.hid h'
  have hln := Lib.hid h.len
  obtain ⟨i0, hi, hz0, hz1, hz2⟩ := info_parts infoExtS
  have HI := Lib.hid (And.intro hi (And.intro hz0 (And.intro hz1 hz2)))
  obtain ⟨i1, ki, kz0, kz1, kz2⟩ := info_parts infoIntS
  have HJ := Lib.hid (And.intro ki (And.intro kz0 (And.intro kz1 kz2)))
  clear h h' hi hz0 hz1 hz2 ki kz0 kz1 kz2
  have HO : Hid (OwnV 57 3 (w.alloc (.cells #[] 57)) w.heap.size (some ⟨w.heap.size, 0, none⟩) 0 0 (knownOf (l.take 0) ts)) := Lib.hid (OwnV.empty (Nat.le_refl _))
  go_enter Try.func31, Try.ntmps31
  go_wp2_with fail
  go_loopw [5, 6] (fun v i wr => ∃ (j : Nat) (q : Option Addr) (r e : Nat), j ≤ n ∧ i = .int .i64 j ∧ v = .slice q r e ∧ OwnV 57 3 wr w.heap.size q r e (knownOf (l.take j) ts) ∧ Below w.heap.size w wr) (fun _ i _ => n - (intOf i).toNat)
  case atStart => exact ⟨0, _, _, _, Nat.zero_le _, rfl, rfl, HO.out, alloc_same _ _⟩
  case round =>
    obtain ⟨j, q, r, e, hj, rfl, rfl, hown, hb⟩ := hrel
    have HO2 := Lib.hid hown
    have HB2 := Lib.hid hb
    clear hown hb
    by_cases hlt : j < n
    · obtain ⟨bb, o, p, pm, pd, k, y, rfl, hx, hd0, hd1, hN, hr⟩ := H.out.at_ hlt
      have hsz := HB2.out.size
      have hym := hN.len
      have hyi := itemsOf_mem hx
      dsimp only at hyi
      have hrl : r ≤ 1048576 := by
        have h1 := HO2.out.len
        have h2 := known_few (l.take j) ts
        rw [List.length_take] at h2
        omega
      have hpm : pm ≤ 1048576 := by omega
      have HSK : Hid (∀ w9, Below w.heap.size w w9 → w9.cell? ⟨bb, o + j * 2, none⟩ = some (.int .i64 k) ∧ w9.cell? ⟨bb, o + j * 2 + 1, none⟩ = some (.slice p pm pd)) := Lib.hid (fun w9 h9 => ⟨cell_stay hd0 h9, cell_stay hd1 h9⟩)
      obtain ⟨hc0, hc1⟩ := HSK.out wr HB2.out
      have HN := Lib.hid (fun w9 (h9 : Below w.heap.size w w9) => hN.same h9)
      have KH := Lib.hid (l9Has_any (c := d) k (HT.out.same HB2.out))
      by_cases hk : k ∈ ts
      · have HK : Hid (knownOf (l.take (j + 1)) ts = knownOf (l.take j) ts ++ [⟨k, y⟩]) := Lib.hid (known_yes hx hk)
        rw [decide_eq_true hk] at KH
        clear hx hN hk hd0 hd1 hym hyi
        have HBd : Hid (Below w.heap.size w wr.drew) := Lib.hid HB2.out.drew
        have HQ : Hid (Below wr.heap.size wr (wr.alloc (.cells #[] 3)).drew) := Lib.hid (alloc_same _ _).drew
        have HBQ : Hid (Below w.heap.size w (wr.alloc (.cells #[] 3)).drew) := Lib.hid (HB2.out.trans (HQ.out.mono hsz))
        have HOQ : Hid (Own .i64 3 (wr.alloc (.cells #[] 3)).drew wr.heap.size (some ⟨wr.heap.size, 0, none⟩) 0 0 []) := Lib.hid ((Own.empty (Nat.le_refl _)).same (Below.refl _ _).drew)
        have hs2 : wr.heap.size ≤ (wr.alloc (.cells #[] 3)).drew.heap.size := HQ.out.size
        go_wp2_with (go_at_call 68; refine KH.out.mono ?_; rintro e9 w9 ⟨rfl, rfl⟩)
        go_region_held3 (fun w9 => w9.cell? ⟨bb, o + j * 2, none⟩ = some (.int .i64 k) ∧ w9.cell? ⟨bb, o + j * 2 + 1, none⟩ = some (.slice p pm pd)) (first | exact HSK.out _ HBd.out | exact HSK.out _ HBQ.out | exact HSK.out _ HB3.out | exact HSK.out _ HB4.out | exact HSK.out _ HB5.out) ((first | (refine step_app_g _ (by rfl) (.tmp 27) (.tmp 32) 26 (by rfl) .i64 3 i1 (.int .i64 0) 8 Try.underlying26 HJ.out.1 HJ.out.2.1 HJ.out.2.2.1 HJ.out.2.2.2 rfl (by rfl) HOQ.out (by rfl) (HN.out _ HBQ.out) (by omega) (by omega) hs2 ?_; intro a3 c3 w3 ho3 hg3 hl3; have HO3 := Lib.hid ho3; have HQ3 : Hid (Below wr.heap.size wr w3) := Lib.hid (grown_to hg3 HQ.out HOQ.out.span (Nat.le_refl _) hs2); have HB3 : Hid (Below w.heap.size w w3) := Lib.hid (HB2.out.trans (HQ3.out.mono hsz)); have hs3 := HQ3.out.size; have HB4 : Hid (Below w.heap.size w (w3.alloc (.cells #[.int .i64 k, .slice a3 pm c3] 57))) := Lib.hid (HB3.out.alloc HB3.out.size _); have HNN : Hid (Items Vh.enc 2 (w3.alloc (.cells #[.int .i64 k, .slice a3 pm c3] 57)) (some ⟨w3.heap.size, 0, none⟩) 1 [⟨k, a3, pm, c3⟩]) := Lib.hid (items_new Vh.enc_len w3 ⟨k, a3, pm, c3⟩ 57); have HO4 : Hid (Own .i64 3 (w3.alloc (.cells #[.int .i64 k, .slice a3 pm c3] 57)) w.heap.size a3 pm c3 y) := Lib.hid (by have h9 := (ho3.lower hsz).alloc (.cells #[.int .i64 k, .slice a3 pm c3] 57); rw [Nat.zero_add] at h9; exact h9); clear ho3 hg3 hl3) | (refine step_appV (S := wr.heap.size) (B := w.heap.size) _ (by rfl) (.tmp 21) (.tmp 35) 24 (by rfl) 57 3 i0 (.agg #[.int .i64 0, .slice none 0 0]) 32 Try.underlying24 HI.out.1 HI.out.2.1 HI.out.2.2.1 HI.out.2.2.2 rfl (by rfl) ((HO2.out.lim.same HQ3.out).same (alloc_same _ _)) (by rfl) HNN.out HO4.out (fun ad e => (HO3.out.span ad e).1) (by omega) (by omega) (by simp; omega) ?_; intro a5 c5 w5 ho5 hb5; have HO5 := Lib.hid ho5; have HB5 : Hid (Below w.heap.size w w5) := Lib.hid (HB4.out.trans hb5); clear ho5 hb5)))
        go_wp2_with fail
        go_roundw
        case rel => exact ⟨j + 1, a5, _, c5, by omega, by go_num, rfl, by rw [HK.out]; exact HO5.out, HB5.out⟩
        case measure => simp [intOf]; omega
      · have HK : Hid (knownOf (l.take (j + 1)) ts = knownOf (l.take j) ts) := Lib.hid (known_no hx hk)
        rw [decide_eq_false hk] at KH
        clear hx hN hk hd0 hd1 hym hyi
        go_wp2_with (go_at_call 68; refine KH.out.mono ?_; rintro e9 w9 ⟨rfl, rfl⟩)
        go_roundw
        case rel => exact ⟨j + 1, q, r, e, by omega, by go_num, rfl, by rw [HK.out]; exact HO2.out, HB2.out⟩
        case measure => simp [intOf]; omega
    · obtain rfl : j = n := by omega
      go_wp2
      go_ret
      have h1 := HO2.out
      rw [List.take_of_length_le (by rw [hln.out]; omega)] at h1
      exact ⟨_, _, _, rfl, h1, HB2.out⟩
end Go.Proofs.Ytgkacnngodamgaa
namespace Go.Proofs.Ytgkacnngodamgaa
open Go.ChangeShapes Go.WideShapes Go.ChangeAt Go.RowKit
set_option linter.unusedVariables false
set_option linter.unusedSimpArgs false

theorem codesX_pre : ∀ (out l : List Vl) (r : List Int), codesX l = codesX out ++ r → ∃ l', l = out ++ l' ∧ r = codesX l'
  | [], l, r, h => ⟨l, rfl, by simpa [codesX] using h.symm⟩
  | x :: o, [], r, h => by simp [codesX, codeX] at h
  | x :: o, z :: l, r, h => by
    obtain ⟨xn, xi⟩ := x
    obtain ⟨zn, zi⟩ := z
    rw [codesX_cons, codesX_cons] at h
    simp only [codeX, List.cons_append, List.append_assoc, List.cons.injEq] at h
    obtain ⟨rfl, h2, h3⟩ := h
    have hl : zi.length = xi.length := by omega
    obtain ⟨rfl, h4⟩ := List.append_inj h3 hl
    obtain ⟨l', rfl, h5⟩ := codesX_pre o l r h4
    exact ⟨l', rfl, h5⟩
/-- What stands behind what was read decides. -/
theorem decX_behind {y : List Int} {k : Nat} {c : Int} {out : List Vl} (hk : y.take k = c :: codesX out) {l : List Vl} (h : decX y = some l) : c = (l.length : Int) ∧ ∃ l', l = out ++ l' ∧ y.drop k = codesX l' := by
  have h2 := (decX_iff.1 h).2
  have h3 : encX l = (c :: codesX out) ++ y.drop k := by rw [← h2, ← hk, List.take_append_drop]
  unfold encX at h3
  simp only [List.cons_append, List.cons.injEq] at h3
  obtain ⟨l', h4, h5⟩ := codesX_pre out l _ h3.2
  exact ⟨h3.1.symm, l', h4, h5⟩
theorem dec_bad {y : List Int} {k : Nat} {c z : Int} {out : List Vl} (hk : y.take k = c :: codesX out) (h1 : k + 1 < y.length) (hz : y[k + 1]? = some z) (h : ¬ (0 ≤ z ∧ z ≤ (y.length : Int) - k - 2)) : decX y = none := by
  cases e : decX y with
  | none => rfl
  | some l =>
    exfalso
    obtain ⟨_, l', _, h5⟩ := decX_behind hk e
    have hl := congrArg List.length h5
    rw [List.length_drop, codesX_len] at hl
    have hz2 : (y.drop k)[1]? = some z := by rw [List.getElem?_drop]; exact hz
    rw [h5] at hz2
    cases l' with
    | nil => simp [codesX] at hz2
    | cons x t =>
      rw [codesX_cons] at hz2 h5
      have hx : z = (x.items.length : Int) := by
        simp [codeX] at hz2
        exact hz2.symm
      have h6 := congrArg List.length h5
      rw [List.length_drop, List.length_append, codeX_len] at h6
      omega
theorem dec_odd {y : List Int} {k : Nat} {c : Int} {out : List Vl} (hk : y.take k = c :: codesX out) (h1 : k + 1 = y.length) : decX y = none := by
  cases e : decX y with
  | none => rfl
  | some l =>
    exfalso
    obtain ⟨_, l', _, h5⟩ := decX_behind hk e
    have hl := congrArg List.length h5
    rw [List.length_drop, codesX_len] at hl
    cases l' with
    | nil => simp [itemsOf] at hl; omega
    | cons x t => simp at hl; omega
theorem dec_all {y : List Int} {c : Int} {out : List Vl} (hk : y = c :: codesX out) : decX y = if c = (out.length : Int) ∧ areX out = true then some out else none := by
  by_cases h : c = (out.length : Int) ∧ areX out = true
  · rw [if_pos h, decX_iff]
    exact ⟨h.2, by rw [hk, h.1]; rfl⟩
  · rw [if_neg h]
    cases e : decX y with
    | none => rfl
    | some l =>
      exfalso
      obtain ⟨h1, l', h4, h5⟩ := decX_behind (k := y.length) (by rw [List.take_length]; exact hk) e
      rw [List.drop_length] at h5
      have hl' : l' = [] := by
        cases l' with
        | nil => rfl
        | cons x t => rw [codesX_cons] at h5; simp [codeX] at h5
      rw [hl', List.append_nil] at h4
      subst h4
      exact h ⟨h1, (decX_iff.1 e).1⟩
theorem dec_step {y : List Int} {k q : Nat} {c t : Int} {out : List Vl} (hk : y.take k = c :: codesX out) (ht : y[k]? = some t) (hz : y[k + 1]? = some (q : Int)) (h : k + 2 + q ≤ y.length) : y.take (k + 2 + q) = c :: codesX (out ++ [⟨t, (y.drop (k + 2)).take q⟩]) := by
  have h1 : y.take (k + 2) = y.take k ++ [t, (q : Int)] := by
    rw [List.take_add_one, List.take_add_one, ht, hz]
    simp
  have h2 : y.take (k + 2 + q) = y.take (k + 2) ++ (y.drop (k + 2)).take q := by rw [List.take_add]
  rw [h2, h1, hk, codesX_app, codesX_one]
  have hl : ((y.drop (k + 2)).take q).length = q := by rw [List.length_take, List.length_drop]; omega
  simp [codeX, hl]
end Go.Proofs.Ytgkacnngodamgaa
namespace Go.Proofs.Ytgkacnngodamgaa
open Go.ChangeShapes Go.WideShapes Go.ChangeAt Go.RowKit
set_option linter.unusedVariables false

theorem told_same {P : Program} {f : Nat} {args : Array Value} {v : Value} {w : World} (h : Calls P f args w fun e w' => e = .returned v ∧ w = w') : Calls P f args w (Told v w) :=
  h.mono fun e w' ⟨e1, e2⟩ => ⟨e1, by rw [← e2]; exact Below.refl _ _⟩
theorem tags_ok {l : List Vl} (h : ∀ x ∈ l, x.wf) : ∀ z ∈ tagsX l, (Lit.int .i64 z).wf = true := by
  intro z hz
  obtain ⟨x, hx, rfl⟩ := List.mem_map.1 hz
  exact (h x hx).1
end Go.Proofs.Ytgkacnngodamgaa
namespace Go.Proofs.Ytgkacnngodamgaa
open Go.ChangeShapes Go.WideShapes Go.ChangeAt Go.RowKit
set_option linter.unusedVariables false

section
variable {α : Type} {enc : α → List Value} {s : Nat}
theorem Items.drop {w : World} {b o n : Nat} {l : List α} (h : Items enc s w (some ⟨b, o, none⟩) n l) (k : Nat) (hk : k ≤ n) : Items enc s w (some ⟨b, o + k * s, none⟩) (n - k) (l.drop k) := by
  refine ⟨by rw [List.length_drop, h.len], by have := h.fits; omega, fun j x hj => ?_⟩
  rw [List.getElem?_drop] at hj
  obtain ⟨b', o', e, hx⟩ := h.cell (k + j) x hj
  cases e
  refine ⟨_, _, rfl, fun i v hv => ?_⟩
  have := hx i v hv
  rw [Nat.add_mul] at this
  rw [show o + k * s + j * s + i = o + (k * s + j * s) + i by omega]
  exact this
theorem Items.none_at {w : World} {b o : Nat} : Items enc s w (some ⟨b, o, none⟩) 0 [] := ⟨rfl, by omega, fun j x h => by simp at h⟩
theorem Items.off {w w' : World} {b o n : Nat} {l : List α} {row : Option Nat} (h : Items enc s w (some ⟨b, o, none⟩) n l) (hb : b < w.heap.size) (hg : w.grownBy w' row) (hne : row ≠ some b) : Items enc s w' (some ⟨b, o, none⟩) n l :=
  ⟨h.len, h.fits, fun j x hj => by
    obtain ⟨b', o', e, hx⟩ := h.cell j x hj
    cases e
    exact ⟨_, _, rfl, fun i v hv => (World.cell?_of_block (hg.block b hb (fun e9 => hne e9.symm))).trans (hx i v hv)⟩⟩
variable {P : Program} {w : World}
theorem step_appI (hs : ∀ x, (enc x).length = s) (h0 : 0 < s) (h1 : ∀ x, ∀ u ∈ enc x, u.oneCell' = true) {ops : Array Oper} {o : Oper} {act : Act} {K : Act → World → Prop} {Q : Exit → Act → World → Prop} {E : Prop} (hgd : o.guard = none) (q x : Operand) (t : TypeId)
    (ho : o.op = .call { callee := .builtin .append, args := #[q, x], argTypes := #[t, t] })
    (e : TypeId) (i : TypeInfo) (z : Value) (bytes : Nat) (ht : P.underlying t = some (.slice e)) (hi : P.info? e = some i) (hz : i.zero = some z) (hsize : i.size = s) (hby : i.bytes = bytes) (hzs : z.cells.size = s)
    {B n c m d b off : Nat} {a : Option Addr} {l l' : List α} (hq : act.eval q = .slice a n c) (hown : OwnI enc s e w B a n c l) (hx : act.eval x = .slice (some ⟨b, off, none⟩) m d) (hnew : Items enc s w (some ⟨b, off, none⟩) m l')
    (hb1 : 0 < bytes) (hbytes : (n + m) * bytes ≤ 140737488355328) (hB : B ≤ w.heap.size)
    (h : ∀ a' c' w', OwnI enc s e w' B a' (n + m) c' (l ++ l') → Below B w w' → K (act.put o.dst (.slice a' (n + m) c')) w') :
    if Region.wanted o (yielded ops act.tmps) = true then Oper.wp P o act w K Q else E := by
  have hw : Region.wanted o (yielded ops act.tmps) = true := by simp [Region.wanted, hgd]
  rw [if_pos hw]
  have h63 : n + m ≤ maxLen := by
    have := Nat.mul_le_mul_left (n + m) hb1
    unfold maxLen
    omega
  obtain ⟨a', c', w', hr, h2, h3⟩ := run_appI (P := P) (d := d) w hs h0 h1 t o.type e i z bytes ht hi hz hsize hby hzs hown hnew hbytes h63 hB
  unfold Oper.wp execOp
  simp only [ho, resolve, invoke, builtin, Sem.run_bind, Sem.run_pure, Result.andThen_ok, List.map_toArray, List.map_cons, List.map_nil, hq, hx, hr]
  exact h a' c' w' h2 (grown_to h3 (Below.refl B w) hown.span (Nat.le_refl _) hB)
theorem step_appI_g (hs : ∀ x, (enc x).length = s) (h0 : 0 < s) (h1 : ∀ x, ∀ u ∈ enc x, u.oneCell' = true) {ops : Array Oper} {o : Oper} {act : Act} {K : Act → World → Prop} {Q : Exit → Act → World → Prop} {E : Prop} (hgd : o.guard = none) (q x : Operand) (t : TypeId)
    (ho : o.op = .call { callee := .builtin .append, args := #[q, x], argTypes := #[t, t] })
    (e : TypeId) (i : TypeInfo) (z : Value) (bytes : Nat) (ht : P.underlying t = some (.slice e)) (hi : P.info? e = some i) (hz : i.zero = some z) (hsize : i.size = s) (hby : i.bytes = bytes) (hzs : z.cells.size = s)
    {B n c m d b off : Nat} {a : Option Addr} {l l' : List α} (hq : act.eval q = .slice a n c) (hown : OwnI enc s e w B a n c l) (hx : act.eval x = .slice (some ⟨b, off, none⟩) m d) (hnew : Items enc s w (some ⟨b, off, none⟩) m l')
    (hb1 : 0 < bytes) (hbytes : (n + m) * bytes ≤ 140737488355328) (hB : B ≤ w.heap.size)
    (h : ∀ a' c' w', OwnI enc s e w' B a' (n + m) c' (l ++ l') → w.grownBy w' (Value.ownBlock (.slice a n c)) → K (act.put o.dst (.slice a' (n + m) c')) w') :
    if Region.wanted o (yielded ops act.tmps) = true then Oper.wp P o act w K Q else E := by
  have hw : Region.wanted o (yielded ops act.tmps) = true := by simp [Region.wanted, hgd]
  rw [if_pos hw]
  have h63 : n + m ≤ maxLen := by
    have := Nat.mul_le_mul_left (n + m) hb1
    unfold maxLen
    omega
  obtain ⟨a', c', w', hr, h2, h3⟩ := run_appI (P := P) (d := d) w hs h0 h1 t o.type e i z bytes ht hi hz hsize hby hzs hown hnew hbytes h63 hB
  unfold Oper.wp execOp
  simp only [ho, resolve, invoke, builtin, Sem.run_bind, Sem.run_pure, Result.andThen_ok, List.map_toArray, List.map_cons, List.map_nil, hq, hx, hr]
  exact h a' c' w' h2 h3
end
end Go.Proofs.Ytgkacnngodamgaa
namespace Go.Proofs.Ytgkacnngodamgaa
open Go.ChangeShapes Go.WideShapes Go.ChangeAt Go.RowKit
set_option linter.unusedVariables false
set_option linter.unusedSimpArgs false

set_option maxHeartbeats 4000000 in
set_option maxRecDepth 100000 in
theorem specKnownOf_some {a b : Option Addr} {n c m d : Nat} {l : List Vl} {ts : List Int} {w : World} (h : Vals w a n l) (h' : Nums .i64 w b m ts) (hn : n ≤ 1048576) (hit : itemsOf l ≤ 1048576) :
    Calls Try.prog 31 #[.slice a n c, .slice b m d] w (fun e w' => ∃ g m d, e = .returned (.slice (some ⟨g, 0, none⟩) m d) ∧ OwnV 57 3 w' w.heap.size (some ⟨g, 0, none⟩) m d (knownOf l ts) ∧ Below w.heap.size w w') := by
  have H := Lib.hid h
  have HT := Lib.hid h'
  have hln := Lib.hid h.len
  obtain ⟨i0, hi, hz0, hz1, hz2⟩ := info_parts infoExtS
  have HI := Lib.hid (And.intro hi (And.intro hz0 (And.intro hz1 hz2)))
  obtain ⟨i1, ki, kz0, kz1, kz2⟩ := info_parts infoIntS
  have HJ := Lib.hid (And.intro ki (And.intro kz0 (And.intro kz1 kz2)))
  clear h h' hi hz0 hz1 hz2 ki kz0 kz1 kz2
  have HO : Hid (OwnV 57 3 (w.alloc (.cells #[] 57)) w.heap.size (some ⟨w.heap.size, 0, none⟩) 0 0 (knownOf (l.take 0) ts)) := Lib.hid (OwnV.empty (Nat.le_refl _))
  go_enter Try.func31, Try.ntmps31
  go_wp2_with fail
  go_loopw [5, 6] (fun v i wr => ∃ (j q r e : Nat), j ≤ n ∧ i = .int .i64 j ∧ v = .slice (some ⟨q, 0, none⟩) r e ∧ OwnV 57 3 wr w.heap.size (some ⟨q, 0, none⟩) r e (knownOf (l.take j) ts) ∧ Below w.heap.size w wr) (fun _ i _ => n - (intOf i).toNat)
  case atStart => exact ⟨0, _, _, _, Nat.zero_le _, rfl, rfl, HO.out, alloc_same _ _⟩
  case round =>
    obtain ⟨j, q, r, e, hj, rfl, rfl, hown, hb⟩ := hrel
    have HO2 := Lib.hid hown
    have HB2 := Lib.hid hb
    clear hown hb
    by_cases hlt : j < n
    · obtain ⟨bb, o, p, pm, pd, k, y, rfl, hx, hd0, hd1, hN, hr⟩ := H.out.at_ hlt
      have hsz := HB2.out.size
      have hym := hN.len
      have hyi := itemsOf_mem hx
      dsimp only at hyi
      have hrl : r ≤ 1048576 := by
        have h1 := HO2.out.len
        have h2 := known_few (l.take j) ts
        rw [List.length_take] at h2
        omega
      have hpm : pm ≤ 1048576 := by omega
      have HSK : Hid (∀ w9, Below w.heap.size w w9 → w9.cell? ⟨bb, o + j * 2, none⟩ = some (.int .i64 k) ∧ w9.cell? ⟨bb, o + j * 2 + 1, none⟩ = some (.slice p pm pd)) := Lib.hid (fun w9 h9 => ⟨cell_stay hd0 h9, cell_stay hd1 h9⟩)
      obtain ⟨hc0, hc1⟩ := HSK.out wr HB2.out
      have HN := Lib.hid (fun w9 (h9 : Below w.heap.size w w9) => hN.same h9)
      have KH := Lib.hid (l9Has_any (c := d) k (HT.out.same HB2.out))
      by_cases hk : k ∈ ts
      · have HK : Hid (knownOf (l.take (j + 1)) ts = knownOf (l.take j) ts ++ [⟨k, y⟩]) := Lib.hid (known_yes hx hk)
        rw [decide_eq_true hk] at KH
        clear hx hN hk hd0 hd1 hym hyi
        have HBd : Hid (Below w.heap.size w wr.drew) := Lib.hid HB2.out.drew
        have HQ : Hid (Below wr.heap.size wr (wr.alloc (.cells #[] 3)).drew) := Lib.hid (alloc_same _ _).drew
        have HBQ : Hid (Below w.heap.size w (wr.alloc (.cells #[] 3)).drew) := Lib.hid (HB2.out.trans (HQ.out.mono hsz))
        have HOQ : Hid (Own .i64 3 (wr.alloc (.cells #[] 3)).drew wr.heap.size (some ⟨wr.heap.size, 0, none⟩) 0 0 []) := Lib.hid ((Own.empty (Nat.le_refl _)).same (Below.refl _ _).drew)
        have hs2 : wr.heap.size ≤ (wr.alloc (.cells #[] 3)).drew.heap.size := HQ.out.size
        go_wp2_with (go_at_call 68; refine KH.out.mono ?_; rintro e9 w9 ⟨rfl, rfl⟩)
        go_region_held3 (fun w9 => w9.cell? ⟨bb, o + j * 2, none⟩ = some (.int .i64 k) ∧ w9.cell? ⟨bb, o + j * 2 + 1, none⟩ = some (.slice p pm pd)) (first | exact HSK.out _ HBd.out | exact HSK.out _ HBQ.out | exact HSK.out _ HB3.out | exact HSK.out _ HB4.out | exact HSK.out _ HB5.out) ((first | (refine step_app_g _ (by rfl) (.tmp 27) (.tmp 32) 26 (by rfl) .i64 3 i1 (.int .i64 0) 8 Try.underlying26 HJ.out.1 HJ.out.2.1 HJ.out.2.2.1 HJ.out.2.2.2 rfl (by rfl) HOQ.out (by rfl) (HN.out _ HBQ.out) (by omega) (by omega) hs2 ?_; intro a3 c3 w3 ho3 hg3 hl3; have HO3 := Lib.hid ho3; have HQ3 : Hid (Below wr.heap.size wr w3) := Lib.hid (grown_to hg3 HQ.out HOQ.out.span (Nat.le_refl _) hs2); have HB3 : Hid (Below w.heap.size w w3) := Lib.hid (HB2.out.trans (HQ3.out.mono hsz)); have hs3 := HQ3.out.size; have HB4 : Hid (Below w.heap.size w (w3.alloc (.cells #[.int .i64 k, .slice a3 pm c3] 57))) := Lib.hid (HB3.out.alloc HB3.out.size _); have HNN : Hid (Items Vh.enc 2 (w3.alloc (.cells #[.int .i64 k, .slice a3 pm c3] 57)) (some ⟨w3.heap.size, 0, none⟩) 1 [⟨k, a3, pm, c3⟩]) := Lib.hid (items_new Vh.enc_len w3 ⟨k, a3, pm, c3⟩ 57); have HO4 : Hid (Own .i64 3 (w3.alloc (.cells #[.int .i64 k, .slice a3 pm c3] 57)) w.heap.size a3 pm c3 y) := Lib.hid (by have h9 := (ho3.lower hsz).alloc (.cells #[.int .i64 k, .slice a3 pm c3] 57); rw [Nat.zero_add] at h9; exact h9); clear ho3 hg3 hl3) | (refine step_appV (S := wr.heap.size) (B := w.heap.size) _ (by rfl) (.tmp 21) (.tmp 35) 24 (by rfl) 57 3 i0 (.agg #[.int .i64 0, .slice none 0 0]) 32 Try.underlying24 HI.out.1 HI.out.2.1 HI.out.2.2.1 HI.out.2.2.2 rfl (by rfl) ((HO2.out.lim.same HQ3.out).same (alloc_same _ _)) (by rfl) HNN.out HO4.out (fun ad e => (HO3.out.span ad e).1) (by omega) (by omega) (by simp; omega) ?_; intro a5 c5 w5 ho5 hb5; obtain ⟨g5, rfl, _, _⟩ := ho5.head (by omega); have HO5 := Lib.hid ho5; have HB5 : Hid (Below w.heap.size w w5) := Lib.hid (HB4.out.trans hb5); clear ho5 hb5)))
        go_wp2_with fail
        go_roundw
        case rel => exact ⟨j + 1, g5, _, c5, by omega, by go_num, rfl, by rw [HK.out]; exact HO5.out, HB5.out⟩
        case measure => simp [intOf]; omega
      · have HK : Hid (knownOf (l.take (j + 1)) ts = knownOf (l.take j) ts) := Lib.hid (known_no hx hk)
        rw [decide_eq_false hk] at KH
        clear hx hN hk hd0 hd1 hym hyi
        go_wp2_with (go_at_call 68; refine KH.out.mono ?_; rintro e9 w9 ⟨rfl, rfl⟩)
        go_roundw
        case rel => exact ⟨j + 1, q, r, e, by omega, by go_num, rfl, by rw [HK.out]; exact HO2.out, HB2.out⟩
        case measure => simp [intOf]; omega
    · obtain rfl : j = n := by omega
      go_wp2
      go_ret
      have h1 := HO2.out
      rw [List.take_of_length_le (by rw [hln.out]; omega)] at h1
      exact ⟨_, _, _, rfl, h1, HB2.out⟩
set_option maxRecDepth 100000 in
theorem specCopy_any {a : Option Addr} {n c : Nat} {l : List Vl} {w : World} (h : Vals w a n l) (hn : n ≤ 1048576) (hit : itemsOf l ≤ 1048576) :
    Calls Try.prog 73 #[.slice a n c] w (fun e w' => ∃ g d, e = .returned (.slice (some ⟨g, 0, none⟩) n d) ∧ OwnV 57 3 w' w.heap.size (some ⟨g, 0, none⟩) n d l ∧ Below w.heap.size w w') := by
  have HT := Lib.hid (specTagsOf_any (c := c) h (by omega))
  have H := Lib.hid h
  have hln := h.len
  unfold Made at HT
  clear h
  go_enter Try.func73, Try.ntmps73
  go_wp2_with fail
  refine HT.out.mono ?_
  rintro e w1 ⟨q, m, d, rfl, ho, hb1⟩
  have HB1 := Lib.hid hb1
  have hs1 := hb1.size
  have HK := Lib.hid (specKnownOf_some (c := c) (d := d) (H.out.same hb1) ho.nums hn hit)
  rw [known_all] at HK
  clear ho hb1 HT
  go_wp2_with fail
  refine HK.out.mono ?_
  rintro e w2 ⟨g, m2, d2, rfl, ho2, hb2⟩
  obtain rfl : m2 = n := by rw [← ho2.len, hln]
  have HR := Lib.hid (And.intro (ho2.lower hs1) (HB1.out.trans (hb2.mono hs1)))
  clear ho2 hb2 HK
  go_wp2_with fail
  go_ret
  exact ⟨_, _, rfl, HR.out.1, HR.out.2⟩
end Go.Proofs.Ytgkacnngodamgaa
