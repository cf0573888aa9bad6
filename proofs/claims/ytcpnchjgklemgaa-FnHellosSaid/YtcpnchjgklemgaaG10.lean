/- Integers are appended to a slice of the call's own: what is written, and where the outcome lies. No function of the program is spoken of. What is appended for a field's value, and the greatest number of bytes of one, by the program's functions of the table. How a slice of structs of four integers among the arguments is read. How lists of values, and a field or a value handed over by itself, are read among the arguments. -/
import Derived.Test.YtcpnchjgklemgaaG1
import Derived.Test.YtcpnchjgklemgaaG9
import Derived.Test.YtcpnchjgklemgaaG8
import Derived.Test.YtcpnchjgklemgaaG4
import Derived.Deep.RegionHeld3
import Derived.Test.YtcpnchjgklemgaaG2
import Derived.Deep.Slices
import Derived.Deep.Fields
import Derived.ChangeSame
import Derived.Lib.SmallJoins
namespace Go.Proofs.Ytcpnchjgklemgaa
open Go.ChangeShapes Go.WideShapes Go.ChangeAt Go.RowKit
set_option linter.unusedVariables false

section
variable {P : Program}
/-- Integers are appended to a slice of the call's own, wherever they lie: what is written, and where the outcome lies. -/
theorem run_app_g (w : World) {k : IntKind} (t ty e : TypeId) (i : TypeInfo) (z : Value) (bytes : Nat) (ht : P.underlying t = some (.slice e)) (hi : P.info? e = some i) (hz : i.zero = some z) (hsize : i.size = 1) (hby : i.bytes = bytes) (hzs : z.cells.size = 1)
    {B n c m d : Nat} {a b : Option Addr} {l l' : List Int} (ho : Own k e w B a n c l) (hs : Nums k w b m l') (hbytes : (n + m) * bytes ≤ 140737488355328) (h63 : n + m ≤ maxLen) (hB : B ≤ w.heap.size) :
    ∃ a' c' w', (Builtin.append_ #[t, t] ty #[.slice a n c, .slice b m d]).run P w = .ok (.slice a' (n + m) c') w' ∧ Own k e w' B a' (n + m) c' (l ++ l') ∧ w.grownBy w' (Value.ownBlock (.slice a n c)) ∧ (∀ cd, a' = some cd → (∃ bd, a = some bd ∧ bd.block = cd.block) ∨ cd.block = w.heap.size) := by
  rcases b with _ | ad
  · obtain rfl : m = 0 := by
      rcases Nat.eq_zero_or_pos m with h0 | h0
      · exact h0
      · obtain ⟨ad, h, _⟩ := hs.cell 0 h0
        cases h
    obtain rfl : l' = [] := List.eq_nil_of_length_eq_zero hs.len
    exact ⟨a, c, w, run_app_nothing w B t ty e i ht hi ho.2 d, by simpa using ho, grown_below (Below.refl _ _) _, fun cd e => Or.inl ⟨cd, e, rfl⟩⟩
  · obtain ⟨v', w', hr, h2, h3, _, h5⟩ := run_append_own_at (P := P) w B t ty e i z 1 bytes ht hi hz hsize hby hzs (by omega) (.slice a n c) n (l.map (Value.int k)) ho.2 ad m d (l'.map (Value.int k)) (by simp [hs.len]) (fun j u hu => by
      have hj : j < m := by
        rcases Nat.lt_or_ge j m with h | h
        · exact h
        · rw [List.getElem?_eq_none (by simp [hs.len]; exact h)] at hu; cases hu
      obtain ⟨ad', e', hx⟩ := hs.cell j hj
      cases e'
      have hl : j < l'.length := by rw [hs.len]; exact hj
      rw [List.getElem?_map, List.getElem?_eq_getElem hl] at hu
      cases hu
      rw [hx]
      simp [List.getD, List.getElem?_eq_getElem hl]) (ints_oneCell k l') h63 hbytes hB
    rw [← List.map_append] at h2
    have hlie : ∀ (g q cap : Nat), v' = .slice (some ⟨g, 0, none⟩) q cap → (∃ bd, a = some bd ∧ bd.block = g) ∨ g = w.heap.size := fun g q cap e => by
      subst e
      rcases h5 with e | e
      · left
        cases ha : a with
        | none => rw [ha] at e; simp [Value.ownBlock] at e
        | some bd => rw [ha] at e; simp only [Value.ownBlock, Option.some.injEq] at e; exact ⟨bd, rfl, e.symm⟩
      · right
        simpa [Value.ownBlock] using e
    rcases h2.2 with ⟨rfl, hn⟩ | ⟨g, cap, cur, rfl, hrest⟩
    · exact ⟨none, 0, w', by rw [hn]; exact hr, by rw [hn] at h2 ⊢; exact ⟨by have := h2.1; simpa using this, h2⟩, h3, fun cd e => by cases e⟩
    · exact ⟨_, cap, w', hr, ⟨by have := ho.len; have := hs.len; simp; omega, h2⟩, h3, fun cd e => by cases e; exact hlie _ _ _ rfl⟩
theorem step_app_g (w : World) {ops : Array Oper} {o : Oper} {act : Act} {K : Act → World → Prop} {Q : Exit → Act → World → Prop} {E : Prop} (hgd : o.guard = none) (s x : Operand) (t : TypeId)
    (ho : o.op = .call { callee := .builtin .append, args := #[s, x], argTypes := #[t, t] })
    (k : IntKind) (e : TypeId) (i : TypeInfo) (z : Value) (bytes : Nat) (ht : P.underlying t = some (.slice e)) (hi : P.info? e = some i) (hz : i.zero = some z) (hsize : i.size = 1) (hby : i.bytes = bytes) (hzs : z.cells.size = 1)
    {B n c m d : Nat} {a b : Option Addr} {l l' : List Int} (hs : act.eval s = .slice a n c) (hown : Own k e w B a n c l) (hx : act.eval x = .slice b m d) (hnew : Nums k w b m l')
    (hb1 : 0 < bytes) (hbytes : (n + m) * bytes ≤ 140737488355328) (hB : B ≤ w.heap.size)
    (h : ∀ a' c' w', Own k e w' B a' (n + m) c' (l ++ l') → w.grownBy w' (Value.ownBlock (.slice a n c)) → (∀ cd, a' = some cd → (∃ bd, a = some bd ∧ bd.block = cd.block) ∨ cd.block = w.heap.size) → K (act.put o.dst (.slice a' (n + m) c')) w') :
    if Region.wanted o (yielded ops act.tmps) = true then Oper.wp P o act w K Q else E := by
  have hw : Region.wanted o (yielded ops act.tmps) = true := by simp [Region.wanted, hgd]
  rw [if_pos hw]
  have h63 : n + m ≤ maxLen := by
    have := Nat.mul_le_mul_left (n + m) hb1
    unfold maxLen
    omega
  obtain ⟨a', c', w', hr, h2, h3, h4⟩ := run_app_g (P := P) (d := d) w t o.type e i z bytes ht hi hz hsize hby hzs hown hnew hbytes h63 hB
  unfold Oper.wp execOp
  simp only [ho, resolve, invoke, builtin, Sem.run_bind, Sem.run_pure, Result.andThen_ok, List.map_toArray, List.map_cons, List.map_nil, hs, hx, hr]
  exact h a' c' w' h2 h3 h4
theorem wpl_app_g (w : World) {ops : Array Oper} {rest : List Oper} {o : Oper} {act : Act} {Q : Exit → Act → World → Prop} (hgd : o.guard = none) (s x : Operand) (t : TypeId)
    (ho : o.op = .call { callee := .builtin .append, args := #[s, x], argTypes := #[t, t] })
    (k : IntKind) (e : TypeId) (i : TypeInfo) (z : Value) (bytes : Nat) (ht : P.underlying t = some (.slice e)) (hi : P.info? e = some i) (hz : i.zero = some z) (hsize : i.size = 1) (hby : i.bytes = bytes) (hzs : z.cells.size = 1)
    {B n c m d : Nat} {a b : Option Addr} {l l' : List Int} (hs : act.eval s = .slice a n c) (hown : Own k e w B a n c l) (hx : act.eval x = .slice b m d) (hnew : Nums k w b m l')
    (hb1 : 0 < bytes) (hbytes : (n + m) * bytes ≤ 140737488355328) (hB : B ≤ w.heap.size)
    (h : ∀ a' c' w', Own k e w' B a' (n + m) c' (l ++ l') → w.grownBy w' (Value.ownBlock (.slice a n c)) → wpList P ops Q rest (act.put o.dst (.slice a' (n + m) c')) w') : wpList P ops Q (o :: rest) act w := by
  refine wpList_plain hgd fun K hK => ?_
  have h63 : n + m ≤ maxLen := by
    have := Nat.mul_le_mul_left (n + m) hb1
    unfold maxLen
    omega
  obtain ⟨a', c', w', hr, h2, h3, _⟩ := run_app_g (P := P) (d := d) w t o.type e i z bytes ht hi hz hsize hby hzs hown hnew hbytes h63 hB
  unfold Oper.wp execOp
  simp only [ho, resolve, invoke, builtin, Sem.run_bind, Sem.run_pure, Result.andThen_ok, List.map_toArray, List.map_cons, List.map_nil, hs, hx, hr]
  exact hK _ _ (h a' c' w' h2 h3)
theorem wpl_app_e (w : World) {ops : Array Oper} {rest : List Oper} {o : Oper} {act : Act} {Q : Exit → Act → World → Prop} (hgd : o.guard = none) (s x : Operand) (t : TypeId)
    (ho : o.op = .call { callee := .builtin .append, args := #[s, x], argTypes := #[t, t] })
    (k : IntKind) (e : TypeId) (i : TypeInfo) (z : Value) (bytes : Nat) (ht : P.underlying t = some (.slice e)) (hi : P.info? e = some i) (hz : i.zero = some z) (hsize : i.size = 1) (hby : i.bytes = bytes) (hzs : z.cells.size = 1)
    {B n c m d : Nat} {a b : Option Addr} {l l' : List Int} (hs : act.eval s = .slice a n c) (hown : Own k e w B a n c l) (hx : act.eval x = .slice b m d) (hnew : Nums k w b m l')
    (hb1 : 0 < bytes) (hbytes : (n + m) * bytes ≤ 140737488355328) (hB : B ≤ w.heap.size)
    (h : ∀ a' c' w', Own k e w' B a' (n + m) c' (l ++ l') → w.grownBy w' (Value.ownBlock (.slice a n c)) → (∀ cd, a' = some cd → (∃ bd, a = some bd ∧ bd.block = cd.block) ∨ cd.block = w.heap.size) → wpList P ops Q rest (act.put o.dst (.slice a' (n + m) c')) w') : wpList P ops Q (o :: rest) act w := by
  refine wpList_plain hgd fun K hK => ?_
  have h63 : n + m ≤ maxLen := by
    have := Nat.mul_le_mul_left (n + m) hb1
    unfold maxLen
    omega
  obtain ⟨a', c', w', hr, h2, h3, h4⟩ := run_app_g (P := P) (d := d) w t o.type e i z bytes ht hi hz hsize hby hzs hown hnew hbytes h63 hB
  unfold Oper.wp execOp
  simp only [ho, resolve, invoke, builtin, Sem.run_bind, Sem.run_pure, Result.andThen_ok, List.map_toArray, List.map_cons, List.map_nil, hs, hx, hr]
  exact hK _ _ (h a' c' w' h2 h3 h4)
end
end Go.Proofs.Ytcpnchjgklemgaa
namespace Go.Proofs.Ytcpnchjgklemgaa
open Go.ChangeShapes Go.WideShapes Go.ChangeAt Go.RowKit
set_option linter.unusedVariables false

theorem nums_new2 (w : World) (o : Obj) (k : IntKind) (x : Int) (t : TypeId) : Nums k ((w.alloc o).alloc (.cells #[.int k x] t)) (some ⟨w.heap.size + 1, 0, none⟩) 1 [x] := by
  have := nums_new (w.alloc o) k x t
  simpa using this
/-- What a function leaves that appends to a slice of the caller's own: the new slice; nothing but its memory is written. -/
def Grew (tI : TypeId) (B : Nat) (a : Option Addr) (n c : Nat) (l : List Int) (w : World) (e : Ending) (w' : World) : Prop :=
  ∃ a' n' c', e = .returned (.slice a' n' c') ∧ Own .i64 tI w' B a' n' c' l ∧ w.grownBy w' (Value.ownBlock (.slice a n c))
theorem grown_on {w w1 w2 : World} {row row2 : Option Nat} (h : w.grownBy w1 row) (g : w1.grownBy w2 row2) (hr : ∀ r, row2 = some r → row = some r ∨ w.heap.size ≤ r) : w.grownBy w2 row :=
  ⟨g.os.trans h.os, g.tape.trans h.tape, g.output.trans h.output, Nat.le_trans h.size g.size, fun i hi hne => (g.block i (Nat.lt_of_lt_of_le hi h.size) (fun e => by
    rcases hr i e.symm with q | q
    · exact hne q.symm
    · omega)).trans (h.block i hi hne)⟩
theorem cell_off {w w' : World} {ad : Addr} {v : Value} {row : Option Nat} (h : w.cell? ad = some v) (hg : w.grownBy w' row) (hr : row ≠ some ad.block) : w'.cell? ad = some v := by
  have e := hg.block _ (cell_in h) hr.symm
  unfold World.cell? at h ⊢
  rw [e]
  exact h
theorem own_off {a : Option Addr} {n c lo hi g : Nat} (h : Span a lo hi) (hg : hi ≤ g) : Value.ownBlock (.slice a n c) ≠ some g := by
  cases a with
  | none => simp [Value.ownBlock]
  | some ad =>
    have := (h ad rfl).2
    simp [Value.ownBlock]
    omega
set_option maxHeartbeats 2000000 in
set_option maxRecDepth 100000 in
theorem writeNum_any (B : Nat) (a : Option Addr) (n c : Nat) (l : List Int) (k : Int) (p : Option Addr) (m d : Nat) (w : World) (h : Own .i64 3 w B a n c l) (hB : B ≤ w.heap.size) (hn : n ≤ 1000000) :
    Calls Try.prog 134 #[.slice a n c, .agg #[.int .i64 k, .slice p m d]] w (Grew 3 B a n c (l ++ [k]) w) := by
  have H := Lib.hid h
  have HB := Lib.hid hB
  obtain ⟨i0, hi, hz0, hz1, hz2⟩ := info_parts infoIntS
  have HI := Lib.hid (And.intro hi (And.intro hz0 (And.intro hz1 hz2)))
  clear h hi hz0 hz1 hz2
  go_enter Try.func134, Try.ntmps134
  go_wp2_with (at_builtin; refine wpl_app_g _ rfl (.tmp 5) (.tmp 8) 24 rfl .i64 3 i0 (.int .i64 0) 8 Try.underlying24 HI.out.1 HI.out.2.1 HI.out.2.2.1 HI.out.2.2.2 rfl rfl ((H.out.alloc _).alloc _) rfl (nums_new2 _ _ _ _ _) (by omega) ?c1 ?c2 ?_)
  case c1 => omega
  case c2 => have := HB.out; simp; omega
  intro a3 c3 w3 ho3 hg3
  have HO3 := Lib.hid ho3
  have HG3 := Lib.hid (grown_on (grown_below (((Below.refl _ w).alloc (Nat.le_refl _) _).alloc (by simp) _) _) hg3 fun r e => Or.inl e)
  clear ho3 hg3
  go_wp2_with fail
  go_ret
  exact ⟨_, _, _, rfl, HO3.out, HG3.out⟩
theorem row3 {a a' : Option Addr} {n c n' c' s t : Nat} (hl : ∀ cd, a' = some cd → (∃ bd, a = some bd ∧ bd.block = cd.block) ∨ cd.block = s) (hg : t ≤ s) : ∀ r, Value.ownBlock (.slice a' n' c') = some r → Value.ownBlock (.slice a n c) = some r ∨ t ≤ r := fun r e => by
  cases a' with
  | none => simp [Value.ownBlock] at e
  | some cd =>
    simp only [Value.ownBlock, Option.some.injEq] at e
    rcases hl cd rfl with ⟨bd, rfl, q⟩ | q
    · left
      simp only [Value.ownBlock, Option.some.injEq]
      omega
    · right
      omega
theorem off3 {a a' : Option Addr} {n c n' c' g s : Nat} (h : Value.ownBlock (.slice a n c) ≠ some g) (hl : ∀ cd, a' = some cd → (∃ bd, a = some bd ∧ bd.block = cd.block) ∨ cd.block = s) (hg : g < s) : Value.ownBlock (.slice a' n' c') ≠ some g := by
  cases a' with
  | none => simp [Value.ownBlock]
  | some cd =>
    rcases hl cd rfl with ⟨bd, rfl, e⟩ | e
    · simp only [Value.ownBlock, ne_eq, Option.some.injEq] at h ⊢
      omega
    · simp only [Value.ownBlock, ne_eq, Option.some.injEq]
      omega
set_option maxHeartbeats 2000000 in
set_option maxRecDepth 100000 in
theorem writeItems_any (B : Nat) (a : Option Addr) (n c : Nat) (l : List Int) (k : Int) (p : Option Addr) (m d : Nat) (y : List Int) (w : World) (h : Own .i64 3 w B a n c l) (hv : ∀ w', Below B w w' → Nums .i64 w' p m y) (hB : B ≤ w.heap.size) (hn : n ≤ 1000000) (hm : m ≤ 1000000) :
    Calls Try.prog 95 #[.slice a n c, .agg #[.int .i64 k, .slice p m d]] w (Grew 3 B a n c (l ++ (m : Int) :: y) w) := by
  have H := Lib.hid h
  have HV := Lib.hid hv
  have HB := Lib.hid hB
  obtain ⟨i0, hi, hz0, hz1, hz2⟩ := info_parts infoIntS
  have HI := Lib.hid (And.intro hi (And.intro hz0 (And.intro hz1 hz2)))
  clear h hv hi hz0 hz1 hz2
  go_enter Try.func95, Try.ntmps95
  go_wp2_with fail
  have hc : (w.alloc (.cells #[.int .i64 k, .slice p m d] 74)).cell? ⟨w.heap.size, 1, none⟩ = some (.slice p m d) := by simp
  have HW : Hid (Below w.heap.size w (w.alloc (.cells #[.int .i64 k, .slice p m d] 74))) := Lib.hid (alloc_same _ _)
  have H1 := Lib.hid (H.out.same HW.out)
  have HBW := Lib.hid (HW.out.mono HB.out)
  have HOFF : Hid (Value.ownBlock (.slice a n c) ≠ some w.heap.size) := Lib.hid (own_off H.out.span (Nat.le_refl _))
  have hB1 : B ≤ (w.alloc (.cells #[.int .i64 k, .slice p m d] 74)).heap.size := by have := HB.out; simp; omega
  have hlt1 : w.heap.size < (w.alloc (.cells #[.int .i64 k, .slice p m d] 74)).heap.size := by simp
  generalize w.alloc (.cells #[.int .i64 k, .slice p m d] 74) = w1 at *
  have HC := Lib.hid hc
  clear hc
  have HQ : Hid (Below w1.heap.size w1 (w1.alloc (.cells #[.int .i64 (m : Int)] 3)).drew) := Lib.hid (alloc_same _ _).drew
  have HO2 : Hid (Own .i64 3 (w1.alloc (.cells #[.int .i64 (m : Int)] 3)).drew B a n c l) := Lib.hid (H1.out.same HQ.out)
  have HN2 : Hid (Nums .i64 (w1.alloc (.cells #[.int .i64 (m : Int)] 3)).drew (some ⟨w1.heap.size, 0, none⟩) 1 [(m : Int)]) := Lib.hid ((nums_new _ _ _ _).same (Below.refl _ _).drew)
  have hs2 : B ≤ (w1.alloc (.cells #[.int .i64 (m : Int)] 3)).drew.heap.size := Nat.le_trans hB1 HQ.out.size
  have HWQ : Hid (Below w.heap.size w (w1.alloc (.cells #[.int .i64 (m : Int)] 3)).drew) := Lib.hid (HW.out.trans (HQ.out.mono (Nat.le_of_lt hlt1)))
  have hle2 : w.heap.size ≤ (w1.alloc (.cells #[.int .i64 (m : Int)] 3)).drew.heap.size := HWQ.out.size
  have hlt2 : w.heap.size < (w1.alloc (.cells #[.int .i64 (m : Int)] 3)).drew.heap.size := Nat.lt_of_lt_of_le hlt1 HQ.out.size
  go_region_held3 (fun w' => w'.cell? ⟨w.heap.size, 1, none⟩ = some (.slice p m d)) (first | exact cell_kept HC.out (Below.refl _ _).drew | exact cell_kept HC.out HQ.out | exact HC3.out | exact HC4.out) ((first | (refine step_app_g _ (by rfl) (.tmp 5) (.tmp 9) 24 (by rfl) .i64 3 i0 (.int .i64 0) 8 Try.underlying24 HI.out.1 HI.out.2.1 HI.out.2.2.1 HI.out.2.2.2 rfl (by rfl) HO2.out (by rfl) HN2.out (by omega) (by omega) hs2 ?_; intro a3 c3 w3 ho3 hg3 hl3; have HOFF3 : Hid (Value.ownBlock (.slice a3 (n + 1) c3) ≠ some w.heap.size) := Lib.hid (off3 HOFF.out hl3 hlt2); have HO3 := Lib.hid ho3; have HG3 := Lib.hid (grown_on (grown_below HWQ.out (Value.ownBlock (.slice a n c))) hg3 fun r e => Or.inl e); have HL3 := Lib.hid (row3 (n := n) (c := c) (n' := n + 1) (c' := c3) hl3 hle2); have HB3 := Lib.hid (grown_to hg3 (HBW.out.trans (HQ.out.mono hB1)) HO2.out.span (Nat.le_refl _) hs2); have HC3 := Lib.hid (cell_off (cell_kept HC.out HQ.out) hg3 HOFF.out); have hs3 : B ≤ w3.heap.size := Nat.le_trans hs2 hg3.size; clear ho3 hg3) | (refine step_app_g _ (by rfl) (.tmp 10) (.tmp 12) 24 (by rfl) .i64 3 i0 (.int .i64 0) 8 Try.underlying24 HI.out.1 HI.out.2.1 HI.out.2.2.1 HI.out.2.2.2 rfl (by rfl) HO3.out (by rfl) (HV.out _ HB3.out) (by omega) (by omega) hs3 ?_; intro a4 c4 w4 ho4 hg4 _; have HO4 := Lib.hid ho4; have HG4 := Lib.hid (grown_on HG3.out hg4 HL3.out); have HC4 := Lib.hid (cell_off HC3.out hg4 HOFF3.out); clear ho4 hg4)))
  go_wp2_with fail
  go_ret
  exact ⟨_, _, _, rfl, by simpa using HO4.out, HG4.out⟩
theorem own_away {a : Option Addr} {n c lo hi g : Nat} (h : Span a lo hi) (hg : g < lo) : Value.ownBlock (.slice a n c) ≠ some g := by
  cases a with
  | none => simp [Value.ownBlock]
  | some ad =>
    have := (h ad rfl).1
    simp [Value.ownBlock]
    omega
theorem kind_in {l : List Fd} {j : Nat} {x : Fd} (hok : okTo l l.length) (hj : j < l.length) (hx : l[j]? = some x) : x.kind = 1 ∨ x.kind = 2 ∨ x.kind = 3 := by
  have h := hok j x hj hx
  unfold fieldOk at h
  rw [Bool.and_eq_true, decide_eq_true_eq] at h
  have h1 := h.1
  unfold mostOf at h1
  revert h1
  repeat' split
  all_goals omega
set_option maxHeartbeats 1000000 in
theorem longestNum_any (x : Fd) (w : World) : Calls Try.prog 136 #[x.val] w (Told (.int .i64 1) w) := by
  unfold Fd.val
  go_enter Try.func136, Try.ntmps136
  go_wp2_with fail
  go_ret
  exact ⟨rfl, alloc_same _ _⟩
set_option maxHeartbeats 1000000 in
theorem longestItems_any (x : Fd) (w : World) (h : 1 ≤ x.max ∧ x.max ≤ 99) : Calls Try.prog 133 #[x.val] w (Told (.int .i64 (1 + x.max)) w) := by
  obtain ⟨xk, xm, xt, xi⟩ := x
  dsimp only at h
  unfold Fd.val
  go_enter Try.func133, Try.ntmps133
  go_wp2_with fail
  go_ret
  exact ⟨by go_num, alloc_same _ _⟩
end Go.Proofs.Ytcpnchjgklemgaa
namespace Go.Proofs.Ytcpnchjgklemgaa
open Go.ChangeShapes Go.WideShapes Go.ChangeAt Go.RowKit
set_option linter.unusedVariables false

def Fd.wf (x : Fd) : Prop := (Lit.int .i64 x.kind).wf = true ∧ (Lit.int .i64 x.max).wf = true ∧ (Lit.int .i64 x.cond).wf = true ∧ (Lit.int .i64 x.is).wf = true

theorem one_cell {P : Program} {H : Type} {enc : TypeId × Value → H} {w : World} {base n : Nat} {spare : Nat → Bool} {held : Bool} {t : TypeId} {c : Value} {o : Option (DataW H × List MemPlace)} (ht : P.underlying t = some (.int .i64))
    (h : DataW.trod enc P w base spare held n t [c] = o) (ho : o.isSome = true) : ∃ x, c = .int .i64 x ∧ (Lit.int .i64 x).wf = true := by
  cases o with
  | none => cases ho
  | some y =>
    obtain ⟨x, h1, _, h2⟩ := DataW.trod_int ht h
    injection h1 with h3
    exact ⟨x, h3, h2⟩

set_option maxRecDepth 100000 in
theorem open_fds {T E : TypeId} {f0 f1 f2 f3 : Field} (hT : Try.prog.underlying T = some (.slice E)) (hE : Try.prog.underlying E = some (.struct #[f0, f1, f2, f3])) (hone : Go.Deep.oneCellFields Try.prog #[f0, f1, f2, f3] = true) (hC : Try.prog.cellsOf E = 4)
    (t0 : Try.prog.underlying f0.type = some (.int .i64)) (t1 : Try.prog.underlying f1.type = some (.int .i64)) (t2 : Try.prog.underlying f2.type = some (.int .i64)) (t3 : Try.prog.underlying f3.type = some (.int .i64))
    {H : Type} {enc : TypeId × Value → H} {W : World} {base : Nat} {v : Value} {d : DataW H} {p : List MemPlace}
    (hval : Value.okWide Try.prog W .any base T v) (h : DataW.Trod enc Try.prog W 0 (fun _ => true) true T v d p) :
    ∃ (a : Option Addr) (n c : Nat) (l : List Fd), v = .slice a n c ∧ Fds W a n l ∧ (∀ x ∈ l, x.wf) ∧ n ≤ c ∧ (c : Int) ≤ 9223372036854775807 := by
  obtain ⟨a0, len, cap, rfl⟩ := okWide_slice hT hval
  obtain ⟨fuel, hf⟩ := h
  rcases Go.Deep.open_slice hT hf with ⟨hcs, hx⟩ | ⟨a, len', cap', m, n, D, Pl, hcs, hb, hl, hm, hmm, hx, hi⟩
  · simp [Value.cells] at hcs
    obtain ⟨rfl, rfl, rfl⟩ := hcs
    exact ⟨none, 0, 0, [], rfl, Items.nothing, (fun _ h => by cases h), Nat.le_refl _, by omega⟩
  · simp [Value.cells] at hcs
    obtain ⟨rfl, rfl, rfl⟩ := hcs
    simp only [if_true] at hmm
    subst hmm
    have each : ∀ i, i < len → ∃ x : Fd, (∀ j u, x.enc[j]? = some u → W.cell? ((a.add (i * 4)).add j) = some u) ∧ x.wf := by
      intro i hil
      obtain ⟨cs', hc, ht'⟩ := hi i (by omega)
      rw [hC] at hc
      obtain ⟨ys, k, _, _, hlen, hyl, hfs⟩ := DataW.trod_struct hE ht'
      obtain ⟨_, hcl, hat⟩ := World.cells?_some hc
      obtain ⟨o0, k0⟩ := Go.Deep.hone_of hone 0 f0 rfl
      obtain ⟨o1, k1⟩ := Go.Deep.hone_of hone 1 f1 rfl
      obtain ⟨o2, k2⟩ := Go.Deep.hone_of hone 2 f2 rfl
      obtain ⟨o3, k3⟩ := Go.Deep.hone_of hone 3 f3 rfl
      match cs', hlen.trans hC with
      | [c0, c1, c2, c3], _ =>
        have g0 := hfs 0 f0 rfl
        have g1 := hfs 1 f1 rfl
        have g2 := hfs 2 f2 rfl
        have g3 := hfs 3 f3 rfl
        rw [o0, k0] at g0
        rw [o1, k1] at g1
        rw [o2, k2] at g2
        rw [o3, k3] at g3
        have hys : ys.length = 4 := hyl
        obtain ⟨x0, rfl, w0⟩ := one_cell t0 g0 (by rw [List.getElem?_eq_getElem (by omega)]; rfl)
        obtain ⟨x1, rfl, w1⟩ := one_cell t1 g1 (by rw [List.getElem?_eq_getElem (by omega)]; rfl)
        obtain ⟨x2, rfl, w2⟩ := one_cell t2 g2 (by rw [List.getElem?_eq_getElem (by omega)]; rfl)
        obtain ⟨x3, rfl, w3⟩ := one_cell t3 g3 (by rw [List.getElem?_eq_getElem (by omega)]; rfl)
        refine ⟨⟨x0, x1, x2, x3⟩, fun j u hu => ?_, w0, w1, w2, w3⟩
        have hj : j < 4 := by
          rcases Nat.lt_or_ge j 4 with h | h
          · exact h
          · rw [List.getElem?_eq_none (by exact h)] at hu; cases hu
        rw [hat j hj]
        exact hu
    have each' : ∀ i, ∃ x : Fd, i < len → (∀ j u, x.enc[j]? = some u → W.cell? ((a.add (i * 4)).add j) = some u) ∧ x.wf := fun i => by
      by_cases h : i < len
      · obtain ⟨x, hx⟩ := each i h
        exact ⟨x, fun _ => hx⟩
      · exact ⟨⟨0, 0, 0, 0⟩, fun h' => absurd h' h⟩
    obtain ⟨g, hg⟩ := Classical.axiomOfChoice each'
    unfold maxLen at hm
    refine ⟨some a, len, m, (List.range len).map g, rfl, ⟨by simp, by omega, fun j x hj => ?_⟩, ?_, hl, by omega⟩
    · have hjl : j < len := by
        rcases Nat.lt_or_ge j len with h | h
        · exact h
        · rw [List.getElem?_eq_none (by simpa using h)] at hj; cases hj
      rw [List.getElem?_map, List.getElem?_range hjl] at hj
      cases hj
      have hc := (hg j hjl).1
      have h0 := (hg 0 (by omega)).1 0 _ rfl
      obtain ⟨b, o, spot⟩ := a
      have hspot : spot = none := by
        rw [addr_add, show (0 * 4 + 0) = 0 from rfl, show (⟨b, o, spot⟩ : Addr).add 0 = ⟨b, o, spot⟩ from rfl] at h0
        exact World.cell?_spot h0
      subst hspot
      refine ⟨b, o, rfl, fun i v hv => ?_⟩
      have := hc i v hv
      rw [addr_add] at this
      have e : (⟨b, o, none⟩ : Addr).add (j * 4 + i) = ⟨b, o + j * 4 + i, none⟩ := by
        unfold Addr.add
        split <;> simp_all <;> omega
      rw [e] at this
      exact this
    · intro x hx
      obtain ⟨i, hi', rfl⟩ := List.mem_map.1 hx
      exact (hg i (List.mem_range.1 hi')).2
end Go.Proofs.Ytcpnchjgklemgaa
namespace Go.Proofs.Ytcpnchjgklemgaa
open Go.ChangeShapes Go.WideShapes Go.ChangeAt Go.RowKit
set_option linter.unusedVariables false

theorem trod_nums {k : IntKind} {P : Program} {T E : TypeId} (hT : P.underlying T = some (.slice E)) (hE : P.underlying E = some (.int k)) (hone : P.cellsOf E = 1) {H : Type} {enc : TypeId × Value → H} {W : World} {n : Nat} {cs : List Value} {x : DataW H × List MemPlace}
    (h : DataW.trod enc P W 0 (fun _ => true) true n T cs = some x) :
    ∃ (a : Option Addr) (m c : Nat) (l : List Int), cs = [.slice a m c] ∧ Nums k W a m l ∧ (∀ x ∈ l, (Lit.int k x).wf = true) ∧ m ≤ c ∧ (c : Int) ≤ 9223372036854775807 := by
  rcases open_ints hT hE hone h with ⟨hcs, hx⟩ | ⟨a, len', cap', zs, hcs, _, hl, hm, hz, hx, hcell, hwz⟩
  · exact ⟨none, 0, 0, [], hcs, Nums.none, (fun _ h => by cases h), Nat.le_refl _, by omega⟩
  · have hlz : zs.length = cap' := by simpa using hz
    unfold maxLen at hm
    refine ⟨some a, len', cap', zs.take len', hcs, ⟨by rw [List.length_take]; omega, by omega, fun j hj => ⟨a, rfl, ?_⟩⟩, fun x hx => hwz x (List.mem_of_mem_take hx), hl, by omega⟩
    rw [hcell j (by omega)]
    simp [List.getD, hj]
theorem trod_some {H : Type} {P : Program} {enc : TypeId × Value → H} {w : World} {base n : Nat} {spare : Nat → Bool} {held : Bool} {t : TypeId} {cs : List Value} {o : Option (DataW H × List MemPlace)}
    (h : DataW.trod enc P w base spare held n t cs = o) (ho : o.isSome = true) : ∃ x, DataW.trod enc P w base spare held n t cs = some x := by
  cases o with
  | none => cases ho
  | some y => exact ⟨y, h⟩

def Vl.wf (x : Vl) : Prop := (Lit.int .i64 x.num).wf = true ∧ ∀ y ∈ x.items, (Lit.int .i64 y).wf = true
set_option maxRecDepth 100000 in
theorem open_vals {T E I : TypeId} {f0 f1 : Field} (hT : Try.prog.underlying T = some (.slice E)) (hE : Try.prog.underlying E = some (.struct #[f0, f1])) (hone : Go.Deep.oneCellFields Try.prog #[f0, f1] = true) (hC : Try.prog.cellsOf E = 2)
    (t0 : Try.prog.underlying f0.type = some (.int .i64)) (t1 : Try.prog.underlying f1.type = some (.slice I)) (tI : Try.prog.underlying I = some (.int .i64)) (hI : Try.prog.cellsOf I = 1)
    {H : Type} {enc : TypeId × Value → H} {W : World} {base : Nat} {v : Value} {d : DataW H} {p : List MemPlace}
    (hval : Value.okWide Try.prog W .any base T v) (h : DataW.Trod enc Try.prog W 0 (fun _ => true) true T v d p) :
    ∃ (a : Option Addr) (n c : Nat) (l : List Vl), v = .slice a n c ∧ Vals W a n l ∧ (∀ x ∈ l, x.wf) ∧ n ≤ c ∧ (c : Int) ≤ 9223372036854775807 := by
  obtain ⟨a0, len, cap, rfl⟩ := okWide_slice hT hval
  obtain ⟨fuel, hf⟩ := h
  rcases Go.Deep.open_slice hT hf with ⟨hcs, hx⟩ | ⟨a, len', cap', m, n, D, Pl, hcs, hb, hl, hm, hmm, hx, hi⟩
  · simp [Value.cells] at hcs
    obtain ⟨rfl, rfl, rfl⟩ := hcs
    exact ⟨none, 0, 0, [], rfl, Vals.nothing, (fun _ h => by cases h), Nat.le_refl _, by omega⟩
  · simp [Value.cells] at hcs
    obtain ⟨rfl, rfl, rfl⟩ := hcs
    simp only [if_true] at hmm
    subst hmm
    have each : ∀ i, i < len → ∃ x : Vl, (∃ q k e, W.cell? ((a.add (i * 2)).add 0) = some (.int .i64 x.num) ∧ W.cell? ((a.add (i * 2)).add 1) = some (.slice q k e) ∧ Nums .i64 W q k x.items ∧ k ≤ e ∧ (e : Int) ≤ 9223372036854775807) ∧ x.wf := by
      intro i hil
      obtain ⟨cs', hc, ht'⟩ := hi i (by omega)
      rw [hC] at hc
      obtain ⟨ys, k, _, _, hlen, hyl, hfs⟩ := DataW.trod_struct hE ht'
      obtain ⟨_, hcl, hat⟩ := World.cells?_some hc
      obtain ⟨o0, k0⟩ := Go.Deep.hone_of hone 0 f0 rfl
      obtain ⟨o1, k1⟩ := Go.Deep.hone_of hone 1 f1 rfl
      match cs', hlen.trans hC with
      | [c0, c1], _ =>
        have g0 := hfs 0 f0 rfl
        have g1 := hfs 1 f1 rfl
        rw [o0, k0] at g0
        rw [o1, k1] at g1
        have hys : ys.length = 2 := hyl
        obtain ⟨x0, rfl, w0⟩ := one_cell t0 g0 (by rw [List.getElem?_eq_getElem (by omega)]; rfl)
        obtain ⟨y1, g1'⟩ := trod_some g1 (by rw [List.getElem?_eq_getElem (by omega)]; rfl)
        obtain ⟨q, kk, e, l, hq, hN, hw, hr⟩ := trod_nums t1 tI hI g1'
        have hc1 : c1 = .slice q kk e := by simpa using hq
        subst hc1
        exact ⟨⟨x0, l⟩, ⟨q, kk, e, by rw [hat 0 (by omega)]; rfl, by rw [hat 1 (by omega)]; rfl, hN, hr⟩, w0, hw⟩
    have each' : ∀ i, ∃ x : Vl, i < len → (∃ q k e, W.cell? ((a.add (i * 2)).add 0) = some (.int .i64 x.num) ∧ W.cell? ((a.add (i * 2)).add 1) = some (.slice q k e) ∧ Nums .i64 W q k x.items ∧ k ≤ e ∧ (e : Int) ≤ 9223372036854775807) ∧ x.wf := fun i => by
      by_cases h : i < len
      · obtain ⟨x, hx⟩ := each i h
        exact ⟨x, fun _ => hx⟩
      · exact ⟨⟨0, []⟩, fun h' => absurd h' h⟩
    obtain ⟨g, hg⟩ := Classical.axiomOfChoice each'
    unfold maxLen at hm
    refine ⟨some a, len, m, (List.range len).map g, rfl, ⟨by simp, by omega, fun j x hj => ?_⟩, ?_, hl, by omega⟩
    · have hjl : j < len := by
        rcases Nat.lt_or_ge j len with h | h
        · exact h
        · rw [List.getElem?_eq_none (by simpa using h)] at hj; cases hj
      rw [List.getElem?_map, List.getElem?_range hjl] at hj
      cases hj
      obtain ⟨q, k, e, h0, h1, hN, hr⟩ := (hg j hjl).1
      obtain ⟨q', k', e', z0, _⟩ := (hg 0 (by omega)).1
      obtain ⟨b, o, spot⟩ := a
      have hspot : spot = none := by
        rw [addr_add, show (0 * 2 + 0) = 0 from rfl, show (⟨b, o, spot⟩ : Addr).add 0 = ⟨b, o, spot⟩ from rfl] at z0
        exact World.cell?_spot z0
      subst hspot
      have e0 : ∀ i, ((⟨b, o, none⟩ : Addr).add (j * 2)).add i = ⟨b, o + j * 2 + i, none⟩ := fun i => by
        rw [addr_add]
        unfold Addr.add
        split <;> simp_all <;> omega
      rw [e0] at h0 h1
      exact ⟨b, o, q, k, e, rfl, h0, h1, hN, hr⟩
    · intro x hx
      obtain ⟨i, hi', rfl⟩ := List.mem_map.1 hx
      exact (hg i (List.mem_range.1 hi')).2
set_option maxRecDepth 100000 in
/-- A value by itself. -/
theorem open_val {E I : TypeId} {f0 f1 : Field} (hE : Try.prog.underlying E = some (.struct #[f0, f1])) (hone : Go.Deep.oneCellFields Try.prog #[f0, f1] = true) (hC : Try.prog.cellsOf E = 2)
    (t0 : Try.prog.underlying f0.type = some (.int .i64)) (t1 : Try.prog.underlying f1.type = some (.slice I)) (tI : Try.prog.underlying I = some (.int .i64)) (hI : Try.prog.cellsOf I = 1)
    {H : Type} {enc : TypeId × Value → H} {W : World} {base : Nat} {v : Value} {d : DataW H} {p : List MemPlace}
    (hval : Value.okWide Try.prog W .any base E v) (h : DataW.Trod enc Try.prog W 0 (fun _ => true) true E v d p) :
    ∃ (k : Int) (a : Option Addr) (n c : Nat) (l : List Int), v = .agg #[.int .i64 k, .slice a n c] ∧ Nums .i64 W a n l ∧ ((Lit.int .i64 k).wf = true ∧ ∀ x ∈ l, (Lit.int .i64 x).wf = true) ∧ n ≤ c ∧ (c : Int) ≤ 9223372036854775807 := by
  obtain ⟨v0, v1, y0, y1, n, rfl, _, _, h0, h1⟩ := Go.Joins.open_agg2 hE hone hC hval h
  obtain ⟨x0, rfl, w0⟩ := one_cell t0 h0 rfl
  obtain ⟨q, kk, e, l, hq, hN, hw, hr⟩ := trod_nums t1 tI hI h1
  have hc1 : v1 = .slice q kk e := by simpa using hq
  subst hc1
  exact ⟨x0, q, kk, e, l, rfl, hN, ⟨w0, hw⟩, hr⟩
set_option maxRecDepth 100000 in
/-- A field by itself. -/
theorem open_fd {E : TypeId} {f0 f1 f2 f3 : Field} (hE : Try.prog.underlying E = some (.struct #[f0, f1, f2, f3])) (hone : Go.Deep.oneCellFields Try.prog #[f0, f1, f2, f3] = true) (hC : Try.prog.cellsOf E = 4)
    (t0 : Try.prog.underlying f0.type = some (.int .i64)) (t1 : Try.prog.underlying f1.type = some (.int .i64)) (t2 : Try.prog.underlying f2.type = some (.int .i64)) (t3 : Try.prog.underlying f3.type = some (.int .i64))
    {H : Type} {enc : TypeId × Value → H} {W : World} {base : Nat} {v : Value} {d : DataW H} {p : List MemPlace}
    (hval : Value.okWide Try.prog W .any base E v) (h : DataW.Trod enc Try.prog W 0 (fun _ => true) true E v d p) : ∃ x : Fd, v = x.val ∧ x.wf := by
  obtain ⟨v0, v1, v2, v3, y0, y1, y2, y3, n, rfl, _, _, h0, h1, h2, h3⟩ := Go.Joins.open_agg4 hE hone hC hval h
  obtain ⟨x0, rfl, w0⟩ := one_cell t0 h0 rfl
  obtain ⟨x1, rfl, w1⟩ := one_cell t1 h1 rfl
  obtain ⟨x2, rfl, w2⟩ := one_cell t2 h2 rfl
  obtain ⟨x3, rfl, w3⟩ := one_cell t3 h3 rfl
  exact ⟨⟨x0, x1, x2, x3⟩, rfl, w0, w1, w2, w3⟩
end Go.Proofs.Ytcpnchjgklemgaa
