/- What is appended for a field's value, and the greatest number of bytes of one, by the program's functions of the table. -/
import Derived.Test.YtjmabidahofbbaaTabI
import Derived.Test.YtjmabidahofbbaaEncM
import Derived.Test.YtjmabidahofbbaaValB
import Derived.Deep.RegionHeld3
namespace Go.Proofs.Ytjmabidahofbbaa
open Go.ChangeShapes Go.WideShapes Go.ChangeAt Go.RowKit
set_option linter.unusedVariables false

section
variable {P : Program}
/-- Integers are appended to a slice of the call's own, wherever they lie: what is written, and where the outcome lies. -/
theorem run_app_g (w : World) {k : IntKind} (t ty e : TypeId) (i : TypeInfo) (z : Value) (bytes : Nat) (ht : P.underlying t = some (.slice e)) (hi : P.info? e = some i) (hz : i.zero = some z) (hsize : i.size = 1) (hby : i.bytes = bytes) (hzs : z.cells.size = 1)
    {B n c m d : Nat} {a b : Option Addr} {l l' : List Int} (ho : Own k e w B a n c l) (hs : Nums k w b m l') (hbytes : (n + m) * bytes ≤ 140737488355328) (h63 : n + m ≤ maxLen) (hB : B ≤ w.heap.size) :
    ∃ a' c' w', (Builtin.append_ #[t, t] ty #[.slice a n c, .slice b m d]).run P w = .ok (.slice a' (n + m) c') w' ∧ Own k e w' B a' (n + m) c' (l ++ l') ∧ w.grownBy w' (Value.ownBlock (.slice a n c)) ∧ (∀ cd, a' = some cd → (∃ bd, a = some bd ∧ bd.block = cd.block) ∨ cd.block = w.heap.size) := by
  rcases b with _ | ad
  · obtain rfl : m = 0 := by
      rcases Nat.eq_zero_or_pos m with h0 | h0
      · exact h0
      · obtain ⟨ad, h, _⟩ := hs.cell 0 h0
        cases h
    obtain rfl : l' = [] := List.eq_nil_of_length_eq_zero hs.len
    exact ⟨a, c, w, run_app_nothing w B t ty e i ht hi ho.2 d, by simpa using ho, grown_below (Below.refl _ _) _, fun cd e => Or.inl ⟨cd, e, rfl⟩⟩
  · obtain ⟨v', w', hr, h2, h3, _, h5⟩ := run_append_own_at (P := P) w B t ty e i z 1 bytes ht hi hz hsize hby hzs (by omega) (.slice a n c) n (l.map (Value.int k)) ho.2 ad m d (l'.map (Value.int k)) (by simp [hs.len]) (fun j u hu => by
      have hj : j < m := by
        rcases Nat.lt_or_ge j m with h | h
        · exact h
        · rw [List.getElem?_eq_none (by simp [hs.len]; exact h)] at hu; cases hu
      obtain ⟨ad', e', hx⟩ := hs.cell j hj
      cases e'
      have hl : j < l'.length := by rw [hs.len]; exact hj
      rw [List.getElem?_map, List.getElem?_eq_getElem hl] at hu
      cases hu
      rw [hx]
      simp [List.getD, List.getElem?_eq_getElem hl]) (ints_oneCell k l') h63 hbytes hB
    rw [← List.map_append] at h2
    have hlie : ∀ (g q cap : Nat), v' = .slice (some ⟨g, 0, none⟩) q cap → (∃ bd, a = some bd ∧ bd.block = g) ∨ g = w.heap.size := fun g q cap e => by
      subst e
      rcases h5 with e | e
      · left
        cases ha : a with
        | none => rw [ha] at e; simp [Value.ownBlock] at e
        | some bd => rw [ha] at e; simp only [Value.ownBlock, Option.some.injEq] at e; exact ⟨bd, rfl, e.symm⟩
      · right
        simpa [Value.ownBlock] using e
    rcases h2.2 with ⟨rfl, hn⟩ | ⟨g, cap, cur, rfl, hrest⟩
    · exact ⟨none, 0, w', by rw [hn]; exact hr, by rw [hn] at h2 ⊢; exact ⟨by have := h2.1; simpa using this, h2⟩, h3, fun cd e => by cases e⟩
    · exact ⟨_, cap, w', hr, ⟨by have := ho.len; have := hs.len; simp; omega, h2⟩, h3, fun cd e => by cases e; exact hlie _ _ _ rfl⟩
theorem step_app_g (w : World) {ops : Array Oper} {o : Oper} {act : Act} {K : Act → World → Prop} {Q : Exit → Act → World → Prop} {E : Prop} (hgd : o.guard = none) (s x : Operand) (t : TypeId)
    (ho : o.op = .call { callee := .builtin .append, args := #[s, x], argTypes := #[t, t] })
    (k : IntKind) (e : TypeId) (i : TypeInfo) (z : Value) (bytes : Nat) (ht : P.underlying t = some (.slice e)) (hi : P.info? e = some i) (hz : i.zero = some z) (hsize : i.size = 1) (hby : i.bytes = bytes) (hzs : z.cells.size = 1)
    {B n c m d : Nat} {a b : Option Addr} {l l' : List Int} (hs : act.eval s = .slice a n c) (hown : Own k e w B a n c l) (hx : act.eval x = .slice b m d) (hnew : Nums k w b m l')
    (hb1 : 0 < bytes) (hbytes : (n + m) * bytes ≤ 140737488355328) (hB : B ≤ w.heap.size)
    (h : ∀ a' c' w', Own k e w' B a' (n + m) c' (l ++ l') → w.grownBy w' (Value.ownBlock (.slice a n c)) → (∀ cd, a' = some cd → (∃ bd, a = some bd ∧ bd.block = cd.block) ∨ cd.block = w.heap.size) → K (act.put o.dst (.slice a' (n + m) c')) w') :
    if Region.wanted o (yielded ops act.tmps) = true then Oper.wp P o act w K Q else E := by
  have hw : Region.wanted o (yielded ops act.tmps) = true := by simp [Region.wanted, hgd]
  rw [if_pos hw]
  have h63 : n + m ≤ maxLen := by
    have := Nat.mul_le_mul_left (n + m) hb1
    unfold maxLen
    omega
  obtain ⟨a', c', w', hr, h2, h3, h4⟩ := run_app_g (P := P) (d := d) w t o.type e i z bytes ht hi hz hsize hby hzs hown hnew hbytes h63 hB
  unfold Oper.wp execOp
  simp only [ho, resolve, invoke, builtin, Sem.run_bind, Sem.run_pure, Result.andThen_ok, List.map_toArray, List.map_cons, List.map_nil, hs, hx, hr]
  exact h a' c' w' h2 h3 h4
theorem wpl_app_g (w : World) {ops : Array Oper} {rest : List Oper} {o : Oper} {act : Act} {Q : Exit → Act → World → Prop} (hgd : o.guard = none) (s x : Operand) (t : TypeId)
    (ho : o.op = .call { callee := .builtin .append, args := #[s, x], argTypes := #[t, t] })
    (k : IntKind) (e : TypeId) (i : TypeInfo) (z : Value) (bytes : Nat) (ht : P.underlying t = some (.slice e)) (hi : P.info? e = some i) (hz : i.zero = some z) (hsize : i.size = 1) (hby : i.bytes = bytes) (hzs : z.cells.size = 1)
    {B n c m d : Nat} {a b : Option Addr} {l l' : List Int} (hs : act.eval s = .slice a n c) (hown : Own k e w B a n c l) (hx : act.eval x = .slice b m d) (hnew : Nums k w b m l')
    (hb1 : 0 < bytes) (hbytes : (n + m) * bytes ≤ 140737488355328) (hB : B ≤ w.heap.size)
    (h : ∀ a' c' w', Own k e w' B a' (n + m) c' (l ++ l') → w.grownBy w' (Value.ownBlock (.slice a n c)) → wpList P ops Q rest (act.put o.dst (.slice a' (n + m) c')) w') : wpList P ops Q (o :: rest) act w := by
  refine wpList_plain hgd fun K hK => ?_
  have h63 : n + m ≤ maxLen := by
    have := Nat.mul_le_mul_left (n + m) hb1
    unfold maxLen
    omega
  obtain ⟨a', c', w', hr, h2, h3, _⟩ := run_app_g (P := P) (d := d) w t o.type e i z bytes ht hi hz hsize hby hzs hown hnew hbytes h63 hB
  unfold Oper.wp execOp
  simp only [ho, resolve, invoke, builtin, Sem.run_bind, Sem.run_pure, Result.andThen_ok, List.map_toArray, List.map_cons, List.map_nil, hs, hx, hr]
  exact hK _ _ (h a' c' w' h2 h3)
end
theorem nums_new2 (w : World) (o : Obj) (k : IntKind) (x : Int) (t : TypeId) : Nums k ((w.alloc o).alloc (.cells #[.int k x] t)) (some ⟨w.heap.size + 1, 0, none⟩) 1 [x] := by
  have := nums_new (w.alloc o) k x t
  simpa using this
/-- What a function leaves that appends to a slice of the caller's own: the new slice; nothing but its memory is written. -/
def Grew (tI : TypeId) (B : Nat) (a : Option Addr) (n c : Nat) (l : List Int) (w : World) (e : Ending) (w' : World) : Prop :=
  ∃ a' n' c', e = .returned (.slice a' n' c') ∧ Own .i64 tI w' B a' n' c' l ∧ w.grownBy w' (Value.ownBlock (.slice a n c))
theorem grown_on {w w1 w2 : World} {row row2 : Option Nat} (h : w.grownBy w1 row) (g : w1.grownBy w2 row2) (hr : ∀ r, row2 = some r → row = some r ∨ w.heap.size ≤ r) : w.grownBy w2 row :=
  ⟨g.os.trans h.os, g.tape.trans h.tape, g.output.trans h.output, Nat.le_trans h.size g.size, fun i hi hne => (g.block i (Nat.lt_of_lt_of_le hi h.size) (fun e => by
    rcases hr i e.symm with q | q
    · exact hne q.symm
    · omega)).trans (h.block i hi hne)⟩
theorem cell_off {w w' : World} {ad : Addr} {v : Value} {row : Option Nat} (h : w.cell? ad = some v) (hg : w.grownBy w' row) (hr : row ≠ some ad.block) : w'.cell? ad = some v := by
  have e := hg.block _ (cell_in h) hr.symm
  unfold World.cell? at h ⊢
  rw [e]
  exact h
theorem own_off {a : Option Addr} {n c lo hi g : Nat} (h : Span a lo hi) (hg : hi ≤ g) : Value.ownBlock (.slice a n c) ≠ some g := by
  cases a with
  | none => simp [Value.ownBlock]
  | some ad =>
    have := (h ad rfl).2
    simp [Value.ownBlock]
    omega
set_option maxHeartbeats 2000000 in
set_option maxRecDepth 100000 in
theorem writeNum_any (B : Nat) (a : Option Addr) (n c : Nat) (l : List Int) (k : Int) (p : Option Addr) (m d : Nat) (w : World) (h : Own .i64 3 w B a n c l) (hB : B ≤ w.heap.size) (hn : n ≤ 1000000) :
    Calls Try.prog 104 #[.slice a n c, .agg #[.int .i64 k, .slice p m d]] w (Grew 3 B a n c (l ++ [k]) w) := by
  have H := Lib.hid h
  have HB := Lib.hid hB
  obtain ⟨i0, hi, hz0, hz1, hz2⟩ := info_parts infoIntS
  have HI := Lib.hid (And.intro hi (And.intro hz0 (And.intro hz1 hz2)))
  clear h hi hz0 hz1 hz2
  go_enter Try.func104, Try.ntmps104
  go_wp2_with (at_builtin; refine wpl_app_g _ rfl (.tmp 5) (.tmp 8) 29 rfl .i64 3 i0 (.int .i64 0) 8 Try.underlying29 HI.out.1 HI.out.2.1 HI.out.2.2.1 HI.out.2.2.2 rfl rfl ((H.out.alloc _).alloc _) rfl (nums_new2 _ _ _ _ _) (by omega) ?c1 ?c2 ?_)
  case c1 => omega
  case c2 => have := HB.out; simp; omega
  intro a3 c3 w3 ho3 hg3
  have HO3 := Lib.hid ho3
  have HG3 := Lib.hid (grown_on (grown_below (((Below.refl _ w).alloc (Nat.le_refl _) _).alloc (by simp) _) _) hg3 fun r e => Or.inl e)
  clear ho3 hg3
  go_wp2_with fail
  go_ret
  exact ⟨_, _, _, rfl, HO3.out, HG3.out⟩
theorem row3 {a a' : Option Addr} {n c n' c' s t : Nat} (hl : ∀ cd, a' = some cd → (∃ bd, a = some bd ∧ bd.block = cd.block) ∨ cd.block = s) (hg : t ≤ s) : ∀ r, Value.ownBlock (.slice a' n' c') = some r → Value.ownBlock (.slice a n c) = some r ∨ t ≤ r := fun r e => by
  cases a' with
  | none => simp [Value.ownBlock] at e
  | some cd =>
    simp only [Value.ownBlock, Option.some.injEq] at e
    rcases hl cd rfl with ⟨bd, rfl, q⟩ | q
    · left
      simp only [Value.ownBlock, Option.some.injEq]
      omega
    · right
      omega
theorem off3 {a a' : Option Addr} {n c n' c' g s : Nat} (h : Value.ownBlock (.slice a n c) ≠ some g) (hl : ∀ cd, a' = some cd → (∃ bd, a = some bd ∧ bd.block = cd.block) ∨ cd.block = s) (hg : g < s) : Value.ownBlock (.slice a' n' c') ≠ some g := by
  cases a' with
  | none => simp [Value.ownBlock]
  | some cd =>
    rcases hl cd rfl with ⟨bd, rfl, e⟩ | e
    · simp only [Value.ownBlock, ne_eq, Option.some.injEq] at h ⊢
      omega
    · simp only [Value.ownBlock, ne_eq, Option.some.injEq]
      omega
set_option maxHeartbeats 2000000 in
set_option maxRecDepth 100000 in
theorem writeItems_any (B : Nat) (a : Option Addr) (n c : Nat) (l : List Int) (k : Int) (p : Option Addr) (m d : Nat) (y : List Int) (w : World) (h : Own .i64 3 w B a n c l) (hv : ∀ w', Below B w w' → Nums .i64 w' p m y) (hB : B ≤ w.heap.size) (hn : n ≤ 1000000) (hm : m ≤ 1000000) :
    Calls Try.prog 101 #[.slice a n c, .agg #[.int .i64 k, .slice p m d]] w (Grew 3 B a n c (l ++ (m : Int) :: y) w) := by
  have H := Lib.hid h
  have HV := Lib.hid hv
  have HB := Lib.hid hB
  obtain ⟨i0, hi, hz0, hz1, hz2⟩ := info_parts infoIntS
  have HI := Lib.hid (And.intro hi (And.intro hz0 (And.intro hz1 hz2)))
  clear h hv hi hz0 hz1 hz2
  go_enter Try.func101, Try.ntmps101
  go_wp2_with fail
  have hc : (w.alloc (.cells #[.int .i64 k, .slice p m d] 73)).cell? ⟨w.heap.size, 1, none⟩ = some (.slice p m d) := by simp
  have HW : Hid (Below w.heap.size w (w.alloc (.cells #[.int .i64 k, .slice p m d] 73))) := Lib.hid (alloc_same _ _)
  have H1 := Lib.hid (H.out.same HW.out)
  have HBW := Lib.hid (HW.out.mono HB.out)
  have HOFF : Hid (Value.ownBlock (.slice a n c) ≠ some w.heap.size) := Lib.hid (own_off H.out.span (Nat.le_refl _))
  have hB1 : B ≤ (w.alloc (.cells #[.int .i64 k, .slice p m d] 73)).heap.size := by have := HB.out; simp; omega
  have hlt1 : w.heap.size < (w.alloc (.cells #[.int .i64 k, .slice p m d] 73)).heap.size := by simp
  generalize w.alloc (.cells #[.int .i64 k, .slice p m d] 73) = w1 at *
  have HC := Lib.hid hc
  clear hc
  have HQ : Hid (Below w1.heap.size w1 (w1.alloc (.cells #[.int .i64 (m : Int)] 3)).drew) := Lib.hid (alloc_same _ _).drew
  have HO2 : Hid (Own .i64 3 (w1.alloc (.cells #[.int .i64 (m : Int)] 3)).drew B a n c l) := Lib.hid (H1.out.same HQ.out)
  have HN2 : Hid (Nums .i64 (w1.alloc (.cells #[.int .i64 (m : Int)] 3)).drew (some ⟨w1.heap.size, 0, none⟩) 1 [(m : Int)]) := Lib.hid ((nums_new _ _ _ _).same (Below.refl _ _).drew)
  have hs2 : B ≤ (w1.alloc (.cells #[.int .i64 (m : Int)] 3)).drew.heap.size := Nat.le_trans hB1 HQ.out.size
  have HWQ : Hid (Below w.heap.size w (w1.alloc (.cells #[.int .i64 (m : Int)] 3)).drew) := Lib.hid (HW.out.trans (HQ.out.mono (Nat.le_of_lt hlt1)))
  have hle2 : w.heap.size ≤ (w1.alloc (.cells #[.int .i64 (m : Int)] 3)).drew.heap.size := HWQ.out.size
  have hlt2 : w.heap.size < (w1.alloc (.cells #[.int .i64 (m : Int)] 3)).drew.heap.size := Nat.lt_of_lt_of_le hlt1 HQ.out.size
  go_region_held3 (fun w' => w'.cell? ⟨w.heap.size, 1, none⟩ = some (.slice p m d)) (first | exact cell_kept HC.out (Below.refl _ _).drew | exact cell_kept HC.out HQ.out | exact HC3.out | exact HC4.out) ((first | (refine step_app_g _ (by rfl) (.tmp 5) (.tmp 9) 29 (by rfl) .i64 3 i0 (.int .i64 0) 8 Try.underlying29 HI.out.1 HI.out.2.1 HI.out.2.2.1 HI.out.2.2.2 rfl (by rfl) HO2.out (by rfl) HN2.out (by omega) (by omega) hs2 ?_; intro a3 c3 w3 ho3 hg3 hl3; have HOFF3 : Hid (Value.ownBlock (.slice a3 (n + 1) c3) ≠ some w.heap.size) := Lib.hid (off3 HOFF.out hl3 hlt2); have HO3 := Lib.hid ho3; have HG3 := Lib.hid (grown_on (grown_below HWQ.out (Value.ownBlock (.slice a n c))) hg3 fun r e => Or.inl e); have HL3 := Lib.hid (row3 (n := n) (c := c) (n' := n + 1) (c' := c3) hl3 hle2); have HB3 := Lib.hid (grown_to hg3 (HBW.out.trans (HQ.out.mono hB1)) HO2.out.span (Nat.le_refl _) hs2); have HC3 := Lib.hid (cell_off (cell_kept HC.out HQ.out) hg3 HOFF.out); have hs3 : B ≤ w3.heap.size := Nat.le_trans hs2 hg3.size; clear ho3 hg3) | (refine step_app_g _ (by rfl) (.tmp 10) (.tmp 12) 29 (by rfl) .i64 3 i0 (.int .i64 0) 8 Try.underlying29 HI.out.1 HI.out.2.1 HI.out.2.2.1 HI.out.2.2.2 rfl (by rfl) HO3.out (by rfl) (HV.out _ HB3.out) (by omega) (by omega) hs3 ?_; intro a4 c4 w4 ho4 hg4 _; have HO4 := Lib.hid ho4; have HG4 := Lib.hid (grown_on HG3.out hg4 HL3.out); have HC4 := Lib.hid (cell_off HC3.out hg4 HOFF3.out); clear ho4 hg4)))
  go_wp2_with fail
  go_ret
  exact ⟨_, _, _, rfl, by simpa using HO4.out, HG4.out⟩
theorem own_away {a : Option Addr} {n c lo hi g : Nat} (h : Span a lo hi) (hg : g < lo) : Value.ownBlock (.slice a n c) ≠ some g := by
  cases a with
  | none => simp [Value.ownBlock]
  | some ad =>
    have := (h ad rfl).1
    simp [Value.ownBlock]
    omega
theorem kind_in {l : List Fd} {j : Nat} {x : Fd} (hok : okTo l l.length) (hj : j < l.length) (hx : l[j]? = some x) : x.kind = 1 ∨ x.kind = 2 ∨ x.kind = 3 := by
  have h := hok j x hj hx
  unfold fieldOk at h
  rw [Bool.and_eq_true, decide_eq_true_eq] at h
  have h1 := h.1
  unfold mostOf at h1
  revert h1
  repeat' split
  all_goals omega
set_option maxHeartbeats 1000000 in
theorem longestNum_any (x : Fd) (w : World) : Calls Try.prog 106 #[x.val] w (Told (.int .i64 1) w) := by
  unfold Fd.val
  go_enter Try.func106, Try.ntmps106
  go_wp2_with fail
  go_ret
  exact ⟨rfl, alloc_same _ _⟩
set_option maxHeartbeats 1000000 in
theorem longestItems_any (x : Fd) (w : World) (h : 1 ≤ x.max ∧ x.max ≤ 99) : Calls Try.prog 103 #[x.val] w (Told (.int .i64 (1 + x.max)) w) := by
  obtain ⟨xk, xm, xt, xi⟩ := x
  dsimp only at h
  unfold Fd.val
  go_enter Try.func103, Try.ntmps103
  go_wp2_with fail
  go_ret
  exact ⟨by go_num, alloc_same _ _⟩
end Go.Proofs.Ytjmabidahofbbaa
