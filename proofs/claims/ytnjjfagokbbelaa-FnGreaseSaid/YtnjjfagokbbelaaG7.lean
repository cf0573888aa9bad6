/- The table of functions that write, read and measure a field's value: what is handed out for a kind. What is appended for a field's value, and the greatest number of bytes of one, by the program's functions of the table. Plain mathematics of varints: groups of seven bits, least significant first; what is written is read, and what is read is what is written. No condition beyond those written in each statement. How a slice of integers among the arguments is read. How a slice of structs of four integers among the arguments is read. -/
import Derived.Test.YtnjjfagokbbelaaG2
import Derived.Laws.EntriesVeiled
import Derived.Handy
import Derived.Test.YtnjjfagokbbelaaG6
import Derived.Test.YtnjjfagokbbelaaG3
import Derived.Deep.RegionHeld3
import Derived.Below
import Derived.Test.YtnjjfagokbbelaaG1
import Derived.Deep.Slices
import Derived.Deep.Fields
import Derived.ChangeSame
namespace Go.Proofs.Ytnjjfagokbbelaa
open Go.ChangeShapes Go.WideShapes Go.ChangeAt Go.RowKit
set_option linter.unusedVariables false

/-- The functions for the numbers, and those for the texts and the lists. -/
def numCode : Value := .agg #[.func (.func 112) #[] #[], .func (.func 113) #[] #[], .func (.func 114) #[] #[]]
def itemsCode : Value := .agg #[.func (.func 48) #[] #[], .func (.func 110) #[] #[], .func (.func 111) #[] #[]]

theorem three_same (w : World) (A B C : Obj) : Below w.heap.size w (((w.alloc A).alloc B).alloc C) :=
  (((Below.refl _ w).alloc (Nat.le_refl _) _).alloc (by simp) _).alloc (by simp; omega) _
set_option maxHeartbeats 1000000 in
set_option maxRecDepth 100000 in
theorem codeOf_num (w : World) : Calls Try.prog 106 #[.int .i64 1] w (fun e w' => e = .returned numCode ∧ Below w.heap.size w w') := by
  unfold numCode
  go_enter Try.func106, Try.ntmps106
  go_wp2_with fail
  go_returns
  exact ⟨rfl, three_same _ _ _ _⟩
set_option maxHeartbeats 1000000 in
set_option maxRecDepth 100000 in
theorem codeOf_text (w : World) : Calls Try.prog 106 #[.int .i64 2] w (fun e w' => e = .returned itemsCode ∧ Below w.heap.size w w') := by
  unfold itemsCode
  go_enter Try.func106, Try.ntmps106
  go_wp2_with fail
  go_returns
  exact ⟨rfl, three_same _ _ _ _⟩
set_option maxHeartbeats 1000000 in
set_option maxRecDepth 100000 in
theorem codeOf_list (w : World) : Calls Try.prog 106 #[.int .i64 3] w (fun e w' => e = .returned itemsCode ∧ Below w.heap.size w w') := by
  unfold itemsCode
  go_enter Try.func106, Try.ntmps106
  go_wp2_with fail
  go_returns
  exact ⟨rfl, three_same _ _ _ _⟩
theorem codeOf_more {k : Int} (hk : k = 2 ∨ k = 3) (w : World) : Calls Try.prog 106 #[.int .i64 k] w (fun e w' => e = .returned itemsCode ∧ Below w.heap.size w w') := by
  rcases hk with rfl | rfl
  · exact codeOf_text w
  · exact codeOf_list w
theorem numCode_write (w : World) : (Instr.field 127 (.agg #[.func (.func 112) #[] #[], .func (.func 113) #[] #[], .func (.func 114) #[] #[]]) 0).run Try.prog w = .ok (.func (.func 112) #[] #[]) w := by kernel_rfl
theorem numCode_read (w : World) : (Instr.field 127 (.agg #[.func (.func 112) #[] #[], .func (.func 113) #[] #[], .func (.func 114) #[] #[]]) 1).run Try.prog w = .ok (.func (.func 113) #[] #[]) w := by kernel_rfl
theorem numCode_longest (w : World) : (Instr.field 127 (.agg #[.func (.func 112) #[] #[], .func (.func 113) #[] #[], .func (.func 114) #[] #[]]) 2).run Try.prog w = .ok (.func (.func 114) #[] #[]) w := by kernel_rfl
theorem itemsCode_write (w : World) : (Instr.field 127 (.agg #[.func (.func 48) #[] #[], .func (.func 110) #[] #[], .func (.func 111) #[] #[]]) 0).run Try.prog w = .ok (.func (.func 48) #[] #[]) w := by kernel_rfl
theorem itemsCode_read (w : World) : (Instr.field 127 (.agg #[.func (.func 48) #[] #[], .func (.func 110) #[] #[], .func (.func 111) #[] #[]]) 1).run Try.prog w = .ok (.func (.func 110) #[] #[]) w := by kernel_rfl
theorem itemsCode_longest (w : World) : (Instr.field 127 (.agg #[.func (.func 48) #[] #[], .func (.func 110) #[] #[], .func (.func 111) #[] #[]]) 2).run Try.prog w = .ok (.func (.func 111) #[] #[]) w := by kernel_rfl
end Go.Proofs.Ytnjjfagokbbelaa
namespace Go.Proofs.Ytnjjfagokbbelaa
open Go.ChangeShapes Go.WideShapes Go.ChangeAt Go.RowKit
set_option linter.unusedVariables false

section
variable {P : Program}
/-- Integers are appended to a slice of the call's own, wherever they lie: what is written, and where the outcome lies. -/
theorem run_app_g (w : World) {k : IntKind} (t ty e : TypeId) (i : TypeInfo) (z : Value) (bytes : Nat) (ht : P.underlying t = some (.slice e)) (hi : P.info? e = some i) (hz : i.zero = some z) (hsize : i.size = 1) (hby : i.bytes = bytes) (hzs : z.cells.size = 1)
    {B n c m d : Nat} {a b : Option Addr} {l l' : List Int} (ho : Own k e w B a n c l) (hs : Nums k w b m l') (hbytes : (n + m) * bytes ≤ 140737488355328) (h63 : n + m ≤ maxLen) (hB : B ≤ w.heap.size) :
    ∃ a' c' w', (Builtin.append_ #[t, t] ty #[.slice a n c, .slice b m d]).run P w = .ok (.slice a' (n + m) c') w' ∧ Own k e w' B a' (n + m) c' (l ++ l') ∧ w.grownBy w' (Value.ownBlock (.slice a n c)) ∧ (∀ cd, a' = some cd → (∃ bd, a = some bd ∧ bd.block = cd.block) ∨ cd.block = w.heap.size) := by
  rcases b with _ | ad
  · obtain rfl : m = 0 := by
      rcases Nat.eq_zero_or_pos m with h0 | h0
      · exact h0
      · obtain ⟨ad, h, _⟩ := hs.cell 0 h0
        cases h
    obtain rfl : l' = [] := List.eq_nil_of_length_eq_zero hs.len
    exact ⟨a, c, w, run_app_nothing w B t ty e i ht hi ho.2 d, by simpa using ho, grown_below (Below.refl _ _) _, fun cd e => Or.inl ⟨cd, e, rfl⟩⟩
  · obtain ⟨v', w', hr, h2, h3, _, h5⟩ := run_append_own_at (P := P) w B t ty e i z 1 bytes ht hi hz hsize hby hzs (by omega) (.slice a n c) n (l.map (Value.int k)) ho.2 ad m d (l'.map (Value.int k)) (by simp [hs.len]) (fun j u hu => by
      have hj : j < m := by
        rcases Nat.lt_or_ge j m with h | h
        · exact h
        · rw [List.getElem?_eq_none (by simp [hs.len]; exact h)] at hu; cases hu
      obtain ⟨ad', e', hx⟩ := hs.cell j hj
      cases e'
      have hl : j < l'.length := by rw [hs.len]; exact hj
      rw [List.getElem?_map, List.getElem?_eq_getElem hl] at hu
      cases hu
      rw [hx]
      simp [List.getD, List.getElem?_eq_getElem hl]) (ints_oneCell k l') h63 hbytes hB
    rw [← List.map_append] at h2
    have hlie : ∀ (g q cap : Nat), v' = .slice (some ⟨g, 0, none⟩) q cap → (∃ bd, a = some bd ∧ bd.block = g) ∨ g = w.heap.size := fun g q cap e => by
      subst e
      rcases h5 with e | e
      · left
        cases ha : a with
        | none => rw [ha] at e; simp [Value.ownBlock] at e
        | some bd => rw [ha] at e; simp only [Value.ownBlock, Option.some.injEq] at e; exact ⟨bd, rfl, e.symm⟩
      · right
        simpa [Value.ownBlock] using e
    rcases h2.2 with ⟨rfl, hn⟩ | ⟨g, cap, cur, rfl, hrest⟩
    · exact ⟨none, 0, w', by rw [hn]; exact hr, by rw [hn] at h2 ⊢; exact ⟨by have := h2.1; simpa using this, h2⟩, h3, fun cd e => by cases e⟩
    · exact ⟨_, cap, w', hr, ⟨by have := ho.len; have := hs.len; simp; omega, h2⟩, h3, fun cd e => by cases e; exact hlie _ _ _ rfl⟩
theorem step_app_g (w : World) {ops : Array Oper} {o : Oper} {act : Act} {K : Act → World → Prop} {Q : Exit → Act → World → Prop} {E : Prop} (hgd : o.guard = none) (s x : Operand) (t : TypeId)
    (ho : o.op = .call { callee := .builtin .append, args := #[s, x], argTypes := #[t, t] })
    (k : IntKind) (e : TypeId) (i : TypeInfo) (z : Value) (bytes : Nat) (ht : P.underlying t = some (.slice e)) (hi : P.info? e = some i) (hz : i.zero = some z) (hsize : i.size = 1) (hby : i.bytes = bytes) (hzs : z.cells.size = 1)
    {B n c m d : Nat} {a b : Option Addr} {l l' : List Int} (hs : act.eval s = .slice a n c) (hown : Own k e w B a n c l) (hx : act.eval x = .slice b m d) (hnew : Nums k w b m l')
    (hb1 : 0 < bytes) (hbytes : (n + m) * bytes ≤ 140737488355328) (hB : B ≤ w.heap.size)
    (h : ∀ a' c' w', Own k e w' B a' (n + m) c' (l ++ l') → w.grownBy w' (Value.ownBlock (.slice a n c)) → (∀ cd, a' = some cd → (∃ bd, a = some bd ∧ bd.block = cd.block) ∨ cd.block = w.heap.size) → K (act.put o.dst (.slice a' (n + m) c')) w') :
    if Region.wanted o (yielded ops act.tmps) = true then Oper.wp P o act w K Q else E := by
  have hw : Region.wanted o (yielded ops act.tmps) = true := by simp [Region.wanted, hgd]
  rw [if_pos hw]
  have h63 : n + m ≤ maxLen := by
    have := Nat.mul_le_mul_left (n + m) hb1
    unfold maxLen
    omega
  obtain ⟨a', c', w', hr, h2, h3, h4⟩ := run_app_g (P := P) (d := d) w t o.type e i z bytes ht hi hz hsize hby hzs hown hnew hbytes h63 hB
  unfold Oper.wp execOp
  simp only [ho, resolve, invoke, builtin, Sem.run_bind, Sem.run_pure, Result.andThen_ok, List.map_toArray, List.map_cons, List.map_nil, hs, hx, hr]
  exact h a' c' w' h2 h3 h4
theorem wpl_app_g (w : World) {ops : Array Oper} {rest : List Oper} {o : Oper} {act : Act} {Q : Exit → Act → World → Prop} (hgd : o.guard = none) (s x : Operand) (t : TypeId)
    (ho : o.op = .call { callee := .builtin .append, args := #[s, x], argTypes := #[t, t] })
    (k : IntKind) (e : TypeId) (i : TypeInfo) (z : Value) (bytes : Nat) (ht : P.underlying t = some (.slice e)) (hi : P.info? e = some i) (hz : i.zero = some z) (hsize : i.size = 1) (hby : i.bytes = bytes) (hzs : z.cells.size = 1)
    {B n c m d : Nat} {a b : Option Addr} {l l' : List Int} (hs : act.eval s = .slice a n c) (hown : Own k e w B a n c l) (hx : act.eval x = .slice b m d) (hnew : Nums k w b m l')
    (hb1 : 0 < bytes) (hbytes : (n + m) * bytes ≤ 140737488355328) (hB : B ≤ w.heap.size)
    (h : ∀ a' c' w', Own k e w' B a' (n + m) c' (l ++ l') → w.grownBy w' (Value.ownBlock (.slice a n c)) → wpList P ops Q rest (act.put o.dst (.slice a' (n + m) c')) w') : wpList P ops Q (o :: rest) act w := by
  refine wpList_plain hgd fun K hK => ?_
  have h63 : n + m ≤ maxLen := by
    have := Nat.mul_le_mul_left (n + m) hb1
    unfold maxLen
    omega
  obtain ⟨a', c', w', hr, h2, h3, _⟩ := run_app_g (P := P) (d := d) w t o.type e i z bytes ht hi hz hsize hby hzs hown hnew hbytes h63 hB
  unfold Oper.wp execOp
  simp only [ho, resolve, invoke, builtin, Sem.run_bind, Sem.run_pure, Result.andThen_ok, List.map_toArray, List.map_cons, List.map_nil, hs, hx, hr]
  exact hK _ _ (h a' c' w' h2 h3)
end
theorem nums_new2 (w : World) (o : Obj) (k : IntKind) (x : Int) (t : TypeId) : Nums k ((w.alloc o).alloc (.cells #[.int k x] t)) (some ⟨w.heap.size + 1, 0, none⟩) 1 [x] := by
  have := nums_new (w.alloc o) k x t
  simpa using this
/-- What a function leaves that appends to a slice of the caller's own: the new slice; nothing but its memory is written. -/
def Grew (tI : TypeId) (B : Nat) (a : Option Addr) (n c : Nat) (l : List Int) (w : World) (e : Ending) (w' : World) : Prop :=
  ∃ a' n' c', e = .returned (.slice a' n' c') ∧ Own .i64 tI w' B a' n' c' l ∧ w.grownBy w' (Value.ownBlock (.slice a n c))
theorem grown_on {w w1 w2 : World} {row row2 : Option Nat} (h : w.grownBy w1 row) (g : w1.grownBy w2 row2) (hr : ∀ r, row2 = some r → row = some r ∨ w.heap.size ≤ r) : w.grownBy w2 row :=
  ⟨g.os.trans h.os, g.tape.trans h.tape, g.output.trans h.output, Nat.le_trans h.size g.size, fun i hi hne => (g.block i (Nat.lt_of_lt_of_le hi h.size) (fun e => by
    rcases hr i e.symm with q | q
    · exact hne q.symm
    · omega)).trans (h.block i hi hne)⟩
theorem cell_off {w w' : World} {ad : Addr} {v : Value} {row : Option Nat} (h : w.cell? ad = some v) (hg : w.grownBy w' row) (hr : row ≠ some ad.block) : w'.cell? ad = some v := by
  have e := hg.block _ (cell_in h) hr.symm
  unfold World.cell? at h ⊢
  rw [e]
  exact h
theorem own_off {a : Option Addr} {n c lo hi g : Nat} (h : Span a lo hi) (hg : hi ≤ g) : Value.ownBlock (.slice a n c) ≠ some g := by
  cases a with
  | none => simp [Value.ownBlock]
  | some ad =>
    have := (h ad rfl).2
    simp [Value.ownBlock]
    omega
set_option maxHeartbeats 2000000 in
set_option maxRecDepth 100000 in
theorem writeNum_any (B : Nat) (a : Option Addr) (n c : Nat) (l : List Int) (k : Int) (p : Option Addr) (m d : Nat) (w : World) (h : Own .i64 3 w B a n c l) (hB : B ≤ w.heap.size) (hn : n ≤ 1000000) :
    Calls Try.prog 112 #[.slice a n c, .agg #[.int .i64 k, .slice p m d]] w (Grew 3 B a n c (l ++ [k]) w) := by
  have H := Lib.hid h
  have HB := Lib.hid hB
  obtain ⟨i0, hi, hz0, hz1, hz2⟩ := info_parts infoIntS
  have HI := Lib.hid (And.intro hi (And.intro hz0 (And.intro hz1 hz2)))
  clear h hi hz0 hz1 hz2
  go_enter Try.func112, Try.ntmps112
  go_wp2_with (at_builtin; refine wpl_app_g _ rfl (.tmp 5) (.tmp 8) 26 rfl .i64 3 i0 (.int .i64 0) 8 Try.underlying26 HI.out.1 HI.out.2.1 HI.out.2.2.1 HI.out.2.2.2 rfl rfl ((H.out.alloc _).alloc _) rfl (nums_new2 _ _ _ _ _) (by omega) ?c1 ?c2 ?_)
  case c1 => omega
  case c2 => have := HB.out; simp; omega
  intro a3 c3 w3 ho3 hg3
  have HO3 := Lib.hid ho3
  have HG3 := Lib.hid (grown_on (grown_below (((Below.refl _ w).alloc (Nat.le_refl _) _).alloc (by simp) _) _) hg3 fun r e => Or.inl e)
  clear ho3 hg3
  go_wp2_with fail
  go_ret
  exact ⟨_, _, _, rfl, HO3.out, HG3.out⟩
theorem row3 {a a' : Option Addr} {n c n' c' s t : Nat} (hl : ∀ cd, a' = some cd → (∃ bd, a = some bd ∧ bd.block = cd.block) ∨ cd.block = s) (hg : t ≤ s) : ∀ r, Value.ownBlock (.slice a' n' c') = some r → Value.ownBlock (.slice a n c) = some r ∨ t ≤ r := fun r e => by
  cases a' with
  | none => simp [Value.ownBlock] at e
  | some cd =>
    simp only [Value.ownBlock, Option.some.injEq] at e
    rcases hl cd rfl with ⟨bd, rfl, q⟩ | q
    · left
      simp only [Value.ownBlock, Option.some.injEq]
      omega
    · right
      omega
theorem off3 {a a' : Option Addr} {n c n' c' g s : Nat} (h : Value.ownBlock (.slice a n c) ≠ some g) (hl : ∀ cd, a' = some cd → (∃ bd, a = some bd ∧ bd.block = cd.block) ∨ cd.block = s) (hg : g < s) : Value.ownBlock (.slice a' n' c') ≠ some g := by
  cases a' with
  | none => simp [Value.ownBlock]
  | some cd =>
    rcases hl cd rfl with ⟨bd, rfl, e⟩ | e
    · simp only [Value.ownBlock, ne_eq, Option.some.injEq] at h ⊢
      omega
    · simp only [Value.ownBlock, ne_eq, Option.some.injEq]
      omega
set_option maxHeartbeats 2000000 in
set_option maxRecDepth 100000 in
theorem writeItems_any (B : Nat) (a : Option Addr) (n c : Nat) (l : List Int) (k : Int) (p : Option Addr) (m d : Nat) (y : List Int) (w : World) (h : Own .i64 3 w B a n c l) (hv : ∀ w', Below B w w' → Nums .i64 w' p m y) (hB : B ≤ w.heap.size) (hn : n ≤ 1000000) (hm : m ≤ 1000000) :
    Calls Try.prog 48 #[.slice a n c, .agg #[.int .i64 k, .slice p m d]] w (Grew 3 B a n c (l ++ (m : Int) :: y) w) := by
  have H := Lib.hid h
  have HV := Lib.hid hv
  have HB := Lib.hid hB
  obtain ⟨i0, hi, hz0, hz1, hz2⟩ := info_parts infoIntS
  have HI := Lib.hid (And.intro hi (And.intro hz0 (And.intro hz1 hz2)))
  clear h hv hi hz0 hz1 hz2
  go_enter Try.func48, Try.ntmps48
  go_wp2_with fail
  have hc : (w.alloc (.cells #[.int .i64 k, .slice p m d] 60)).cell? ⟨w.heap.size, 1, none⟩ = some (.slice p m d) := by simp
  have HW : Hid (Below w.heap.size w (w.alloc (.cells #[.int .i64 k, .slice p m d] 60))) := Lib.hid (alloc_same _ _)
  have H1 := Lib.hid (H.out.same HW.out)
  have HBW := Lib.hid (HW.out.mono HB.out)
  have HOFF : Hid (Value.ownBlock (.slice a n c) ≠ some w.heap.size) := Lib.hid (own_off H.out.span (Nat.le_refl _))
  have hB1 : B ≤ (w.alloc (.cells #[.int .i64 k, .slice p m d] 60)).heap.size := by have := HB.out; simp; omega
  have hlt1 : w.heap.size < (w.alloc (.cells #[.int .i64 k, .slice p m d] 60)).heap.size := by simp
  generalize w.alloc (.cells #[.int .i64 k, .slice p m d] 60) = w1 at *
  have HC := Lib.hid hc
  clear hc
  have HQ : Hid (Below w1.heap.size w1 (w1.alloc (.cells #[.int .i64 (m : Int)] 3)).drew) := Lib.hid (alloc_same _ _).drew
  have HO2 : Hid (Own .i64 3 (w1.alloc (.cells #[.int .i64 (m : Int)] 3)).drew B a n c l) := Lib.hid (H1.out.same HQ.out)
  have HN2 : Hid (Nums .i64 (w1.alloc (.cells #[.int .i64 (m : Int)] 3)).drew (some ⟨w1.heap.size, 0, none⟩) 1 [(m : Int)]) := Lib.hid ((nums_new _ _ _ _).same (Below.refl _ _).drew)
  have hs2 : B ≤ (w1.alloc (.cells #[.int .i64 (m : Int)] 3)).drew.heap.size := Nat.le_trans hB1 HQ.out.size
  have HWQ : Hid (Below w.heap.size w (w1.alloc (.cells #[.int .i64 (m : Int)] 3)).drew) := Lib.hid (HW.out.trans (HQ.out.mono (Nat.le_of_lt hlt1)))
  have hle2 : w.heap.size ≤ (w1.alloc (.cells #[.int .i64 (m : Int)] 3)).drew.heap.size := HWQ.out.size
  have hlt2 : w.heap.size < (w1.alloc (.cells #[.int .i64 (m : Int)] 3)).drew.heap.size := Nat.lt_of_lt_of_le hlt1 HQ.out.size
  go_region_held3 (fun w' => w'.cell? ⟨w.heap.size, 1, none⟩ = some (.slice p m d)) (first | exact cell_kept HC.out (Below.refl _ _).drew | exact cell_kept HC.out HQ.out | exact HC3.out | exact HC4.out) ((first | (refine step_app_g _ (by rfl) (.tmp 5) (.tmp 9) 26 (by rfl) .i64 3 i0 (.int .i64 0) 8 Try.underlying26 HI.out.1 HI.out.2.1 HI.out.2.2.1 HI.out.2.2.2 rfl (by rfl) HO2.out (by rfl) HN2.out (by omega) (by omega) hs2 ?_; intro a3 c3 w3 ho3 hg3 hl3; have HOFF3 : Hid (Value.ownBlock (.slice a3 (n + 1) c3) ≠ some w.heap.size) := Lib.hid (off3 HOFF.out hl3 hlt2); have HO3 := Lib.hid ho3; have HG3 := Lib.hid (grown_on (grown_below HWQ.out (Value.ownBlock (.slice a n c))) hg3 fun r e => Or.inl e); have HL3 := Lib.hid (row3 (n := n) (c := c) (n' := n + 1) (c' := c3) hl3 hle2); have HB3 := Lib.hid (grown_to hg3 (HBW.out.trans (HQ.out.mono hB1)) HO2.out.span (Nat.le_refl _) hs2); have HC3 := Lib.hid (cell_off (cell_kept HC.out HQ.out) hg3 HOFF.out); have hs3 : B ≤ w3.heap.size := Nat.le_trans hs2 hg3.size; clear ho3 hg3) | (refine step_app_g _ (by rfl) (.tmp 10) (.tmp 12) 26 (by rfl) .i64 3 i0 (.int .i64 0) 8 Try.underlying26 HI.out.1 HI.out.2.1 HI.out.2.2.1 HI.out.2.2.2 rfl (by rfl) HO3.out (by rfl) (HV.out _ HB3.out) (by omega) (by omega) hs3 ?_; intro a4 c4 w4 ho4 hg4 _; have HO4 := Lib.hid ho4; have HG4 := Lib.hid (grown_on HG3.out hg4 HL3.out); have HC4 := Lib.hid (cell_off HC3.out hg4 HOFF3.out); clear ho4 hg4)))
  go_wp2_with fail
  go_ret
  exact ⟨_, _, _, rfl, by simpa using HO4.out, HG4.out⟩
theorem own_away {a : Option Addr} {n c lo hi g : Nat} (h : Span a lo hi) (hg : g < lo) : Value.ownBlock (.slice a n c) ≠ some g := by
  cases a with
  | none => simp [Value.ownBlock]
  | some ad =>
    have := (h ad rfl).1
    simp [Value.ownBlock]
    omega
theorem kind_in {l : List Fd} {j : Nat} {x : Fd} (hok : okTo l l.length) (hj : j < l.length) (hx : l[j]? = some x) : x.kind = 1 ∨ x.kind = 2 ∨ x.kind = 3 := by
  have h := hok j x hj hx
  unfold fieldOk at h
  rw [Bool.and_eq_true, decide_eq_true_eq] at h
  have h1 := h.1
  unfold mostOf at h1
  revert h1
  repeat' split
  all_goals omega
set_option maxHeartbeats 1000000 in
theorem longestNum_any (x : Fd) (w : World) : Calls Try.prog 114 #[x.val] w (Told (.int .i64 1) w) := by
  unfold Fd.val
  go_enter Try.func114, Try.ntmps114
  go_wp2_with fail
  go_ret
  exact ⟨rfl, alloc_same _ _⟩
set_option maxHeartbeats 1000000 in
theorem longestItems_any (x : Fd) (w : World) (h : 1 ≤ x.max ∧ x.max ≤ 99) : Calls Try.prog 111 #[x.val] w (Told (.int .i64 (1 + x.max)) w) := by
  obtain ⟨xk, xm, xt, xi⟩ := x
  dsimp only at h
  unfold Fd.val
  go_enter Try.func111, Try.ntmps111
  go_wp2_with fail
  go_ret
  exact ⟨by go_num, alloc_same _ _⟩
end Go.Proofs.Ytnjjfagokbbelaa
namespace Go.Proofs.Ytnjjfagokbbelaa

/-- The groups of a number, as bytes. -/
def uv (n : Nat) : List Int := if n < 128 then [(n : Int)] else ((n % 128 + 128 : Nat) : Int) :: uv (n / 128)
termination_by n
decreasing_by omega
theorem uv_small {n : Nat} (h : n < 128) : uv n = [(n : Int)] := by rw [uv, if_pos h]
theorem uv_big {n : Nat} (h : 128 ≤ n) : uv n = ((n % 128 + 128 : Nat) : Int) :: uv (n / 128) := by rw [uv, if_neg (by omega)]
theorem uv_pos (n : Nat) : 1 ≤ (uv n).length := by
  by_cases h : n < 128
  · rw [uv_small h]; simp
  · rw [uv_big (by omega)]; simp
theorem uv_len : ∀ (j n : Nat), 1 ≤ j → n < 128 ^ j → (uv n).length ≤ j
  | 0, _, h, _ => absurd h (by omega)
  | 1, n, _, h => by rw [uv_small (by simpa using h)]; simp
  | j + 2, n, _, h => by
    by_cases h1 : n < 128
    · rw [uv_small h1]; simp
    · rw [uv_big (by omega), List.length_cons]
      have := uv_len (j + 1) (n / 128) (by omega) (by rw [Nat.pow_succ] at h; omega)
      omega
theorem uv_len6 (n : Nat) (h : n ≤ 1000000000000) : (uv n).length ≤ 6 := uv_len 6 n (by omega) (by omega)
/-- A list of bytes. -/
def Bs (l : List Int) : Prop := ∀ x ∈ l, 0 ≤ x ∧ x ≤ 255
theorem Bs.nil : Bs [] := fun _ h => by cases h
theorem Bs.cons {x : Int} {l : List Int} (h0 : 0 ≤ x) (h1 : x ≤ 255) (h : Bs l) : Bs (x :: l) := fun y hy => by
  rcases List.mem_cons.1 hy with rfl | hy
  · exact ⟨h0, h1⟩
  · exact h y hy
theorem Bs.append {l m : List Int} (h : Bs l) (k : Bs m) : Bs (l ++ m) := fun y hy => by
  rcases List.mem_append.1 hy with hy | hy
  · exact h y hy
  · exact k y hy
theorem Bs.drop {l : List Int} (h : Bs l) (k : Nat) : Bs (l.drop k) := fun y hy => h y (List.mem_of_mem_drop hy)
theorem Bs.take {l : List Int} (h : Bs l) (k : Nat) : Bs (l.take k) := fun y hy => h y (List.mem_of_mem_take hy)
theorem uv_bs (n : Nat) : Bs (uv n) := by
  induction n using Nat.strongRecOn with
  | _ n ih =>
    by_cases h : n < 128
    · rw [uv_small h]; exact Bs.cons (by omega) (by omega) Bs.nil
    · rw [uv_big (by omega)]; exact Bs.cons (by omega) (by omega) (ih (n / 128) (by omega))

/-- What is appended for a number: nothing where it is out of range. -/
def enc (n : Int) : List Int := if 0 ≤ n ∧ n ≤ 1000000000000 then uv n.toNat else []
theorem enc_in {n : Int} (h0 : 0 ≤ n) (h1 : n ≤ 1000000000000) : enc n = uv n.toNat := if_pos ⟨h0, h1⟩
theorem enc_out {n : Int} (h : ¬ (0 ≤ n ∧ n ≤ 1000000000000)) : enc n = [] := if_neg h
theorem enc_bs (n : Int) : Bs (enc n) := by
  unfold enc
  split
  · exact uv_bs _
  · exact Bs.nil
theorem enc_len (n : Int) : (enc n).length ≤ 6 := by
  unfold enc
  split
  · exact uv_len6 _ (by omega)
  · simp

/-- A varint is read: k groups have been read before, n is their number. -/
def rdv (k : Nat) (n : Int) : List Int → Option (Int × Nat)
  | [] => none
  | x :: t => if 6 ≤ k then none else if 128 ≤ x then rdv (k + 1) (n + (x - 128) * 128 ^ k) t
      else if (x = 0 ∧ 0 < k) ∨ 1000000000000 < n + x * 128 ^ k then none else some (n + x * 128 ^ k, k + 1)
theorem rdv_six (k : Nat) (n : Int) (l : List Int) (h : 6 ≤ k) : rdv k n l = none := by
  cases l with
  | nil => rfl
  | cons x t => rw [rdv, if_pos h]
theorem rdv_more {k : Nat} {n x : Int} {t : List Int} (h : k < 6) (hx : 128 ≤ x) : rdv k n (x :: t) = rdv (k + 1) (n + (x - 128) * 128 ^ k) t := by rw [rdv, if_neg (by omega), if_pos hx]
theorem rdv_bad {k : Nat} {n x : Int} {t : List Int} (h : k < 6) (hx : x < 128) (hb : (x = 0 ∧ 0 < k) ∨ 1000000000000 < n + x * 128 ^ k) : rdv k n (x :: t) = none := by rw [rdv, if_neg (by omega), if_neg (by omega), if_pos hb]
theorem rdv_good {k : Nat} {n x : Int} {t : List Int} (h : k < 6) (hx : x < 128) (hb : ¬ ((x = 0 ∧ 0 < k) ∨ 1000000000000 < n + x * 128 ^ k)) : rdv k n (x :: t) = some (n + x * 128 ^ k, k + 1) := by rw [rdv, if_neg (by omega), if_neg (by omega), if_neg hb]

theorem group_sum (n p : Int) (m : Nat) : n + (((m % 128 + 128 : Nat) : Int) - 128) * p + ((m / 128 : Nat) : Int) * (p * 128) = n + (m : Int) * p := by
  have h : (m : Int) = ((m % 128 : Nat) : Int) + 128 * ((m / 128 : Nat) : Int) := by omega
  have h2 : (((m % 128 + 128 : Nat) : Int) - 128) = ((m % 128 : Nat) : Int) := by omega
  rw [h2]
  generalize ((m % 128 : Nat) : Int) = r at *
  generalize ((m / 128 : Nat) : Int) = q at *
  rw [h, Int.add_mul, Int.mul_comm p 128, ← Int.mul_assoc q 128 p, Int.mul_comm q 128]
  omega

theorem rdv_uv (m : Nat) : ∀ (k : Nat) (n : Int) (t : List Int), (0 < k → 1 ≤ m) → k + (uv m).length ≤ 6 → n + (m : Int) * 128 ^ k ≤ 1000000000000 →
    rdv k n (uv m ++ t) = some (n + (m : Int) * 128 ^ k, k + (uv m).length) := by
  induction m using Nat.strongRecOn with
  | _ m ih =>
    intro k n t hk hl hn
    by_cases h : m < 128
    · rw [uv_small h] at hl ⊢
      simp only [List.length_singleton] at hl ⊢
      show rdv k n ((m : Int) :: t) = _
      exact rdv_good (by omega) (by omega) (by
        rintro (⟨h1, h2⟩ | h1)
        · have := hk h2; omega
        · omega)
    · rw [uv_big (by omega)] at hl ⊢
      simp only [List.length_cons] at hl ⊢
      have hs := group_sum n (128 ^ k) m
      rw [← Int.pow_succ] at hs
      show rdv k n (((m % 128 + 128 : Nat) : Int) :: (uv (m / 128) ++ t)) = _
      rw [rdv_more (by omega) (by omega), ih (m / 128) (by omega) (k + 1) _ t (fun _ => by omega) (by omega) (by rw [hs]; exact hn), hs]
      congr 2
      omega

theorem uv_of_rdv : ∀ (l : List Int) (k : Nat) (n m : Int) (j : Nat), Bs l → rdv k n l = some (m, j) →
    ∃ r : Nat, m = n + (r : Int) * 128 ^ k ∧ j = k + (uv r).length ∧ l.take (uv r).length = uv r ∧ (uv r).length ≤ l.length ∧ (0 < k → 1 ≤ r) ∧ m ≤ 1000000000000
  | [], k, n, m, j, _, h => by cases h
  | x :: t, k, n, m, j, hb, h => by
    have hx := hb x (by simp)
    by_cases h6 : 6 ≤ k
    · rw [rdv_six _ _ _ h6] at h; cases h
    · by_cases h1 : 128 ≤ x
      · rw [rdv_more (by omega) h1] at h
        obtain ⟨r, hm, hj, ht, hlen, hr, hmax⟩ := uv_of_rdv t (k + 1) _ m j (fun y hy => hb y (by simp [hy])) h
        have hr1 := hr (by omega)
        refine ⟨(x - 128).toNat + 128 * r, ?_, ?_, ?_, ?_, fun _ => by omega, hmax⟩
        · have hs := group_sum n (128 ^ k) ((x - 128).toNat + 128 * r)
          rw [show ((x - 128).toNat + 128 * r) / 128 = r by omega, show ((((x - 128).toNat + 128 * r) % 128 + 128 : Nat) : Int) - 128 = x - 128 by omega, ← Int.pow_succ] at hs
          rw [hm, hs]
        all_goals
          rw [uv_big (n := (x - 128).toNat + 128 * r) (by omega), show ((x - 128).toNat + 128 * r) / 128 = r by omega]
          simp only [List.length_cons]
        · omega
        · rw [List.take_succ_cons, ht]
          congr 1
          omega
        · omega
      · by_cases hbad : (x = 0 ∧ 0 < k) ∨ 1000000000000 < n + x * 128 ^ k
        · rw [rdv_bad (by omega) (by omega) hbad] at h; cases h
        · rw [rdv_good (by omega) (by omega) hbad] at h
          injection h with h
          injection h with h2 h3
          refine ⟨x.toNat, ?_, ?_, ?_, ?_, fun hk => ?_, by rw [← h2]; omega⟩
          · rw [show ((x.toNat : Nat) : Int) = x by omega, h2]
          all_goals try rw [uv_small (n := x.toNat) (by omega)]
          · rw [← h3]; rfl
          · show [x] = _
            congr 1
            omega
          · simp
          · omega

/-- The varint at a place: its number and the place behind it. -/
def rd (l : List Int) (off : Int) : Option (Int × Nat) := if 0 ≤ off ∧ off ≤ l.length then (rdv 0 0 (l.drop off.toNat)).map fun p => (p.1, off.toNat + p.2) else none
theorem rd_out {l : List Int} {off : Int} (h : ¬ (0 ≤ off ∧ off ≤ l.length)) : rd l off = none := if_neg h
theorem rd_end (l : List Int) : rd l l.length = none := by
  unfold rd
  rw [if_pos ⟨by omega, by omega⟩]
  simp [rdv]
theorem rd_none {l : List Int} {off : Nat} (h : rdv 0 0 (l.drop off) = none) : rd l off = none := by
  unfold rd
  split
  · rw [show ((off : Int)).toNat = off by omega, h]; rfl
  · rfl
theorem rd_some {l : List Int} {off : Nat} {m : Int} {j : Nat} (h0 : off ≤ l.length) (h : rdv 0 0 (l.drop off) = some (m, j)) : rd l off = some (m, off + j) := by
  unfold rd
  rw [if_pos ⟨by omega, by omega⟩, show ((off : Int)).toNat = off by omega, h]; rfl
/-- What is read is what is written. -/
theorem rd_facts {l : List Int} {off : Int} {m : Int} {j : Nat} (hb : Bs l) (h : rd l off = some (m, j)) :
    0 ≤ off ∧ off < j ∧ j ≤ l.length ∧ 0 ≤ m ∧ m ≤ 1000000000000 ∧ (l.drop off.toNat).take (j - off.toNat) = enc m ∧ (enc m).length = j - off.toNat := by
  unfold rd at h
  split at h
  · rename_i h0
    rw [Option.map_eq_some_iff] at h
    obtain ⟨⟨m', j'⟩, h1, h2⟩ := h
    injection h2 with h2 h3
    simp only at h2 h3
    subst h2
    obtain ⟨r, hm, hj, ht, hlen, _, hmax⟩ := uv_of_rdv _ 0 0 m' j' (hb.drop _) h1
    have hp := uv_pos r
    have hmr : m' = r := by rw [hm]; simp
    rw [List.length_drop] at hlen
    have he : enc m' = uv r := by rw [enc_in (by omega) hmax, show m'.toNat = r by omega]
    rw [he, show j - off.toNat = (uv r).length by omega]
    exact ⟨h0.1, by omega, by omega, by omega, hmax, ht, rfl⟩
  · cases h
/-- What is written is read. -/
theorem rd_enc (l t : List Int) (m : Int) (h0 : 0 ≤ m) (h1 : m ≤ 1000000000000) : rd (l ++ (enc m ++ t)) l.length = some (m, l.length + (enc m).length) := by
  rw [enc_in h0 h1]
  refine rd_some (by simp) ?_
  rw [List.drop_left]
  have h := rdv_uv m.toNat 0 0 t (fun h => by omega) (by have := uv_len6 m.toNat (by omega); omega) (by simp; omega)
  rw [h]
  simp
  omega

/-- A byte string at a place. -/
def rdBytes (l : List Int) (off most : Int) : Option (List Int × Nat) :=
  match rd l off with
  | none => none
  | some (n, j) => if n ≤ most ∧ n ≤ l.length - j then some ((l.drop j).take n.toNat, j + n.toNat) else none
theorem rdBytes_none {l : List Int} {off most : Int} (h : rd l off = none) : rdBytes l off most = none := by unfold rdBytes; rw [h]
theorem rdBytes_no {l : List Int} {off most n : Int} {j : Nat} (h : rd l off = some (n, j)) (hn : ¬ (n ≤ most ∧ n ≤ l.length - j)) : rdBytes l off most = none := by
  unfold rdBytes
  rw [h]
  exact if_neg hn
theorem rdBytes_yes {l : List Int} {off most n : Int} {j : Nat} (h : rd l off = some (n, j)) (hn : n ≤ most ∧ n ≤ l.length - j) : rdBytes l off most = some ((l.drop j).take n.toNat, j + n.toNat) := by
  unfold rdBytes
  rw [h]
  exact if_pos hn

/-- The varints of a list of numbers, one behind the other. -/
def encs (zs : List Int) : List Int := zs.flatMap enc
theorem encs_nil : encs [] = [] := rfl
theorem encs_snoc (zs : List Int) (z : Int) : encs (zs ++ [z]) = encs zs ++ enc z := by unfold encs; rw [List.flatMap_append]; simp
theorem encs_bs (zs : List Int) : Bs (encs zs) := by
  intro x hx
  unfold encs at hx
  rw [List.mem_flatMap] at hx
  obtain ⟨z, _, hz⟩ := hx
  exact enc_bs z x hz
theorem encs_len (zs : List Int) : (encs zs).length ≤ 6 * zs.length := by
  induction zs with
  | nil => simp [encs]
  | cons z zs ih =>
    have : encs (z :: zs) = enc z ++ encs zs := by unfold encs; simp
    rw [this, List.length_append, List.length_cons]
    have := enc_len z
    omega

/-- The numbers that are read in k rounds from a place on, and the place behind them. -/
def decK (l : List Int) (off : Int) : Nat → Option (List Int × Int)
  | 0 => some ([], off)
  | k + 1 => match decK l off k with
    | none => none
    | some (zs, o) => match rd l o with
      | none => none
      | some (n, j) => some (zs ++ [n], (j : Int))
theorem decK_zero (l : List Int) (off : Int) : decK l off 0 = some ([], off) := rfl
theorem decK_step {l : List Int} {off o : Int} {k : Nat} {zs : List Int} {n : Int} {j : Nat} (h : decK l off k = some (zs, o)) (hr : rd l o = some (n, j)) : decK l off (k + 1) = some (zs ++ [n], (j : Int)) := by
  rw [decK, h]; simp only; rw [hr]
theorem decK_stop {l : List Int} {off o : Int} {k : Nat} {zs : List Int} (h : decK l off k = some (zs, o)) (hr : rd l o = none) : decK l off (k + 1) = none := by
  rw [decK, h]; simp only; rw [hr]
theorem decK_none {l : List Int} {off : Int} {k m : Nat} (h : decK l off k = none) (hm : k ≤ m) : decK l off m = none := by
  obtain ⟨d, rfl⟩ : ∃ d, m = k + d := ⟨m - k, by omega⟩
  induction d with
  | zero => exact h
  | succ d ih => rw [show k + (d + 1) = (k + d) + 1 by omega, decK, ih (by omega)]
theorem decK_len {l : List Int} {off o : Int} {k : Nat} {zs : List Int} (h : decK l off k = some (zs, o)) : zs.length = k := by
  induction k generalizing zs o with
  | zero => rw [decK] at h; cases h; rfl
  | succ k ih =>
    rw [decK] at h
    split at h
    · cases h
    · rename_i zs' o' h'
      split at h
      · cases h
      · cases h
        simp [ih h']
theorem decK_at {l : List Int} {off o : Int} {k : Nat} {zs : List Int} (hb : Bs l) (h0 : 0 ≤ off) (h1 : off ≤ l.length) (h : decK l off k = some (zs, o)) : 0 ≤ o ∧ o ≤ l.length ∧ ∀ z ∈ zs, 0 ≤ z ∧ z ≤ 1000000000000 := by
  induction k generalizing zs o with
  | zero => rw [decK] at h; cases h; exact ⟨h0, h1, fun _ h => by cases h⟩
  | succ k ih =>
    rw [decK] at h
    split at h
    · cases h
    · rename_i zs' o' h'
      split at h
      · cases h
      · rename_i n j hr
        cases h
        have f := rd_facts hb hr
        refine ⟨by omega, by omega, fun z hz => ?_⟩
        rcases List.mem_append.1 hz with hz | hz
        · exact (ih h').2.2 z hz
        · simp at hz
          subst hz
          exact ⟨f.2.2.2.1, f.2.2.2.2.1⟩
/-- What is written is read, all of it; and nothing more is there. -/
theorem decK_encs (zs : List Int) (hz : ∀ z ∈ zs, 0 ≤ z ∧ z ≤ 1000000000000) : ∀ k, k ≤ zs.length → decK (encs zs) 0 k = some (zs.take k, ((encs (zs.take k)).length : Int)) := by
  intro k
  induction k with
  | zero => intro _; rfl
  | succ k ih =>
    intro hk
    have hlt : k < zs.length := by omega
    have hd : zs = zs.take k ++ (zs[k] :: zs.drop (k + 1)) := by rw [List.getElem_cons_drop, List.take_append_drop]
    have he : encs zs = encs (zs.take k) ++ (enc zs[k] ++ encs (zs.drop (k + 1))) := by
      conv => lhs; rw [hd]
      unfold encs
      rw [List.flatMap_append, List.flatMap_cons]
    have hzk := hz zs[k] (List.getElem_mem hlt)
    have hr := rd_enc (encs (zs.take k)) (encs (zs.drop (k + 1))) zs[k] hzk.1 hzk.2
    rw [← he] at hr
    rw [decK_step (ih (by omega)) hr, List.take_succ_eq_append_getElem hlt, encs_snoc, List.length_append]
theorem decK_all (zs : List Int) (hz : ∀ z ∈ zs, 0 ≤ z ∧ z ≤ 1000000000000) : decK (encs zs) 0 zs.length = some (zs, ((encs zs).length : Int)) := by
  have h := decK_encs zs hz zs.length (Nat.le_refl _)
  rwa [List.take_length] at h
theorem decK_more (zs : List Int) (hz : ∀ z ∈ zs, 0 ≤ z ∧ z ≤ 1000000000000) : decK (encs zs) 0 (zs.length + 1) = none := decK_stop (decK_all zs hz) (rd_end _)
end Go.Proofs.Ytnjjfagokbbelaa
namespace Go.Proofs.Ytnjjfagokbbelaa
open Go.ChangeShapes Go.WideShapes Go.ChangeAt Go.RowKit
set_option linter.unusedVariables false

theorem laidOut : laidOutB Try.prog = true := by kernel_rfl
set_option maxRecDepth 100000 in
theorem open_nums {k : IntKind} {T E : TypeId} (hT : Try.prog.underlying T = some (.slice E)) (hE : Try.prog.underlying E = some (.int k)) (hone : Try.prog.cellsOf E = 1) {H : Type} {enc : TypeId × Value → H} {W : World} {base : Nat} {v : Value} {d : DataW H} {p : List MemPlace}
    (hval : Value.okWide Try.prog W .any base T v) (h : DataW.Trod enc Try.prog W 0 (fun _ => true) true T v d p) :
    ∃ (a : Option Addr) (n c : Nat) (l : List Int), v = .slice a n c ∧ Nums k W a n l ∧ (∀ x ∈ l, (Lit.int k x).wf = true) ∧ n ≤ c ∧ (c : Int) ≤ 9223372036854775807 := by
  obtain ⟨a0, len, cap, rfl⟩ := okWide_slice hT hval
  obtain ⟨fuel, hf⟩ := h
  rcases open_ints hT hE hone hf with ⟨hcs, hx⟩ | ⟨a, len', cap', zs, hcs, _, hl, hm, hz, hx, hcell, hwz⟩
  · simp [Value.cells] at hcs
    obtain ⟨rfl, rfl, rfl⟩ := hcs
    exact ⟨none, 0, 0, [], rfl, Nums.none, (fun _ h => by cases h), Nat.le_refl _, by omega⟩
  · simp [Value.cells] at hcs
    obtain ⟨rfl, rfl, rfl⟩ := hcs
    have hlz : zs.length = cap := by simpa using hz
    unfold maxLen at hm
    refine ⟨some a, len, cap, zs.take len, rfl, ⟨by rw [List.length_take]; omega, by omega, fun j hj => ⟨a, rfl, ?_⟩⟩, fun x hx => hwz x (List.mem_of_mem_take hx), hl, by omega⟩
    rw [hcell j (by omega)]
    simp [List.getD, hj]
theorem bs_of_wf {l : List Int} (h : ∀ x ∈ l, (Lit.int .u8 x).wf = true) : Bs l := by
  intro x hx
  have := h x hx
  simp [Lit.wf, IntKind.min, IntKind.max, IntKind.signed, IntKind.bits] at this
  omega
theorem byte_cells : Try.prog.cellsOf 5 = 1 := by kernel_rfl
theorem int_cells : Try.prog.cellsOf 3 = 1 := by kernel_rfl
end Go.Proofs.Ytnjjfagokbbelaa
namespace Go.Proofs.Ytnjjfagokbbelaa
open Go.ChangeShapes Go.WideShapes Go.ChangeAt Go.RowKit
set_option linter.unusedVariables false

def Fd.wf (x : Fd) : Prop := (Lit.int .i64 x.kind).wf = true ∧ (Lit.int .i64 x.max).wf = true ∧ (Lit.int .i64 x.cond).wf = true ∧ (Lit.int .i64 x.is).wf = true

theorem one_cell {P : Program} {H : Type} {enc : TypeId × Value → H} {w : World} {base n : Nat} {spare : Nat → Bool} {held : Bool} {t : TypeId} {c : Value} {o : Option (DataW H × List MemPlace)} (ht : P.underlying t = some (.int .i64))
    (h : DataW.trod enc P w base spare held n t [c] = o) (ho : o.isSome = true) : ∃ x, c = .int .i64 x ∧ (Lit.int .i64 x).wf = true := by
  cases o with
  | none => cases ho
  | some y =>
    obtain ⟨x, h1, _, h2⟩ := DataW.trod_int ht h
    injection h1 with h3
    exact ⟨x, h3, h2⟩

set_option maxRecDepth 100000 in
theorem open_fds {T E : TypeId} {f0 f1 f2 f3 : Field} (hT : Try.prog.underlying T = some (.slice E)) (hE : Try.prog.underlying E = some (.struct #[f0, f1, f2, f3])) (hone : Go.Deep.oneCellFields Try.prog #[f0, f1, f2, f3] = true) (hC : Try.prog.cellsOf E = 4)
    (t0 : Try.prog.underlying f0.type = some (.int .i64)) (t1 : Try.prog.underlying f1.type = some (.int .i64)) (t2 : Try.prog.underlying f2.type = some (.int .i64)) (t3 : Try.prog.underlying f3.type = some (.int .i64))
    {H : Type} {enc : TypeId × Value → H} {W : World} {base : Nat} {v : Value} {d : DataW H} {p : List MemPlace}
    (hval : Value.okWide Try.prog W .any base T v) (h : DataW.Trod enc Try.prog W 0 (fun _ => true) true T v d p) :
    ∃ (a : Option Addr) (n c : Nat) (l : List Fd), v = .slice a n c ∧ Fds W a n l ∧ (∀ x ∈ l, x.wf) ∧ n ≤ c ∧ (c : Int) ≤ 9223372036854775807 := by
  obtain ⟨a0, len, cap, rfl⟩ := okWide_slice hT hval
  obtain ⟨fuel, hf⟩ := h
  rcases Go.Deep.open_slice hT hf with ⟨hcs, hx⟩ | ⟨a, len', cap', m, n, D, Pl, hcs, hb, hl, hm, hmm, hx, hi⟩
  · simp [Value.cells] at hcs
    obtain ⟨rfl, rfl, rfl⟩ := hcs
    exact ⟨none, 0, 0, [], rfl, Items.nothing, (fun _ h => by cases h), Nat.le_refl _, by omega⟩
  · simp [Value.cells] at hcs
    obtain ⟨rfl, rfl, rfl⟩ := hcs
    simp only [if_true] at hmm
    subst hmm
    have each : ∀ i, i < len → ∃ x : Fd, (∀ j u, x.enc[j]? = some u → W.cell? ((a.add (i * 4)).add j) = some u) ∧ x.wf := by
      intro i hil
      obtain ⟨cs', hc, ht'⟩ := hi i (by omega)
      rw [hC] at hc
      obtain ⟨ys, k, _, _, hlen, hyl, hfs⟩ := DataW.trod_struct hE ht'
      obtain ⟨_, hcl, hat⟩ := World.cells?_some hc
      obtain ⟨o0, k0⟩ := Go.Deep.hone_of hone 0 f0 rfl
      obtain ⟨o1, k1⟩ := Go.Deep.hone_of hone 1 f1 rfl
      obtain ⟨o2, k2⟩ := Go.Deep.hone_of hone 2 f2 rfl
      obtain ⟨o3, k3⟩ := Go.Deep.hone_of hone 3 f3 rfl
      match cs', hlen.trans hC with
      | [c0, c1, c2, c3], _ =>
        have g0 := hfs 0 f0 rfl
        have g1 := hfs 1 f1 rfl
        have g2 := hfs 2 f2 rfl
        have g3 := hfs 3 f3 rfl
        rw [o0, k0] at g0
        rw [o1, k1] at g1
        rw [o2, k2] at g2
        rw [o3, k3] at g3
        have hys : ys.length = 4 := hyl
        obtain ⟨x0, rfl, w0⟩ := one_cell t0 g0 (by rw [List.getElem?_eq_getElem (by omega)]; rfl)
        obtain ⟨x1, rfl, w1⟩ := one_cell t1 g1 (by rw [List.getElem?_eq_getElem (by omega)]; rfl)
        obtain ⟨x2, rfl, w2⟩ := one_cell t2 g2 (by rw [List.getElem?_eq_getElem (by omega)]; rfl)
        obtain ⟨x3, rfl, w3⟩ := one_cell t3 g3 (by rw [List.getElem?_eq_getElem (by omega)]; rfl)
        refine ⟨⟨x0, x1, x2, x3⟩, fun j u hu => ?_, w0, w1, w2, w3⟩
        have hj : j < 4 := by
          rcases Nat.lt_or_ge j 4 with h | h
          · exact h
          · rw [List.getElem?_eq_none (by exact h)] at hu; cases hu
        rw [hat j hj]
        exact hu
    have each' : ∀ i, ∃ x : Fd, i < len → (∀ j u, x.enc[j]? = some u → W.cell? ((a.add (i * 4)).add j) = some u) ∧ x.wf := fun i => by
      by_cases h : i < len
      · obtain ⟨x, hx⟩ := each i h
        exact ⟨x, fun _ => hx⟩
      · exact ⟨⟨0, 0, 0, 0⟩, fun h' => absurd h' h⟩
    obtain ⟨g, hg⟩ := Classical.axiomOfChoice each'
    unfold maxLen at hm
    refine ⟨some a, len, m, (List.range len).map g, rfl, ⟨by simp, by omega, fun j x hj => ?_⟩, ?_, hl, by omega⟩
    · have hjl : j < len := by
        rcases Nat.lt_or_ge j len with h | h
        · exact h
        · rw [List.getElem?_eq_none (by simpa using h)] at hj; cases hj
      rw [List.getElem?_map, List.getElem?_range hjl] at hj
      cases hj
      have hc := (hg j hjl).1
      have h0 := (hg 0 (by omega)).1 0 _ rfl
      obtain ⟨b, o, spot⟩ := a
      have hspot : spot = none := by
        rw [addr_add, show (0 * 4 + 0) = 0 from rfl, show (⟨b, o, spot⟩ : Addr).add 0 = ⟨b, o, spot⟩ from rfl] at h0
        exact World.cell?_spot h0
      subst hspot
      refine ⟨b, o, rfl, fun i v hv => ?_⟩
      have := hc i v hv
      rw [addr_add] at this
      have e : (⟨b, o, none⟩ : Addr).add (j * 4 + i) = ⟨b, o + j * 4 + i, none⟩ := by
        unfold Addr.add
        split <;> simp_all <;> omega
      rw [e] at this
      exact this
    · intro x hx
      obtain ⟨i, hi', rfl⟩ := List.mem_map.1 hx
      exact (hg i (List.mem_range.1 hi')).2
end Go.Proofs.Ytnjjfagokbbelaa
