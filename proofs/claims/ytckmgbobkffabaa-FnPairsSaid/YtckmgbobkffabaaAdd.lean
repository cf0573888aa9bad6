/- A list of pairs behind a pointer: a pair is put behind the others. -/
import Derived.Test.YtckmgbobkffabaaRw
import Derived.Deep.RegionHeld3
import Derived.Deep.QuietTactic
import Derived.BigQuiet
import Derived.RegionTactic
import Derived.Handy
namespace Go.Proofs.Ytckmgbobkffabaa
open Go.ChangeShapes Go.WideShapes Go.ChangeAt Go.RowKit
set_option linter.unusedVariables false
set_option linter.unusedSimpArgs false

theorem infoR : (Try.prog.info? 31).map (fun i => (i.zero, i.size, i.bytes)) = some (some (.slice none 0 0), 1, 24) := by kernel_rfl
section
variable {rs : List Nat} {S : Nat} {w w' : World} {B g n c : Nat} {l : List (Int × Int)}
/-- Another block was written to. -/
theorem OwnRs.other {q : Nat} (h : OwnRs rs S w B g n c l) (hg : w.grownBy w' (some q)) (h1 : q ≠ g) (h2 : q ∉ rs) : OwnRs rs S w' B g n c l := by
  have ht := h.top
  refine ⟨⟨h.own.1, h.own.2.kept hg (Or.inr ?_)⟩, h.len, fun j r p a1 a2 => ?_, h.out, h.inc, h.lo, h.hi, Nat.le_trans ht hg.size⟩
  · simp only [Value.ownBlock, ne_eq, Option.some.injEq]
    omega
  · have hm := List.mem_of_getElem? a1
    have := (h.out r hm).2.1
    rw [hg.block r (by omega) (fun e => h2 (by cases e; exact hm))]
    exact h.row j r p a1 a2
/-- Rows are appended to a list of rows that is not nil; where it lies then. -/
theorem wpl_app_rows {P : Program} {ops : Array Oper} {rest : List Oper} {o : Oper} {act : Act} {Q : Exit → Act → World → Prop} (hgd : o.guard = none) (q x : Operand) (t : TypeId)
    (ho : o.op = .call { callee := .builtin .append, args := #[q, x], argTypes := #[t, t] })
    (e : TypeId) (i : TypeInfo) (z : Value) (bytes : Nat) (ht : P.underlying t = some (.slice e)) (hi : P.info? e = some i) (hz : i.zero = some z) (hsize : i.size = 1) (hby : i.bytes = bytes) (hzs : z.cells.size = 1)
    {B n c m d g : Nat} {b : Option Addr} {l l' : List Nat} (hq : act.eval q = .slice (some ⟨g, 0, none⟩) n c) (hown : OwnI rowEnc 1 e w B (some ⟨g, 0, none⟩) n c l) (hx : act.eval x = .slice b m d) (hnew : Items rowEnc 1 w b m l')
    (hb1 : 0 < bytes) (hbytes : (n + m) * bytes ≤ 140737488355328) (hB : B ≤ w.heap.size)
    (h : ∀ g' c' w', OwnI rowEnc 1 e w' B (some ⟨g', 0, none⟩) (n + m) c' (l ++ l') → w.grownBy w' (some g) → (g' = g ∨ g' = w.heap.size) → wpList P ops Q rest (act.put o.dst (.slice (some ⟨g', 0, none⟩) (n + m) c')) w') : wpList P ops Q (o :: rest) act w := by
  refine wpList_plain hgd fun K hK => ?_
  have h63 : n + m ≤ maxLen := by
    have := Nat.mul_le_mul_left (n + m) hb1
    unfold maxLen
    omega
  obtain ⟨g', c', w', hr, h2, h3, h4⟩ := run_app_someI (P := P) (d := d) w rowEnc_len (by omega) rowEnc_one t o.type e i z bytes ht hi hz hsize hby hzs hown hnew hbytes h63 hB
  unfold Oper.wp execOp
  simp only [ho, resolve, invoke, builtin, Sem.run_bind, Sem.run_pure, Result.andThen_ok, List.map_toArray, List.map_cons, List.map_nil, hq, hx, hr]
  exact hK _ _ (h g' c' w' h2 h3 h4)
end
/-- The variable gp holds a list of pairs of the call's own. -/
structure BoxR (gp : Nat) (rs : List Nat) (w : World) (B g n c : Nat) (l : List (Int × Int)) : Prop where
  box : w.heap[gp]? = some (.cells #[.slice (some ⟨g, 0, none⟩) n c] 76 (0, 0))
  rows : OwnRs rs w.heap.size w B g n c l
  ne : gp ≠ g
  nin : gp ∉ rs
  lo : B ≤ gp
/-- Only the blocks g and q have changed, or new ones. -/
structure But (g q : Nat) (w w' : World) : Prop where
  os : w'.os = w.os
  tape : w'.tape = w.tape
  output : w'.output = w.output
  size : w.heap.size ≤ w'.heap.size
  block : ∀ k, k < w.heap.size → k ≠ g → k ≠ q → w'.heap[k]? = w.heap[k]?
theorem But.below {g q B0 : Nat} {w0 w w' : World} (h : But g q w w') (hb : Below B0 w0 w) (h1 : B0 ≤ g) (h2 : B0 ≤ q) (h3 : B0 ≤ w.heap.size) : Below B0 w0 w' :=
  hb.trans ⟨h.os, h.tape, h.output, h.size, fun k hk => h.block k (by omega) (by omega) (by omega)⟩
theorem But.map {g q b n : Nat} {w w' : World} {P : Program} {k : TypeId} {R : Value → Option (DataW Unit × List MemPlace)} {D : DataW Unit} (h : But g q w w') (hm : w.ownsMap P k R b n D) (h1 : b ≠ g) (h2 : b ≠ q) : w'.ownsMap P k R b n D := by
  have hlt := hm.lt
  obtain ⟨es, ck, e1, F, e2, e3⟩ := hm
  exact ⟨es, ck, (h.block b hlt h1 h2).trans e1, F, e2, e3⟩
set_option maxHeartbeats 1000000 in
set_option maxRecDepth 100000 in
theorem add_any {gp : Nat} {rs : List Nat} {w : World} {B g n c : Nat} {l : List (Int × Int)} (x y : Int) (h : BoxR gp rs w B g n c l) (hn : n ≤ 1000000000) :
    Calls Try.prog 63 #[.pointer (some ⟨gp, 0, none⟩), .int .i64 x, .int .i64 y] w fun e w' => e = .returned (.tuple #[]) ∧
      ∃ g' c', BoxR gp (rs ++ [w.heap.size]) w' B g' (n + 1) c' (l ++ [(x, y)]) ∧ But g gp w w' ∧ (g' = g ∨ w.heap.size ≤ g') := by
  obtain ⟨i0, hi, hz0, hz1, hz2⟩ := info_parts infoR
  have HI := Lib.hid (And.intro hi (And.intro hz0 (And.intro hz1 hz2)))
  clear hi hz0 hz1 hz2
  have hgp : gp < w.heap.size := (Array.getElem?_eq_some_iff.1 h.box).1
  have hg0 : g < w.heap.size := h.rows.hi
  have c0 := (block_cell h.box 0).trans rfl
  have hroom := h.rows.room
  have hBs : B ≤ w.heap.size := by have := h.rows.lo; omega
  obtain ⟨hb, hX, hY, hsz⟩ := twice w #[.int .i64 x, .int .i64 y] #[.slice (some ⟨w.heap.size, 0, none⟩) 2 2] 3 31
  have hnew : Items rowEnc 1 ((w.alloc (.cells #[.int .i64 x, .int .i64 y] 3)).alloc (.cells #[.slice (some ⟨w.heap.size, 0, none⟩) 2 2] 31)) (some ⟨w.heap.size + 1, 0, none⟩) 1 [w.heap.size] := by
    have := items_new rowEnc_len (w.alloc (.cells #[.int .i64 x, .int .i64 y] 3)) w.heap.size 31
    rw [World.size_alloc] at this
    exact this
  have H := Lib.hid h
  have HB := Lib.hid hb
  have HX := Lib.hid hX
  have HN := Lib.hid hnew
  have hsz2 : w.heap.size + 2 ≤ ((w.alloc (.cells #[.int .i64 x, .int .i64 y] 3)).alloc (.cells #[.slice (some ⟨w.heap.size, 0, none⟩) 2 2] 31)).heap.size := by omega
  have HSZ := Lib.hid hsz
  clear h hb hX hY hsz hnew
  have HR := Lib.hid (H.out.rows.own.same HB.out)
  go_enter Try.func63, Try.ntmps63
  go_wp2_with (at_builtin; refine wpl_app_rows rfl (.tmp 9) (.tmp 13) 76 rfl 31 i0 (.slice none 0 0) 24 Try.underlying76 HI.out.1 HI.out.2.1 HI.out.2.2.1 HI.out.2.2.2 rfl rfl HR.out rfl HN.out (by omega) ?c1 ?c2 ?_)
  case c1 => omega
  case c2 => omega
  intro g' c' w3 ho hg hg'
  have hb3 : w3.heap[gp]? = some (.cells #[.slice (some ⟨g, 0, none⟩) n c] 76 (0, 0)) := by
    have hne := H.out.ne
    rw [hg.block gp (by omega) (fun e => hne (Option.some.inj e)), HB.out.block gp hgp]
    exact H.out.box
  have d0 := (block_cell hb3 0).trans rfl
  have f0 := block_frozen hb3 0
  have HO := Lib.hid ho
  have HG := Lib.hid hg
  have HG' := Lib.hid hg'
  have HB3 := Lib.hid hb3
  clear ho hg hg' hb3 c0
  go_wp2_with fail
  go_returns
  have hwh : g' = g ∨ g' = ((w.alloc (.cells #[.int .i64 x, .int .i64 y] 3)).alloc (.cells #[.slice (some ⟨w.heap.size, 0, none⟩) 2 2] 31)).heap.size := by
    rw [HSZ.out]
    exact HG'.out
  have hszW := HSZ.out
  generalize (w.alloc (.cells #[.int .i64 x, .int .i64 y] 3)).alloc (.cells #[.slice (some ⟨w.heap.size, 0, none⟩) 2 2] 31) = W2 at *
  have hpush := ((H.out.rows.same HB.out).push (p := (x, y)) HX.out (by omega) (by omega) (fun q hq => (H.out.rows.out q hq).2.1) HO.out HG.out hwh)
  have hne := H.out.ne
  have hgg : gp ≠ g' := by
    rcases hwh with e | e <;> omega
  have hgs := HG.out.size
  have hset : w3.grownBy (w3.setCell ⟨gp, 0, none⟩ (.slice (some ⟨g', 0, none⟩) (n + 1 : Nat) c')) (some gp) := put_grown w3 gp 0 _
  have hnin : gp ∉ rs ++ [w.heap.size] := by
    intro hm
    rcases List.mem_append.1 hm with h1 | h1
    · exact H.out.nin h1
    · have : gp = w.heap.size := by simpa using h1
      omega
  refine ⟨rfl, g', c', ⟨heap_setCell_same w3 gp 0 _ _ _ HB3.out, ?_, hgg, hnin, H.out.lo⟩, ⟨?_, ?_, ?_, ?_, fun k hk h1 h2 => ?_⟩, ?_⟩
  · have := hpush.other hset hgg hnin
    rw [World.size_setCell]
    exact this
  · exact hset.os.trans (HG.out.os.trans HB.out.os)
  · exact hset.tape.trans (HG.out.tape.trans HB.out.tape)
  · exact hset.output.trans (HG.out.output.trans HB.out.output)
  · rw [World.size_setCell]; omega
  · rw [hset.block k (by omega) (fun e => h2 (Option.some.inj e)), HG.out.block k (by omega) (fun e => h1 (Option.some.inj e)), HB.out.block k hk]
  · rcases hwh with e | e
    · exact Or.inl e
    · exact Or.inr (by omega)
set_option maxRecDepth 100000 in
theorem addTurned_any {gp : Nat} {rs : List Nat} {w : World} {B g n c : Nat} {l : List (Int × Int)} (y x : Int) (h : BoxR gp rs w B g n c l) (hn : n ≤ 1000000000) :
    Calls Try.prog 64 #[.pointer (some ⟨gp, 0, none⟩), .int .i64 y, .int .i64 x] w fun e w' => e = .returned (.tuple #[]) ∧
      ∃ g' c', BoxR gp (rs ++ [w.heap.size]) w' B g' (n + 1) c' (l ++ [(x, y)]) ∧ But g gp w w' ∧ (g' = g ∨ w.heap.size ≤ g') := by
  have HA := Lib.hid (add_any x y h hn)
  clear h
  go_enter Try.func64, Try.ntmps64
  go_wp2_with fail
  refine HA.out.mono ?_
  rintro e w' ⟨rfl, hh⟩
  have HH := Lib.hid hh
  clear hh
  go_wp2_with fail
  go_returns
  exact ⟨rfl, HH.out⟩
end Go.Proofs.Ytckmgbobkffabaa
