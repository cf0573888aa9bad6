/- Slices of integers: what a walk is told of one that is read, and of one that the call itself has made. No function of the program is spoken of. Plain mathematics of varints: groups of seven bits, least significant first; what is written is read, and what is read is what is written. No condition beyond those written in each statement. How a slice of integers among the arguments is read. The cursor from which the inputs of the laws are drawn: what its steps return and leave; a number out of a list. -/
import Derived.Test.YtcpnchjgklemgaaRows
import Derived.WalkKit
import Derived.ProofKit
import Derived.OpenShut
import Derived.Lib.Hide
import Derived.Maps.AppendAt
import Derived.Deep.AppendLies
import Derived.OwnWalk
import Derived.Laws.OwnMore
import Derived.Lib.SmallJoins
import Derived.Below
import Derived.Laws.BitsLemmas
import Derived.Deep.RegionHeld
import Derived.Deep.QuietTactic
import Derived.BigQuiet
import Derived.RegionTactic
namespace Go.Proofs.Ytcpnchjgklemgaa
open Go.ChangeShapes Go.WideShapes Go.ChangeAt Go.RowKit
set_option linter.unusedVariables false

theorem addr_block (ad : Addr) (j : Nat) : (ad.add j).block = ad.block := by unfold Addr.add; split <;> rfl
theorem addr_add (ad : Addr) (i j : Nat) : (ad.add i).add j = ad.add (i + j) := by
  cases ad
  unfold Addr.add
  by_cases hi : i = 0 <;> by_cases hj : j = 0 <;> simp [hi, hj, Nat.add_assoc]
theorem cell_in {w : World} {p : Addr} {v : Value} (h : w.cell? p = some v) : p.block < w.heap.size := by
  rcases Nat.lt_or_ge p.block w.heap.size with h1 | h1
  · exact h1
  · unfold World.cell? at h
    rw [Array.getElem?_eq_none h1] at h
    cases h

theorem cell_stay {w w' : World} {p : Addr} {v : Value} (h : w.cell? p = some v) (hb : Below w.heap.size w w') : w'.cell? p = some v := by rw [hb.cell (cell_in h)]; exact h
/-- From a on lie n integers of kind k: the list l. -/
structure Nums (k : IntKind) (w : World) (a : Option Addr) (n : Nat) (l : List Int) : Prop where
  len : l.length = n
  fits : (n : Int) ≤ 9223372036854775807
  cell : ∀ j, j < n → ∃ ad, a = some ad ∧ w.cell? (ad.add j) = some (.int k (l.getD j 0))
theorem Nums.none {k : IntKind} {w : World} {a : Option Addr} : Nums k w a 0 [] := ⟨rfl, by omega, fun j h => absurd h (by omega)⟩
theorem Nums.same {k : IntKind} {w w' : World} {a : Option Addr} {n : Nat} {l : List Int} (h : Nums k w a n l) (hb : Below w.heap.size w w') : Nums k w' a n l :=
  ⟨h.len, h.fits, fun j hj => by
    obtain ⟨ad, e, hx⟩ := h.cell j hj
    exact ⟨ad, e, by rw [hb.cell (cell_in hx)]; exact hx⟩⟩
theorem Nums.at_ {k : IntKind} {w : World} {a : Option Addr} {n : Nat} {l : List Int} (h : Nums k w a n l) {j : Nat} (hj : j < n) : ∃ ad x, a = some ad ∧ l[j]? = some x ∧ w.cell? (ad.add j) = some (.int k x) := by
  obtain ⟨ad, e, hx⟩ := h.cell j hj
  have hl : j < l.length := by rw [h.len]; exact hj
  exact ⟨ad, _, e, by rw [List.getD, List.getElem?_eq_getElem hl]; rfl, hx⟩
/-- The elements of a list that lie from place i on, m of them. -/
theorem Nums.sub {k : IntKind} {w : World} {a : Option Addr} {n : Nat} {l : List Int} (h : Nums k w a n l) (i m : Nat) (hi : i + m ≤ n) {b : Option Addr} (hb : 0 < m → ∀ ad, a = some ad → b = some (ad.add i)) : Nums k w b m ((l.drop i).take m) := by
  refine ⟨by rw [List.length_take, List.length_drop, h.len]; omega, by have := h.fits; omega, fun j hj => ?_⟩
  obtain ⟨ad, e, hx⟩ := h.cell (i + j) (by omega)
  refine ⟨ad.add i, hb (by omega) ad e, ?_⟩
  rw [addr_add, hx]
  simp [List.getD, hj]

/-- The slice is the call's own, in a block from B on; it holds l. -/
def Own (k : IntKind) (t : TypeId) (w : World) (B : Nat) (a : Option Addr) (n c : Nat) (l : List Int) : Prop :=
  l.length = n ∧ w.ownsRow B t 1 (.slice a n c) n (l.map (Value.int k))
/-- The blocks in which a slice may lie. -/
def Span (a : Option Addr) (lo hi : Nat) : Prop := ∀ ad, a = some ad → lo ≤ ad.block ∧ ad.block < hi
theorem Span.none {lo hi : Nat} : Span none lo hi := fun _ h => by cases h
theorem Span.mono {a : Option Addr} {lo hi lo' hi' : Nat} (h : Span a lo hi) (h0 : lo' ≤ lo) (h1 : hi ≤ hi') : Span a lo' hi' := fun ad e => ⟨Nat.le_trans h0 (h ad e).1, Nat.lt_of_lt_of_le (h ad e).2 h1⟩

section
variable {k : IntKind} {t : TypeId} {w w' : World} {B n c : Nat} {a : Option Addr} {l : List Int}
theorem Own.len (h : Own k t w B a n c l) : l.length = n := h.1
theorem Own.row (h : Own k t w B a n c l) : w.ownsRow B t 1 (.slice a n c) n (l.map (Value.int k)) := h.2
theorem Own.room (h : Own k t w B a n c l) : n ≤ c ∧ (c : Int) ≤ 9223372036854775807 := by
  rcases h.2.2 with ⟨h1, h2⟩ | ⟨g, cap, cur, h1, _, _, h2, h3, _⟩
  · injection h1 with h3 h4 h5
    subst h5
    subst h2
    exact ⟨Nat.le_refl _, by omega⟩
  · injection h1 with h4 h5 h6
    subst h6
    unfold maxLen at h3
    exact ⟨h2, by omega⟩
theorem Own.span (h : Own k t w B a n c l) : Span a B w.heap.size := by
  intro ad e
  subst e
  exact h.2.lt ad.block rfl
theorem Own.head (h : Own k t w B a n c l) (hn : 0 < n) : ∃ g, a = some ⟨g, 0, none⟩ ∧ B ≤ g ∧ g < w.heap.size := by
  obtain ⟨g, cap, e, h1, h2⟩ := h.2.form hn
  injection e with e1 e2 e3
  exact ⟨g, e1, h1, h2⟩
theorem Own.nums (h : Own k t w B a n c l) : Nums k w a n l := by
  refine ⟨h.1, by have := h.room; omega, fun j hj => ?_⟩
  obtain ⟨g, e, _, _⟩ := h.head (by omega)
  subst e
  have hl : j < l.length := by rw [h.1]; exact hj
  refine ⟨_, rfl, h.2.cells (g := g) rfl j _ ?_⟩
  rw [List.getElem?_map, List.getElem?_eq_getElem hl]
  simp [List.getD, List.getElem?_eq_getElem hl]
theorem grown_below (hb : Below w.heap.size w w') (row : Option Nat) : w.grownBy w' row := ⟨hb.os, hb.tape, hb.output, hb.size, fun i hi _ => hb.block i hi⟩
theorem Own.same (h : Own k t w B a n c l) (hb : Below w.heap.size w w') : Own k t w' B a n c l := by
  cases a with
  | none => exact ⟨h.1, h.2.kept (grown_below hb none) (Or.inl rfl)⟩
  | some ad => exact ⟨h.1, h.2.kept (grown_below hb none) (Or.inr (by simp [Value.ownBlock]))⟩
/-- A write to a slice that lies in other blocks. -/
theorem Own.apart {b : Option Addr} {m d lo hi lo' hi' : Nat} (h : Own k t w B a n c l) (hg : w.grownBy w' (Value.ownBlock (.slice b m d))) (s : Span a lo hi) (s' : Span b lo' hi') (hd : hi ≤ lo' ∨ hi' ≤ lo) : Own k t w' B a n c l := by
  cases a with
  | none => exact ⟨h.1, h.2.kept hg (Or.inl rfl)⟩
  | some ad =>
    refine ⟨h.1, h.2.kept hg (Or.inr ?_)⟩
    have h1 := s ad rfl
    cases b with
    | none => simp [Value.ownBlock]
    | some be =>
      have h2 := s' be rfl
      simp only [Value.ownBlock, ne_eq, Option.some.injEq]
      omega
theorem Own.lower (h : Own k t w B a n c l) {B' : Nat} (hB : B' ≤ B) : Own k t w B' a n c l := by
  refine ⟨h.1, h.2.1, ?_⟩
  rcases h.2.2 with h1 | ⟨g, cap, cur, h1, h2, h3⟩
  · exact Or.inl h1
  · exact Or.inr ⟨g, cap, cur, h1, Nat.le_trans hB h2, h3⟩
theorem Own.nil : Own k t w B none 0 0 [] := ⟨rfl, World.ownsRow_nil _ _ _ _⟩
theorem Own.empty (hB : B ≤ w.heap.size) : Own k t (w.alloc (.cells #[] t)) B (some ⟨w.heap.size, 0, none⟩) 0 0 [] :=
  ⟨rfl, World.ownsRow_lit w #[] 0 hB (by unfold maxLen; omega) rfl⟩
theorem Own.alloc (h : Own k t w B a n c l) (o : Obj) : Own k t (w.alloc o) B a n c l := ⟨h.1, h.2.alloc o⟩
theorem alloc_same (w : World) (o : Obj) : Below w.heap.size w (w.alloc o) := (Below.refl _ w).alloc (Nat.le_refl _) o
theorem drewN_same (w : World) (q : Nat) : Below w.heap.size w (w.drewN q) := ⟨rfl, rfl, rfl, Nat.le_refl _, fun _ _ => rfl⟩
theorem nums_new (w : World) (k : IntKind) (x : Int) (t : TypeId) : Nums k (w.alloc (.cells #[.int k x] t)) (some ⟨w.heap.size, 0, none⟩) 1 [x] :=
  ⟨rfl, by omega, fun j hj => ⟨_, rfl, by
    obtain rfl : j = 0 := by omega
    exact cell_one_new w (.int k x) t 0 _ rfl⟩⟩
theorem grown_to {b : Option Addr} {m d : Nat} (hg : w.grownBy w' (Value.ownBlock (.slice b m d))) {B0 lo hi : Nat} {w0 : World} (h : Below B0 w0 w) (s : Span b lo hi) (h0 : B0 ≤ lo) (h1 : B0 ≤ w.heap.size) : Below B0 w0 w' := by
  refine h.grown hg h1 fun j e => ?_
  cases b with
  | none => simp [Value.ownBlock] at e
  | some be =>
    have := s be rfl
    simp only [Value.ownBlock, Option.some.injEq] at e
    omega
end

/-- What a function leaves that makes a slice of integers. -/
def Made (k : IntKind) (t : TypeId) (B : Nat) (l : List Int) (w : World) (e : Ending) (w' : World) : Prop :=
  ∃ a n c, e = .returned (.slice a n c) ∧ Own k t w' B a n c l ∧ Below B w w'
/-- What a function leaves that only reads, or makes memory that it does not hand back. -/
def Told (v : Value) (w : World) (e : Ending) (w' : World) : Prop := e = .returned v ∧ Below w.heap.size w w'

section
variable {P : Program} (w : World)
theorem run_app_nothing (B : Nat) (t ty e : TypeId) (i : TypeInfo) (ht : P.underlying t = some (.slice e)) (hi : P.info? e = some i) {v : Value} {n : Nat} {xs : List Value} (hown : w.ownsRow B e 1 v n xs) (d : Nat) :
    (Builtin.append_ #[t, t] ty #[v, .slice none 0 d]).run P w = .ok v w := by
  rcases hown.2 with ⟨rfl, rfl⟩ | ⟨g, cap, cur, rfl, _, _, hle, _⟩
  · simp [Builtin.append_, run_underlying ht, sizeOf, typeInfo, hi, Builtin.lenOf, Builtin.firstCells]
  · simp [Builtin.append_, run_underlying ht, sizeOf, typeInfo, hi, Builtin.lenOf, Builtin.firstCells, hle, storeCells]
/-- Integers are appended to a slice of the call's own, wherever they lie. -/
theorem run_app {k : IntKind} (t ty e : TypeId) (i : TypeInfo) (z : Value) (bytes : Nat) (ht : P.underlying t = some (.slice e)) (hi : P.info? e = some i) (hz : i.zero = some z) (hsize : i.size = 1) (hby : i.bytes = bytes) (hzs : z.cells.size = 1)
    {B n c m d : Nat} {a b : Option Addr} {l l' : List Int} (ho : Own k e w B a n c l) (hs : Nums k w b m l') (hbytes : (n + m) * bytes ≤ 140737488355328) (h63 : n + m ≤ maxLen) (hB : B ≤ w.heap.size) :
    ∃ a' c' w', (Builtin.append_ #[t, t] ty #[.slice a n c, .slice b m d]).run P w = .ok (.slice a' (n + m) c') w' ∧ Own k e w' B a' (n + m) c' (l ++ l') ∧ Below B w w' := by
  have hsp := ho.span
  rcases b with _ | ad
  · obtain rfl : m = 0 := by
      rcases Nat.eq_zero_or_pos m with h0 | h0
      · exact h0
      · obtain ⟨ad, h, _⟩ := hs.cell 0 h0
        cases h
    obtain rfl : l' = [] := List.eq_nil_of_length_eq_zero hs.len
    exact ⟨a, c, w, run_app_nothing w B t ty e i ht hi ho.2 d, by simpa using ho, Below.refl _ _⟩
  · obtain ⟨v', w', hr, h2, h3, _, _⟩ := run_append_own_at (P := P) w B t ty e i z 1 bytes ht hi hz hsize hby hzs (by omega) (.slice a n c) n (l.map (Value.int k)) ho.2 ad m d (l'.map (Value.int k)) (by simp [hs.len]) (fun j u hu => by
      have hj : j < m := by
        rcases Nat.lt_or_ge j m with h | h
        · exact h
        · rw [List.getElem?_eq_none (by simp [hs.len]; exact h)] at hu; cases hu
      obtain ⟨ad', e', hx⟩ := hs.cell j hj
      cases e'
      have hl : j < l'.length := by rw [hs.len]; exact hj
      rw [List.getElem?_map, List.getElem?_eq_getElem hl] at hu
      cases hu
      rw [hx]
      simp [List.getD, List.getElem?_eq_getElem hl]) (ints_oneCell k l') h63 hbytes hB
    rw [← List.map_append] at h2
    have hbw : Below B w w' := grown_to h3 (Below.refl B w) hsp (Nat.le_refl _) hB
    rcases h2.2 with ⟨rfl, hn⟩ | ⟨g, cap, cur, rfl, hrest⟩
    · exact ⟨none, 0, w', by rw [hn]; exact hr, by rw [hn] at h2 ⊢; exact ⟨by have := h2.1; simpa using this, h2⟩, hbw⟩
    · exact ⟨_, cap, w', hr, ⟨by have := ho.len; have := hs.len; simp; omega, h2⟩, hbw⟩
theorem wpl_app {ops : Array Oper} {rest : List Oper} {o : Oper} {act : Act} {Q : Exit → Act → World → Prop} (hgd : o.guard = none) (s x : Operand) (t : TypeId)
    (ho : o.op = .call { callee := .builtin .append, args := #[s, x], argTypes := #[t, t] })
    (k : IntKind) (e : TypeId) (i : TypeInfo) (z : Value) (bytes : Nat) (ht : P.underlying t = some (.slice e)) (hi : P.info? e = some i) (hz : i.zero = some z) (hsize : i.size = 1) (hby : i.bytes = bytes) (hzs : z.cells.size = 1)
    {B n c m d : Nat} {a b : Option Addr} {l l' : List Int} (hs : act.eval s = .slice a n c) (hown : Own k e w B a n c l) (hx : act.eval x = .slice b m d) (hnew : Nums k w b m l')
    (hb1 : 0 < bytes) (hbytes : (n + m) * bytes ≤ 140737488355328) (hB : B ≤ w.heap.size)
    (h : ∀ a' c' w', Own k e w' B a' (n + m) c' (l ++ l') → Below B w w' → wpList P ops Q rest (act.put o.dst (.slice a' (n + m) c')) w') : wpList P ops Q (o :: rest) act w := by
  refine wpList_plain hgd fun K hK => ?_
  have h63 : n + m ≤ maxLen := by
    have := Nat.mul_le_mul_left (n + m) hb1
    unfold maxLen
    omega
  obtain ⟨a', c', w', hr, h2, h3⟩ := run_app (P := P) (d := d) w t o.type e i z bytes ht hi hz hsize hby hzs hown hnew hbytes h63 hB
  unfold Oper.wp execOp
  simp only [ho, resolve, invoke, builtin, Sem.run_bind, Sem.run_pure, Result.andThen_ok, List.map_toArray, List.map_cons, List.map_nil, hs, hx, hr]
  exact hK _ _ (h a' c' w' h2 h3)
end
end Go.Proofs.Ytcpnchjgklemgaa
namespace Go.Proofs.Ytcpnchjgklemgaa

/-- The groups of a number, as bytes. -/
def uv (n : Nat) : List Int := if n < 128 then [(n : Int)] else ((n % 128 + 128 : Nat) : Int) :: uv (n / 128)
termination_by n
decreasing_by omega
theorem uv_small {n : Nat} (h : n < 128) : uv n = [(n : Int)] := by rw [uv, if_pos h]
theorem uv_big {n : Nat} (h : 128 ≤ n) : uv n = ((n % 128 + 128 : Nat) : Int) :: uv (n / 128) := by rw [uv, if_neg (by omega)]
theorem uv_pos (n : Nat) : 1 ≤ (uv n).length := by
  by_cases h : n < 128
  · rw [uv_small h]; simp
  · rw [uv_big (by omega)]; simp
theorem uv_len : ∀ (j n : Nat), 1 ≤ j → n < 128 ^ j → (uv n).length ≤ j
  | 0, _, h, _ => absurd h (by omega)
  | 1, n, _, h => by rw [uv_small (by simpa using h)]; simp
  | j + 2, n, _, h => by
    by_cases h1 : n < 128
    · rw [uv_small h1]; simp
    · rw [uv_big (by omega), List.length_cons]
      have := uv_len (j + 1) (n / 128) (by omega) (by rw [Nat.pow_succ] at h; omega)
      omega
theorem uv_len6 (n : Nat) (h : n ≤ 1000000000000) : (uv n).length ≤ 6 := uv_len 6 n (by omega) (by omega)
/-- A list of bytes. -/
def Bs (l : List Int) : Prop := ∀ x ∈ l, 0 ≤ x ∧ x ≤ 255
theorem Bs.nil : Bs [] := fun _ h => by cases h
theorem Bs.cons {x : Int} {l : List Int} (h0 : 0 ≤ x) (h1 : x ≤ 255) (h : Bs l) : Bs (x :: l) := fun y hy => by
  rcases List.mem_cons.1 hy with rfl | hy
  · exact ⟨h0, h1⟩
  · exact h y hy
theorem Bs.append {l m : List Int} (h : Bs l) (k : Bs m) : Bs (l ++ m) := fun y hy => by
  rcases List.mem_append.1 hy with hy | hy
  · exact h y hy
  · exact k y hy
theorem Bs.drop {l : List Int} (h : Bs l) (k : Nat) : Bs (l.drop k) := fun y hy => h y (List.mem_of_mem_drop hy)
theorem Bs.take {l : List Int} (h : Bs l) (k : Nat) : Bs (l.take k) := fun y hy => h y (List.mem_of_mem_take hy)
theorem uv_bs (n : Nat) : Bs (uv n) := by
  induction n using Nat.strongRecOn with
  | _ n ih =>
    by_cases h : n < 128
    · rw [uv_small h]; exact Bs.cons (by omega) (by omega) Bs.nil
    · rw [uv_big (by omega)]; exact Bs.cons (by omega) (by omega) (ih (n / 128) (by omega))

/-- What is appended for a number: nothing where it is out of range. -/
def enc (n : Int) : List Int := if 0 ≤ n ∧ n ≤ 1000000000000 then uv n.toNat else []
theorem enc_in {n : Int} (h0 : 0 ≤ n) (h1 : n ≤ 1000000000000) : enc n = uv n.toNat := if_pos ⟨h0, h1⟩
theorem enc_out {n : Int} (h : ¬ (0 ≤ n ∧ n ≤ 1000000000000)) : enc n = [] := if_neg h
theorem enc_bs (n : Int) : Bs (enc n) := by
  unfold enc
  split
  · exact uv_bs _
  · exact Bs.nil
theorem enc_len (n : Int) : (enc n).length ≤ 6 := by
  unfold enc
  split
  · exact uv_len6 _ (by omega)
  · simp

/-- A varint is read: k groups have been read before, n is their number. -/
def rdv (k : Nat) (n : Int) : List Int → Option (Int × Nat)
  | [] => none
  | x :: t => if 6 ≤ k then none else if 128 ≤ x then rdv (k + 1) (n + (x - 128) * 128 ^ k) t
      else if (x = 0 ∧ 0 < k) ∨ 1000000000000 < n + x * 128 ^ k then none else some (n + x * 128 ^ k, k + 1)
theorem rdv_six (k : Nat) (n : Int) (l : List Int) (h : 6 ≤ k) : rdv k n l = none := by
  cases l with
  | nil => rfl
  | cons x t => rw [rdv, if_pos h]
theorem rdv_more {k : Nat} {n x : Int} {t : List Int} (h : k < 6) (hx : 128 ≤ x) : rdv k n (x :: t) = rdv (k + 1) (n + (x - 128) * 128 ^ k) t := by rw [rdv, if_neg (by omega), if_pos hx]
theorem rdv_bad {k : Nat} {n x : Int} {t : List Int} (h : k < 6) (hx : x < 128) (hb : (x = 0 ∧ 0 < k) ∨ 1000000000000 < n + x * 128 ^ k) : rdv k n (x :: t) = none := by rw [rdv, if_neg (by omega), if_neg (by omega), if_pos hb]
theorem rdv_good {k : Nat} {n x : Int} {t : List Int} (h : k < 6) (hx : x < 128) (hb : ¬ ((x = 0 ∧ 0 < k) ∨ 1000000000000 < n + x * 128 ^ k)) : rdv k n (x :: t) = some (n + x * 128 ^ k, k + 1) := by rw [rdv, if_neg (by omega), if_neg (by omega), if_neg hb]

theorem group_sum (n p : Int) (m : Nat) : n + (((m % 128 + 128 : Nat) : Int) - 128) * p + ((m / 128 : Nat) : Int) * (p * 128) = n + (m : Int) * p := by
  have h : (m : Int) = ((m % 128 : Nat) : Int) + 128 * ((m / 128 : Nat) : Int) := by omega
  have h2 : (((m % 128 + 128 : Nat) : Int) - 128) = ((m % 128 : Nat) : Int) := by omega
  rw [h2]
  generalize ((m % 128 : Nat) : Int) = r at *
  generalize ((m / 128 : Nat) : Int) = q at *
  rw [h, Int.add_mul, Int.mul_comm p 128, ← Int.mul_assoc q 128 p, Int.mul_comm q 128]
  omega

theorem rdv_uv (m : Nat) : ∀ (k : Nat) (n : Int) (t : List Int), (0 < k → 1 ≤ m) → k + (uv m).length ≤ 6 → n + (m : Int) * 128 ^ k ≤ 1000000000000 →
    rdv k n (uv m ++ t) = some (n + (m : Int) * 128 ^ k, k + (uv m).length) := by
  induction m using Nat.strongRecOn with
  | _ m ih =>
    intro k n t hk hl hn
    by_cases h : m < 128
    · rw [uv_small h] at hl ⊢
      simp only [List.length_singleton] at hl ⊢
      show rdv k n ((m : Int) :: t) = _
      exact rdv_good (by omega) (by omega) (by
        rintro (⟨h1, h2⟩ | h1)
        · have := hk h2; omega
        · omega)
    · rw [uv_big (by omega)] at hl ⊢
      simp only [List.length_cons] at hl ⊢
      have hs := group_sum n (128 ^ k) m
      rw [← Int.pow_succ] at hs
      show rdv k n (((m % 128 + 128 : Nat) : Int) :: (uv (m / 128) ++ t)) = _
      rw [rdv_more (by omega) (by omega), ih (m / 128) (by omega) (k + 1) _ t (fun _ => by omega) (by omega) (by rw [hs]; exact hn), hs]
      congr 2
      omega

theorem uv_of_rdv : ∀ (l : List Int) (k : Nat) (n m : Int) (j : Nat), Bs l → rdv k n l = some (m, j) →
    ∃ r : Nat, m = n + (r : Int) * 128 ^ k ∧ j = k + (uv r).length ∧ l.take (uv r).length = uv r ∧ (uv r).length ≤ l.length ∧ (0 < k → 1 ≤ r) ∧ m ≤ 1000000000000
  | [], k, n, m, j, _, h => by cases h
  | x :: t, k, n, m, j, hb, h => by
    have hx := hb x (by simp)
    by_cases h6 : 6 ≤ k
    · rw [rdv_six _ _ _ h6] at h; cases h
    · by_cases h1 : 128 ≤ x
      · rw [rdv_more (by omega) h1] at h
        obtain ⟨r, hm, hj, ht, hlen, hr, hmax⟩ := uv_of_rdv t (k + 1) _ m j (fun y hy => hb y (by simp [hy])) h
        have hr1 := hr (by omega)
        refine ⟨(x - 128).toNat + 128 * r, ?_, ?_, ?_, ?_, fun _ => by omega, hmax⟩
        · have hs := group_sum n (128 ^ k) ((x - 128).toNat + 128 * r)
          rw [show ((x - 128).toNat + 128 * r) / 128 = r by omega, show ((((x - 128).toNat + 128 * r) % 128 + 128 : Nat) : Int) - 128 = x - 128 by omega, ← Int.pow_succ] at hs
          rw [hm, hs]
        all_goals
          rw [uv_big (n := (x - 128).toNat + 128 * r) (by omega), show ((x - 128).toNat + 128 * r) / 128 = r by omega]
          simp only [List.length_cons]
        · omega
        · rw [List.take_succ_cons, ht]
          congr 1
          omega
        · omega
      · by_cases hbad : (x = 0 ∧ 0 < k) ∨ 1000000000000 < n + x * 128 ^ k
        · rw [rdv_bad (by omega) (by omega) hbad] at h; cases h
        · rw [rdv_good (by omega) (by omega) hbad] at h
          injection h with h
          injection h with h2 h3
          refine ⟨x.toNat, ?_, ?_, ?_, ?_, fun hk => ?_, by rw [← h2]; omega⟩
          · rw [show ((x.toNat : Nat) : Int) = x by omega, h2]
          all_goals try rw [uv_small (n := x.toNat) (by omega)]
          · rw [← h3]; rfl
          · show [x] = _
            congr 1
            omega
          · simp
          · omega

/-- The varint at a place: its number and the place behind it. -/
def rd (l : List Int) (off : Int) : Option (Int × Nat) := if 0 ≤ off ∧ off ≤ l.length then (rdv 0 0 (l.drop off.toNat)).map fun p => (p.1, off.toNat + p.2) else none
theorem rd_out {l : List Int} {off : Int} (h : ¬ (0 ≤ off ∧ off ≤ l.length)) : rd l off = none := if_neg h
theorem rd_end (l : List Int) : rd l l.length = none := by
  unfold rd
  rw [if_pos ⟨by omega, by omega⟩]
  simp [rdv]
theorem rd_none {l : List Int} {off : Nat} (h : rdv 0 0 (l.drop off) = none) : rd l off = none := by
  unfold rd
  split
  · rw [show ((off : Int)).toNat = off by omega, h]; rfl
  · rfl
theorem rd_some {l : List Int} {off : Nat} {m : Int} {j : Nat} (h0 : off ≤ l.length) (h : rdv 0 0 (l.drop off) = some (m, j)) : rd l off = some (m, off + j) := by
  unfold rd
  rw [if_pos ⟨by omega, by omega⟩, show ((off : Int)).toNat = off by omega, h]; rfl
/-- What is read is what is written. -/
theorem rd_facts {l : List Int} {off : Int} {m : Int} {j : Nat} (hb : Bs l) (h : rd l off = some (m, j)) :
    0 ≤ off ∧ off < j ∧ j ≤ l.length ∧ 0 ≤ m ∧ m ≤ 1000000000000 ∧ (l.drop off.toNat).take (j - off.toNat) = enc m ∧ (enc m).length = j - off.toNat := by
  unfold rd at h
  split at h
  · rename_i h0
    rw [Option.map_eq_some_iff] at h
    obtain ⟨⟨m', j'⟩, h1, h2⟩ := h
    injection h2 with h2 h3
    simp only at h2 h3
    subst h2
    obtain ⟨r, hm, hj, ht, hlen, _, hmax⟩ := uv_of_rdv _ 0 0 m' j' (hb.drop _) h1
    have hp := uv_pos r
    have hmr : m' = r := by rw [hm]; simp
    rw [List.length_drop] at hlen
    have he : enc m' = uv r := by rw [enc_in (by omega) hmax, show m'.toNat = r by omega]
    rw [he, show j - off.toNat = (uv r).length by omega]
    exact ⟨h0.1, by omega, by omega, by omega, hmax, ht, rfl⟩
  · cases h
/-- What is written is read. -/
theorem rd_enc (l t : List Int) (m : Int) (h0 : 0 ≤ m) (h1 : m ≤ 1000000000000) : rd (l ++ (enc m ++ t)) l.length = some (m, l.length + (enc m).length) := by
  rw [enc_in h0 h1]
  refine rd_some (by simp) ?_
  rw [List.drop_left]
  have h := rdv_uv m.toNat 0 0 t (fun h => by omega) (by have := uv_len6 m.toNat (by omega); omega) (by simp; omega)
  rw [h]
  simp
  omega

/-- A byte string at a place. -/
def rdBytes (l : List Int) (off most : Int) : Option (List Int × Nat) :=
  match rd l off with
  | none => none
  | some (n, j) => if n ≤ most ∧ n ≤ l.length - j then some ((l.drop j).take n.toNat, j + n.toNat) else none
theorem rdBytes_none {l : List Int} {off most : Int} (h : rd l off = none) : rdBytes l off most = none := by unfold rdBytes; rw [h]
theorem rdBytes_no {l : List Int} {off most n : Int} {j : Nat} (h : rd l off = some (n, j)) (hn : ¬ (n ≤ most ∧ n ≤ l.length - j)) : rdBytes l off most = none := by
  unfold rdBytes
  rw [h]
  exact if_neg hn
theorem rdBytes_yes {l : List Int} {off most n : Int} {j : Nat} (h : rd l off = some (n, j)) (hn : n ≤ most ∧ n ≤ l.length - j) : rdBytes l off most = some ((l.drop j).take n.toNat, j + n.toNat) := by
  unfold rdBytes
  rw [h]
  exact if_pos hn

/-- The varints of a list of numbers, one behind the other. -/
def encs (zs : List Int) : List Int := zs.flatMap enc
theorem encs_nil : encs [] = [] := rfl
theorem encs_snoc (zs : List Int) (z : Int) : encs (zs ++ [z]) = encs zs ++ enc z := by unfold encs; rw [List.flatMap_append]; simp
theorem encs_bs (zs : List Int) : Bs (encs zs) := by
  intro x hx
  unfold encs at hx
  rw [List.mem_flatMap] at hx
  obtain ⟨z, _, hz⟩ := hx
  exact enc_bs z x hz
theorem encs_len (zs : List Int) : (encs zs).length ≤ 6 * zs.length := by
  induction zs with
  | nil => simp [encs]
  | cons z zs ih =>
    have : encs (z :: zs) = enc z ++ encs zs := by unfold encs; simp
    rw [this, List.length_append, List.length_cons]
    have := enc_len z
    omega

/-- The numbers that are read in k rounds from a place on, and the place behind them. -/
def decK (l : List Int) (off : Int) : Nat → Option (List Int × Int)
  | 0 => some ([], off)
  | k + 1 => match decK l off k with
    | none => none
    | some (zs, o) => match rd l o with
      | none => none
      | some (n, j) => some (zs ++ [n], (j : Int))
theorem decK_zero (l : List Int) (off : Int) : decK l off 0 = some ([], off) := rfl
theorem decK_step {l : List Int} {off o : Int} {k : Nat} {zs : List Int} {n : Int} {j : Nat} (h : decK l off k = some (zs, o)) (hr : rd l o = some (n, j)) : decK l off (k + 1) = some (zs ++ [n], (j : Int)) := by
  rw [decK, h]; simp only; rw [hr]
theorem decK_stop {l : List Int} {off o : Int} {k : Nat} {zs : List Int} (h : decK l off k = some (zs, o)) (hr : rd l o = none) : decK l off (k + 1) = none := by
  rw [decK, h]; simp only; rw [hr]
theorem decK_none {l : List Int} {off : Int} {k m : Nat} (h : decK l off k = none) (hm : k ≤ m) : decK l off m = none := by
  obtain ⟨d, rfl⟩ : ∃ d, m = k + d := ⟨m - k, by omega⟩
  induction d with
  | zero => exact h
  | succ d ih => rw [show k + (d + 1) = (k + d) + 1 by omega, decK, ih (by omega)]
theorem decK_len {l : List Int} {off o : Int} {k : Nat} {zs : List Int} (h : decK l off k = some (zs, o)) : zs.length = k := by
  induction k generalizing zs o with
  | zero => rw [decK] at h; cases h; rfl
  | succ k ih =>
    rw [decK] at h
    split at h
    · cases h
    · rename_i zs' o' h'
      split at h
      · cases h
      · cases h
        simp [ih h']
theorem decK_at {l : List Int} {off o : Int} {k : Nat} {zs : List Int} (hb : Bs l) (h0 : 0 ≤ off) (h1 : off ≤ l.length) (h : decK l off k = some (zs, o)) : 0 ≤ o ∧ o ≤ l.length ∧ ∀ z ∈ zs, 0 ≤ z ∧ z ≤ 1000000000000 := by
  induction k generalizing zs o with
  | zero => rw [decK] at h; cases h; exact ⟨h0, h1, fun _ h => by cases h⟩
  | succ k ih =>
    rw [decK] at h
    split at h
    · cases h
    · rename_i zs' o' h'
      split at h
      · cases h
      · rename_i n j hr
        cases h
        have f := rd_facts hb hr
        refine ⟨by omega, by omega, fun z hz => ?_⟩
        rcases List.mem_append.1 hz with hz | hz
        · exact (ih h').2.2 z hz
        · simp at hz
          subst hz
          exact ⟨f.2.2.2.1, f.2.2.2.2.1⟩
/-- What is written is read, all of it; and nothing more is there. -/
theorem decK_encs (zs : List Int) (hz : ∀ z ∈ zs, 0 ≤ z ∧ z ≤ 1000000000000) : ∀ k, k ≤ zs.length → decK (encs zs) 0 k = some (zs.take k, ((encs (zs.take k)).length : Int)) := by
  intro k
  induction k with
  | zero => intro _; rfl
  | succ k ih =>
    intro hk
    have hlt : k < zs.length := by omega
    have hd : zs = zs.take k ++ (zs[k] :: zs.drop (k + 1)) := by rw [List.getElem_cons_drop, List.take_append_drop]
    have he : encs zs = encs (zs.take k) ++ (enc zs[k] ++ encs (zs.drop (k + 1))) := by
      conv => lhs; rw [hd]
      unfold encs
      rw [List.flatMap_append, List.flatMap_cons]
    have hzk := hz zs[k] (List.getElem_mem hlt)
    have hr := rd_enc (encs (zs.take k)) (encs (zs.drop (k + 1))) zs[k] hzk.1 hzk.2
    rw [← he] at hr
    rw [decK_step (ih (by omega)) hr, List.take_succ_eq_append_getElem hlt, encs_snoc, List.length_append]
theorem decK_all (zs : List Int) (hz : ∀ z ∈ zs, 0 ≤ z ∧ z ≤ 1000000000000) : decK (encs zs) 0 zs.length = some (zs, ((encs zs).length : Int)) := by
  have h := decK_encs zs hz zs.length (Nat.le_refl _)
  rwa [List.take_length] at h
theorem decK_more (zs : List Int) (hz : ∀ z ∈ zs, 0 ≤ z ∧ z ≤ 1000000000000) : decK (encs zs) 0 (zs.length + 1) = none := decK_stop (decK_all zs hz) (rd_end _)
end Go.Proofs.Ytcpnchjgklemgaa
namespace Go.Proofs.Ytcpnchjgklemgaa
open Go.ChangeShapes Go.WideShapes Go.ChangeAt Go.RowKit
set_option linter.unusedVariables false

theorem laidOut : laidOutB Try.prog = true := by kernel_rfl
set_option maxRecDepth 100000 in
theorem open_nums {k : IntKind} {T E : TypeId} (hT : Try.prog.underlying T = some (.slice E)) (hE : Try.prog.underlying E = some (.int k)) (hone : Try.prog.cellsOf E = 1) {H : Type} {enc : TypeId × Value → H} {W : World} {base : Nat} {v : Value} {d : DataW H} {p : List MemPlace}
    (hval : Value.okWide Try.prog W .any base T v) (h : DataW.Trod enc Try.prog W 0 (fun _ => true) true T v d p) :
    ∃ (a : Option Addr) (n c : Nat) (l : List Int), v = .slice a n c ∧ Nums k W a n l ∧ (∀ x ∈ l, (Lit.int k x).wf = true) ∧ n ≤ c ∧ (c : Int) ≤ 9223372036854775807 := by
  obtain ⟨a0, len, cap, rfl⟩ := okWide_slice hT hval
  obtain ⟨fuel, hf⟩ := h
  rcases open_ints hT hE hone hf with ⟨hcs, hx⟩ | ⟨a, len', cap', zs, hcs, _, hl, hm, hz, hx, hcell, hwz⟩
  · simp [Value.cells] at hcs
    obtain ⟨rfl, rfl, rfl⟩ := hcs
    exact ⟨none, 0, 0, [], rfl, Nums.none, (fun _ h => by cases h), Nat.le_refl _, by omega⟩
  · simp [Value.cells] at hcs
    obtain ⟨rfl, rfl, rfl⟩ := hcs
    have hlz : zs.length = cap := by simpa using hz
    unfold maxLen at hm
    refine ⟨some a, len, cap, zs.take len, rfl, ⟨by rw [List.length_take]; omega, by omega, fun j hj => ⟨a, rfl, ?_⟩⟩, fun x hx => hwz x (List.mem_of_mem_take hx), hl, by omega⟩
    rw [hcell j (by omega)]
    simp [List.getD, hj]
theorem bs_of_wf {l : List Int} (h : ∀ x ∈ l, (Lit.int .u8 x).wf = true) : Bs l := by
  intro x hx
  have := h x hx
  simp [Lit.wf, IntKind.min, IntKind.max, IntKind.signed, IntKind.bits] at this
  omega
theorem byte_cells : Try.prog.cellsOf 5 = 1 := by kernel_rfl
theorem int_cells : Try.prog.cellsOf 3 = 1 := by kernel_rfl
end Go.Proofs.Ytcpnchjgklemgaa
namespace Go.Proofs.Ytcpnchjgklemgaa
open Go.ChangeShapes Go.WideShapes Go.ChangeAt Go.RowKit
set_option linter.unusedVariables false

theorem and255 (n : Int) : bits .and .i64 n 255 = n % 256 := by
  have h : (BitVec.ofInt 64 255).toNat = 2 ^ 8 - 1 := by decide
  have key : (BitVec.ofInt 64 n &&& BitVec.ofInt 64 255).toNat = (n % ((2 ^ 64 : Nat) : Int)).toNat % 2 ^ 8 := by
    rw [BitVec.toNat_and, BitVec.toNat_ofInt, h, Nat.and_two_pow_sub_one_eq_mod]
  show IntKind.i64.wrap ((BitVec.ofInt 64 n &&& BitVec.ofInt 64 255).toNat : Nat) = n % 256
  rw [key, IntKind.wrap_i64]
  omega
theorem and30 (n : Int) : bits .and .i64 n 1073741823 = n % 1073741824 := by
  have h : (BitVec.ofInt 64 1073741823).toNat = 2 ^ 30 - 1 := by decide
  have key : (BitVec.ofInt 64 n &&& BitVec.ofInt 64 1073741823).toNat = (n % ((2 ^ 64 : Nat) : Int)).toNat % 2 ^ 30 := by
    rw [BitVec.toNat_and, BitVec.toNat_ofInt, h, Nat.and_two_pow_sub_one_eq_mod]
  show IntKind.i64.wrap ((BitVec.ofInt 64 n &&& BitVec.ofInt 64 1073741823).toNat : Nat) = n % 1073741824
  rw [key, IntKind.wrap_i64]
  omega

/-- Block b is a cursor over n bytes from a on; it stands at place i. -/
def CurAt (w : World) (b : Nat) (a : Option Addr) (n c : Nat) (i h : Int) : Prop :=
  w.heap[b]? = some (.cells #[.slice a n c, .int .i64 i, .int .i64 h] 117 (0, 0))
/-- The n bytes from a on. -/
def Bytes (w : World) (a : Option Addr) (n : Nat) : Prop := ∀ j, j < n → ∃ ad, a = some ad ∧ ∃ x : Int, 0 ≤ x ∧ x ≤ 255 ∧ w.cell? (ad.add j) = some (.int .u8 x)

theorem cur_cells {w : World} {b : Nat} {a : Option Addr} {n c : Nat} {i h : Int} (hcur : CurAt w b a n c i h) :
    w.cell? ⟨b, 0, none⟩ = some (.slice a n c) ∧ w.cell? ⟨b, 1, none⟩ = some (.int .i64 i) ∧ w.cell? ⟨b, 2, none⟩ = some (.int .i64 h) ∧ ∀ o, w.frozen? ⟨b, o, none⟩ = false := by
  unfold CurAt at hcur
  exact ⟨by simp [World.cell?, hcur], by simp [World.cell?, hcur], by simp [World.cell?, hcur], by intro o; simp [World.frozen?, hcur]⟩

/-- Nothing but block b has changed; the world may have new blocks. -/
structure Only (b : Nat) (w w' : World) : Prop where
  os : w'.os = w.os
  tape : w'.tape = w.tape
  output : w'.output = w.output
  size : w.heap.size ≤ w'.heap.size
  block : ∀ k, k < w.heap.size → k ≠ b → w'.heap[k]? = w.heap[k]?
theorem Only.refl (b : Nat) (w : World) : Only b w w := ⟨rfl, rfl, rfl, Nat.le_refl _, fun _ _ _ => rfl⟩
theorem Only.trans {b : Nat} {u v w : World} (h : Only b u v) (k : Only b v w) : Only b u w :=
  ⟨k.os.trans h.os, k.tape.trans h.tape, k.output.trans h.output, Nat.le_trans h.size k.size, fun j hj hb => (k.block j (Nat.lt_of_lt_of_le hj h.size) hb).trans (h.block j hj hb)⟩
theorem Only.drewN {b : Nat} {w w' : World} (h : Only b w w') (q : Nat) : Only b w (w'.drewN q) := ⟨h.os, h.tape, h.output, h.size, h.block⟩
theorem Only.setCell {b : Nat} {w w' : World} (h : Only b w w') (o : Nat) (v : Value) : Only b w (w'.setCell ⟨b, o, none⟩ v) :=
  ⟨h.os, h.tape, h.output, Nat.le_trans h.size ((Below.refl 0 w').setCell (Nat.zero_le _) v).size, fun k hk hb => by rw [Below.heap_setCell _ _ _ _ hb]; exact h.block k hk hb⟩
theorem Only.alloc {b : Nat} {w w' : World} (h : Only b w w') (o : Obj) : Only b w (w'.alloc o) :=
  ⟨h.os, h.tape, h.output, by simp; have := h.size; omega, fun k hk hb => by rw [Below.heap_alloc _ _ _ (Nat.lt_of_lt_of_le hk h.size)]; exact h.block k hk hb⟩
theorem Only.below {b B : Nat} {w w' : World} (h : Only b w w') (hB : B ≤ b) (hw : B ≤ w.heap.size) : Below B w w' :=
  ⟨h.os, h.tape, h.output, h.size, fun k hk => h.block k (by omega) (by omega)⟩
theorem Only.cell {b : Nat} {w w' : World} (h : Only b w w') {p : Addr} (hp : p.block < w.heap.size) (hb : p.block ≠ b) : w'.cell? p = w.cell? p :=
  World.cell?_of_block (w := w) (h.block p.block hp hb)
theorem Only.bytes {b : Nat} {w w' : World} (h : Only b w w') {a : Option Addr} {n : Nat} (hb : Bytes w a n) (hne : 0 < n → ∀ ad, a = some ad → ad.block ≠ b) : Bytes w' a n := by
  intro j hj
  obtain ⟨ad, e, x, h0, h1, hx⟩ := hb j hj
  refine ⟨ad, e, x, h0, h1, ?_⟩
  rw [h.cell (cell_in hx) (by rw [addr_block]; exact hne (by omega) ad e)]
  exact hx
theorem Only.curs {b : Nat} {w w' : World} {d : Nat} {a : Option Addr} {n c : Nat} {i h : Int} (ho : Only b w w') (hc : CurAt w d a n c i h) (hd : d ≠ b) : CurAt w' d a n c i h := by
  unfold CurAt at *
  have hlt : d < w.heap.size := by
    rcases Nat.lt_or_ge d w.heap.size with h1 | h1
    · exact h1
    · rw [Array.getElem?_eq_none h1] at hc; cases hc
  rw [ho.block d hlt hd]
  exact hc
theorem CurAt.set2 {w : World} {b : Nat} {a : Option Addr} {n c : Nat} {i h : Int} (hc : CurAt w b a n c i h) (h' : Int) : CurAt (w.setCell ⟨b, 2, none⟩ (.int .i64 h')) b a n c i h' := by
  unfold CurAt at *
  rw [Joins.block_setCell hc]
  rfl
theorem CurAt.set1 {w : World} {b : Nat} {a : Option Addr} {n c : Nat} {i h : Int} (hc : CurAt w b a n c i h) (i' : Int) : CurAt (w.setCell ⟨b, 1, none⟩ (.int .i64 i')) b a n c i' h := by
  unfold CurAt at *
  rw [Joins.block_setCell hc]
  rfl

set_option maxRecDepth 100000 in
theorem byte_out (b : Nat) (a : Option Addr) (n c k : Nat) (h : Int) (w : World) (hcur : CurAt w b a n c k h) (h1 : ¬ k < n) (hn : (n : Int) ≤ 9223372036854775807) :
    Calls Try.prog 106 #[.pointer (some ⟨b, 0, none⟩)] w fun e w' => ∃ x h' : Int, 0 ≤ x ∧ x ≤ 255 ∧ e = .returned (.int .i64 x) ∧ CurAt w' b a n c k h' ∧ Only b w w' := by
  obtain ⟨hc0, hc1, hc2, hf⟩ := cur_cells hcur
  have hf1 := hf 1
  have hf2 := hf 2
  clear hf
  have H := Lib.hid hcur
  clear hcur
  obtain ⟨h', hw⟩ : ∃ h', wrap64 (wrap64 (h * 6364136223846793005) + 1442695040888963407) = h' := ⟨_, rfl⟩
  obtain ⟨x, hx⟩ : ∃ x, bits .and .i64 (bits .xor .i64 (h' / 8589934592) (h' / 140737488355328)) 255 = x := ⟨_, rfl⟩
  have hx0 : 0 ≤ x := by rw [and255] at hx; omega
  have hx1 : x ≤ 255 := by rw [and255] at hx; omega
  have hdec : decide ((k : Int) < (n : Int)) = false := by simp; omega
  go_enter Try.func106, Try.ntmps106
  go_wp2
  go_quiet (fail)
  go_wp2
  go_quiet (fail)
  go_wp2
  go_ret
  exact ⟨x, h', hx0, hx1, rfl, H.out.set2 h', (((Only.refl b w).setCell 2 _).drewN _).drewN _⟩
set_option maxRecDepth 100000 in
theorem byte_in (b : Nat) (ad : Addr) (n c k : Nat) (h y : Int) (w : World) (hcur : CurAt w b (some ad) n c k h) (h1 : k < n) (hn : (n : Int) ≤ 9223372036854775807)
    (hy : w.cell? (ad.add k) = some (.int .u8 y)) (hy0 : 0 ≤ y) (hy1 : y ≤ 255) (hab : ad.block ≠ b) :
    Calls Try.prog 106 #[.pointer (some ⟨b, 0, none⟩)] w fun e w' => ∃ x h' : Int, 0 ≤ x ∧ x ≤ 255 ∧ e = .returned (.int .i64 x) ∧ CurAt w' b (some ad) n c (k + 1 : Nat) h' ∧ Only b w w' := by
  obtain ⟨hc0, hc1, hc2, hf⟩ := cur_cells hcur
  have hf1 := hf 1
  have hf2 := hf 2
  clear hf
  have H := Lib.hid hcur
  clear hcur
  obtain ⟨h', hw⟩ : ∃ h', wrap64 (wrap64 (h * 6364136223846793005) + 1442695040888963407) = h' := ⟨_, rfl⟩
  obtain ⟨x, hx⟩ : ∃ x, bits .and .i64 (bits .xor .i64 (h' / 8589934592) (h' / 140737488355328)) 255 = x := ⟨_, rfl⟩
  have hx0 : 0 ≤ x := by rw [and255] at hx; omega
  have hx1 : x ≤ 255 := by rw [and255] at hx; omega
  obtain ⟨x2, hx2⟩ : ∃ x2, bits .and .i64 (x + y) 255 = x2 := ⟨_, rfl⟩
  have hx20 : 0 ≤ x2 := by rw [and255] at hx2; omega
  have hx21 : x2 ≤ 255 := by rw [and255] at hx2; omega
  have hdec : decide ((k : Int) < (n : Int)) = true := by simp; omega
  have hcy : (w.setCell ⟨b, 2, none⟩ (.int .i64 h')).cell? (ad.add k) = some (.int .u8 y) := by
    rw [World.cell?_setCell_far _ _ _ _ (by unfold Addr.add; split <;> exact fun e => hab e.symm)]; exact hy
  clear hy
  go_enter Try.func106, Try.ntmps106
  go_wp2
  go_quiet (fail)
  go_wp2
  go_quiet (fail)
  go_wp2
  go_quiet (fail)
  go_wp2
  go_ret
  exact ⟨x2, h', hx20, hx21, rfl, (H.out.set2 h').set1 _, (((Only.refl b w).setCell 2 _).drewN _).setCell 1 _⟩

/-- A cursor in block b over the bytes of a. -/
def Curs (w : World) (b : Nat) (a : Option Addr) (n c : Nat) : Prop := (∃ k : Nat, ∃ h : Int, k ≤ n ∧ CurAt w b a n c k h) ∧ Bytes w a n ∧ (n : Int) ≤ 9223372036854775807 ∧ (0 < n → ∀ ad, a = some ad → ad.block ≠ b)
/-- What a step of the cursor in block b leaves. -/
def Drawn (b : Nat) (a : Option Addr) (n c : Nat) (w w' : World) : Prop := Curs w' b a n c ∧ Only b w w'
theorem Drawn.refl {w : World} {b : Nat} {a : Option Addr} {n c : Nat} (h : Curs w b a n c) : Drawn b a n c w w := ⟨h, Only.refl _ _⟩
theorem Drawn.trans {u v w : World} {b : Nat} {a : Option Addr} {n c : Nat} (h : Drawn b a n c u v) (k : Drawn b a n c v w) : Drawn b a n c u w := ⟨k.1, h.2.trans k.2⟩
theorem Only.same {b : Nat} {u v w : World} (h : Only b u v) (hb : Below v.heap.size v w) : Only b u w :=
  h.trans ⟨hb.os, hb.tape, hb.output, hb.size, fun k hk _ => hb.block k hk⟩
theorem Bytes.same {w w' : World} {a : Option Addr} {n : Nat} (h : Bytes w a n) (hb : Below w.heap.size w w') : Bytes w' a n := by
  intro j hj
  obtain ⟨ad, e, x, h0, h1, hx⟩ := h j hj
  exact ⟨ad, e, x, h0, h1, by rw [hb.cell (cell_in hx)]; exact hx⟩
theorem CurAt.lt {w : World} {b : Nat} {a : Option Addr} {n c : Nat} {i h : Int} (hc : CurAt w b a n c i h) : b < w.heap.size := by
  unfold CurAt at hc
  rcases Nat.lt_or_ge b w.heap.size with h1 | h1
  · exact h1
  · rw [Array.getElem?_eq_none h1] at hc; cases hc
theorem Curs.lt {w : World} {b : Nat} {a : Option Addr} {n c : Nat} (h : Curs w b a n c) : b < w.heap.size := by
  obtain ⟨⟨_, _, _, hcur⟩, _⟩ := h
  exact hcur.lt
theorem Curs.same {w w' : World} {b : Nat} {a : Option Addr} {n c : Nat} (h : Curs w b a n c) (hB : Below w.heap.size w w') : Curs w' b a n c := by
  obtain ⟨⟨k, hh, hk, hcur⟩, hb, hn, hne⟩ := h
  refine ⟨⟨k, hh, hk, ?_⟩, hb.same hB, hn, hne⟩
  have hlt := hcur.lt
  unfold CurAt at *
  rw [hB.block b hlt]
  exact hcur
theorem Drawn.same {u v w : World} {b : Nat} {a : Option Addr} {n c : Nat} (h : Drawn b a n c u v) (hB : Below v.heap.size v w) : Drawn b a n c u w := ⟨h.1.same hB, h.2.same hB⟩
theorem Drawn.below {b B : Nat} {a : Option Addr} {n c : Nat} {w w' : World} (h : Drawn b a n c w w') (hB : B ≤ b) (hw : B ≤ w.heap.size) : Below B w w' := h.2.below hB hw
theorem step_any (b : Nat) (a : Option Addr) (n c : Nat) (w : World) (hc : Curs w b a n c) :
    Calls Try.prog 106 #[.pointer (some ⟨b, 0, none⟩)] w fun e w' => ∃ x : Int, 0 ≤ x ∧ x ≤ 255 ∧ e = .returned (.int .i64 x) ∧ Drawn b a n c w w' := by
  obtain ⟨⟨k, h, hk, hcur⟩, hb, hn, hne⟩ := hc
  by_cases h1 : k < n
  · obtain ⟨ad, rfl, y, hy0, hy1, hy⟩ := hb k h1
    refine (byte_in b ad n c k h y w hcur h1 hn hy hy0 hy1 (hne (by omega) ad rfl)).mono ?_
    rintro e w' ⟨x, h', hx0, hx1, he, hc', ho⟩
    exact ⟨x, hx0, hx1, he, ⟨⟨k + 1, h', by omega, hc'⟩, ho.bytes hb hne, hn, hne⟩, ho⟩
  · refine (byte_out b a n c k h w hcur h1 hn).mono ?_
    rintro e w' ⟨x, h', hx0, hx1, he, hc', ho⟩
    exact ⟨x, hx0, hx1, he, ⟨⟨k, h', hk, hc'⟩, ho.bytes hb hne, hn, hne⟩, ho⟩

set_option maxRecDepth 100000 in
theorem belowNo_any (b : Nat) (a : Option Addr) (n c : Nat) (m : Int) (hm : m ≤ 0) (w : World) :
    Calls Try.prog 63 #[.pointer (some ⟨b, 0, none⟩), .int .i64 m] w fun e w' => e = .returned (.int .i64 0) ∧ w = w' := by
  go_enter Try.func63, Try.ntmps63
  go_wp2_with fail
  go_ret
  exact ⟨rfl, rfl⟩
set_option maxRecDepth 100000 in
theorem below_any (b : Nat) (a : Option Addr) (n c : Nat) (m : Int) (hm : 1 ≤ m) (hm2 : m ≤ 9223372036854775807) (w : World) (hc : Curs w b a n c) :
    Calls Try.prog 63 #[.pointer (some ⟨b, 0, none⟩), .int .i64 m] w fun e w' => ∃ x : Int, 0 ≤ x ∧ x < m ∧ e = .returned (.int .i64 x) ∧ Drawn b a n c w w' := by
  have H := Lib.hid hc
  clear hc
  by_cases h256 : m ≤ 256
  · go_enter Try.func63, Try.ntmps63
    go_wp2_with (go_at_call 106; refine (step_any b a n c _ H.out).mono ?_; rintro e w' ⟨x, hx0, hx1, rfl, hd⟩)
    go_ret
    exact ⟨x % m, Int.emod_nonneg _ (by omega), Int.emod_lt_of_pos _ (by omega), rfl, hd⟩
  · go_enter Try.func63, Try.ntmps63
    go_wp2_with fail
    refine (step_any b a n c _ H.out).mono ?_
    rintro e w1 ⟨x, hx0, hx1, rfl, hd1⟩
    have H1 := Lib.hid hd1
    clear hd1
    go_wp2_with fail
    refine (step_any b a n c _ H1.out.1).mono ?_
    rintro e w2 ⟨y, hy0, hy1, rfl, hd2⟩
    have H2 := Lib.hid hd2
    clear hd2
    go_wp2_with fail
    refine (step_any b a n c _ H2.out.1).mono ?_
    rintro e w3 ⟨z, hz0, hz1, rfl, hd3⟩
    have H3 := Lib.hid hd3
    clear hd3
    go_wp2_with fail
    go_ret
    exact ⟨_, Int.emod_nonneg _ (by omega), Int.emod_lt_of_pos _ (by omega), rfl, (H1.out.trans H2.out).trans H3.out⟩
theorem ret_int {k : IntKind} {a b : Int} (h : a = b) : Ending.returned (.int k a) = .returned (.int k b) := by rw [h]
theorem new_curs {w : World} {a : Option Addr} {n c : Nat} {z : Int} (hn : (n : Int) ≤ 9223372036854775807) (hb : Bytes w a n) :
    Curs (w.alloc (.cells #[.slice a n c, .int .i64 0, .int .i64 z] 117)) w.heap.size a n c :=
  ⟨⟨0, z, Nat.zero_le _, by unfold CurAt; show (w.heap.push _)[w.heap.size]? = _; simp⟩, hb.same (alloc_same _ _), by omega, fun h0 ad e h => by
    obtain ⟨ad', e', x, _, _, hx⟩ := hb 0 h0
    rw [e] at e'
    cases e'
    have := cell_in hx
    rw [addr_block] at this
    omega⟩

set_option maxRecDepth 100000 in
theorem pick_any (b : Nat) (a : Option Addr) (n c : Nat) (lb m : Nat) (zs : List Int) (hm : 1 ≤ m) (hm2 : (m : Int) ≤ 9223372036854775807) (w : World) (hc : Curs w b a n c) (hlb : lb ≠ b)
    (hz : ∀ j, j < m → w.cell? ⟨lb, j, none⟩ = some (.int .i64 (zs.getD j 0))) :
    Calls Try.prog 64 #[.pointer (some ⟨b, 0, none⟩), .slice (some ⟨lb, 0, none⟩) m m] w fun e w' => ∃ j : Nat, j < m ∧ e = .returned (.int .i64 (zs.getD j 0)) ∧ Drawn b a n c w w' := by
  have H := Lib.hid hc
  have HZ := Lib.hid hz
  clear hc hz
  go_enter Try.func64, Try.ntmps64
  go_wp2_with fail
  refine (below_any b a n c m (by omega) hm2 _ H.out).mono ?_
  rintro e w1 ⟨x, hx0, hx1, rfl, hd1⟩
  obtain ⟨k, rfl⟩ : ∃ k : Nat, x = k := ⟨x.toNat, by omega⟩
  have hcell : w1.cell? ⟨lb, k, none⟩ = some (.int .i64 (zs.getD k 0)) := by
    rw [hd1.2.cell (cell_in (HZ.out k (by omega))) hlb]
    exact HZ.out k (by omega)
  have H1 := Lib.hid hd1
  clear hd1
  generalize hv : zs.getD k 0 = v at hcell
  have HV := Lib.hid hv
  clear hv
  go_wp2_with fail
  go_ret
  exact ⟨k, by omega, ret_int HV.out.symm, H1.out⟩
set_option maxRecDepth 100000 in
theorem new_any (a : Option Addr) (n c : Nat) (hn : (n : Int) ≤ 9223372036854775807) (w : World) (hb : Bytes w a n) :
    Calls Try.prog 61 #[.slice a n c] w fun e w' => e = .returned (.pointer (some ⟨w.heap.size, 0, none⟩)) ∧ Curs w' w.heap.size a n c ∧ Below w.heap.size w w' := by
  have HB := Lib.hid hb
  clear hb
  go_enter Try.func61, Try.ntmps61
  go_wp2
  go_loop [3, 4] (fun h i => ∃ k : Nat, ∃ z : Int, k ≤ n ∧ i = .int .i64 k ∧ h = .int .i64 z) (fun _ i => n - (intOf i).toNat)
  case atStart => exact ⟨0, _, Nat.zero_le _, rfl, rfl⟩
  case round =>
    obtain ⟨k, z, hk, rfl, rfl⟩ := hrel
    by_cases hlt : k < n
    · by_cases h4 : (k : Int) < 4000
      · obtain ⟨ad, rfl, x, hx0, hx1, hx⟩ := HB.out k hlt
        go_wp2
        go_round
        case rel => exact ⟨k + 1, _, by omega, by go_num, rfl⟩
        case measure => simp [intOf]; omega
      · go_wp2
        go_ret
        exact ⟨rfl, new_curs hn HB.out, alloc_same _ _⟩
    · go_wp2
      go_ret
      exact ⟨rfl, new_curs hn HB.out, alloc_same _ _⟩

/-- A list of integers that the call has just laid. -/
theorem pickNew (b : Nat) (a : Option Addr) (n c : Nat) (zs : List Int) (m : Nat) (hm : 1 ≤ m) (hm2 : (m : Int) ≤ 9223372036854775807) (hz : zs.length = m) {cs : Array Value} (hcs : cs = (zs.map (Value.int .i64)).toArray) {T : TypeId} (w : World) (hc : Curs w b a n c) :
    Calls Try.prog 64 #[.pointer (some ⟨b, 0, none⟩), .slice (some ⟨w.heap.size, 0, none⟩) m m] (w.alloc (.cells cs T)) fun e w' => ∃ x : Int, x ∈ zs ∧ e = .returned (.int .i64 x) ∧ Drawn b a n c w w' := by
  have hlt := hc.lt
  refine (pick_any b a n c w.heap.size m zs hm hm2 _ (hc.same (alloc_same _ _)) (by omega) (fun j hj => ?_)).mono ?_
  · have hj' : j < zs.length := by omega
    have : (w.alloc (.cells cs T)).heap[w.heap.size]? = some (.cells cs T (0, 0)) := by show (w.heap.push _)[w.heap.size]? = _; simp
    rw [Joins.cell_of_block this, hcs]
    simp [List.getD, List.getElem?_eq_getElem hj']
  · rintro e w1 ⟨j, hj, rfl, hd⟩
    have hj' : j < zs.length := by omega
    exact ⟨zs.getD j 0, by rw [List.getD, List.getElem?_eq_getElem hj']; exact List.getElem_mem hj', rfl, hd.1, ((Only.refl b w).alloc _).trans hd.2⟩
/-- An integer of 64 bits. -/
def I64 (x : Int) : Prop := -9223372036854775808 ≤ x ∧ x ≤ 9223372036854775807
theorem i64_wf {x : Int} (h : (Lit.int .i64 x).wf = true) : I64 x := by
  simp [Lit.wf, IntKind.min, IntKind.max, IntKind.signed, IntKind.bits] at h
  exact ⟨by omega, by omega⟩
theorem i64_wrap (n : Int) : I64 (wrap64 n) := i64_wf (wrap64_wf n)
/-- What a draw of an integer leaves. -/
def DrewInt (b : Nat) (a : Option Addr) (n c : Nat) (w : World) (e : Ending) (w' : World) : Prop := ∃ x : Int, e = .returned (.int .i64 x) ∧ I64 x ∧ Drawn b a n c w w'

theorem list_i64 {l : List Int} (h : (l.all fun x => decide (-9223372036854775808 ≤ x) && decide (x ≤ 9223372036854775807)) = true) {x : Int} (hx : x ∈ l) : I64 x := by
  rw [List.all_eq_true] at h
  simpa [I64] using h x hx

/-- The input of a law: n bytes that lie below the call's own blocks. -/
def Code (w : World) (a : Option Addr) (n : Nat) : Prop := Bytes w a n ∧ (n : Int) ≤ 9223372036854775807
theorem Code.same {w w' : World} {a : Option Addr} {n : Nat} (h : Code w a n) (hb : Below w.heap.size w w') : Code w' a n :=
  ⟨h.1.same hb, h.2⟩
theorem code_of {w : World} {a : Option Addr} {n : Nat} {l : List Int} (h : Nums .u8 w a n l) (hB : Bs l) : Code w a n :=
  ⟨fun j hj => by
    obtain ⟨ad, x, e, hx, hc⟩ := h.at_ hj
    have := hB x (List.mem_of_getElem? hx)
    exact ⟨ad, e, x, this.1, this.2, hc⟩, h.fits⟩
theorem Only.under {b B : Nat} {u v w : World} (h : Only b u v) (hb : Below B v w) (hB : u.heap.size ≤ B) : Only b u w :=
  ⟨hb.os.trans h.os, hb.tape.trans h.tape, hb.output.trans h.output, Nat.le_trans h.size hb.size, fun k hk hne => (hb.block k (Nat.lt_of_lt_of_le hk hB)).trans (h.block k hk hne)⟩
theorem Curs.under {b B : Nat} {a : Option Addr} {n c : Nat} {u v w : World} (h : Curs v b a n c) (h0 : Curs u b a n c) (hb : Below B v w) (hB : u.heap.size ≤ B) : Curs w b a n c := by
  have hlt := h0.lt
  obtain ⟨⟨k, hh, hk, hcur⟩, hby, hn, hne⟩ := h
  refine ⟨⟨k, hh, hk, ?_⟩, ?_, hn, hne⟩
  · unfold CurAt at *
    rw [hb.block b (by omega)]
    exact hcur
  · intro j hj
    obtain ⟨ad, e, x, h1, h2, hx⟩ := hby j hj
    obtain ⟨ad', e', x', _, _, hx'⟩ := h0.2.1 j hj
    rw [e] at e'
    cases e'
    exact ⟨ad, e, x, h1, h2, by rw [hb.cell (Nat.lt_of_lt_of_le (cell_in hx') hB)]; exact hx⟩
/-- New memory that is not the cursor's leaves the cursor. -/
theorem Drawn.under {b B : Nat} {a : Option Addr} {n c : Nat} {u v w : World} (h : Drawn b a n c u v) (h0 : Curs u b a n c) (hb : Below B v w) (hB : u.heap.size ≤ B) : Drawn b a n c u w := ⟨h.1.under h0 hb hB, h.2.under hb hB⟩
theorem only_grown {b : Nat} {w w' : World} (h : Only b w w') : w.grownBy w' (some b) := ⟨h.os, h.tape, h.output, h.size, fun i hi hne => h.block i hi (fun e => hne (by rw [e]))⟩
/-- A step of the cursor leaves what lies in other blocks. -/
theorem Own.only {k : IntKind} {t : TypeId} {w w' : World} {B n c b lo hi : Nat} {a : Option Addr} {l : List Int} (h : Own k t w B a n c l) (ho : Only b w w') (s : Span a lo hi) (hd : b < lo ∨ hi ≤ b) : Own k t w' B a n c l := by
  have hg := only_grown ho
  cases a with
  | none => exact ⟨h.1, h.2.kept hg (Or.inl rfl)⟩
  | some ad =>
    have h1 := s ad rfl
    refine ⟨h.1, h.2.kept hg (Or.inr ?_)⟩
    simp only [Value.ownBlock, ne_eq, Option.some.injEq]
    omega

end Go.Proofs.Ytcpnchjgklemgaa
