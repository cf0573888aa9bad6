/- The keys of moves: how a map reads them. Ascending lists without a number twice: how a number is put into one; the sorted list whose equal neighbours are one. -/
import Derived.Test.YtckmgbobkffabaaGreatG2
import Derived.Test.YtckmgbobkffabaaGreatG5
import Derived.Maps.Own
import Derived.DeepKeys4
import Derived.Test.YtckmgbobkffabaaGreatG1
import Derived.Lib.SlicesCompact
namespace Go.Proofs.YtckmgbobkffabaaGreat
open Go.ChangeShapes Go.WideShapes Go.ChangeAt Go.RowKit
set_option linter.unusedVariables false

/-- A key by value. -/
def keyV (s : Int) (b : Bool) (k : Int) : Value := .agg #[.int .i64 s, .bool b, .int .i64 k]
theorem key_law : Maps.Keyed Tryz.prog 66 := Maps.Keyed.of_law (deep_law_laid laidOut (m := 3) (by omega) (by decide +kernel) (by kernel_rfl) (by kernel_rfl))
def keyL (s : Int) (b : Bool) (k : Int) : Lit := .string (keyBytes [.int .i64 s, .bool b, .int .i64 k])
theorem key_read {s k : Int} (b : Bool) (hs : (Lit.int .i64 s).wf = true) (hk : (Lit.int .i64 k).wf = true) : keyOf Tryz.prog 66 (keyV s b k) = some (keyL s b k) := by
 have h1 : Tryz.prog.keyType 66 = true := by kernel_rfl
 unfold keyOf keyV
 rw [Tryz.underlying66]
 simp only [h1, Bool.true_and]
 have h2 : Value.formed Tryz.prog 66 (Value.agg #[Value.int IntKind.i64 s, Value.bool b, Value.int IntKind.i64 k]) = true := by
  unfold Value.formed
  rw [Tryz.underlying66]
  have : Tryz.prog.cellsOf 66 = 3 := by kernel_rfl
  rw [this]
  rfl
 rw [if_pos h2]
 have hC : Tryz.prog.cellsOf 66 = 3 := by kernel_rfl
 have hi : Tryz.prog.cellsOf 3 = 1 := by kernel_rfl
 have hb : Tryz.prog.cellsOf 4 = 1 := by kernel_rfl
 obtain ⟨d, hd⟩ : ∃ d, Tryz.prog.types.size + 1 = d + 1 + 1 := ⟨Tryz.prog.types.size - 1, by
  have : 0 < Tryz.prog.types.size := by decide +kernel
  omega⟩
 rw [hd]
 have e1 : ∀ n : Int, (Lit.int .i64 n).wf = true → Tryz.prog.keyLits (d + 1) 3 [Value.int IntKind.i64 n] = some [.int .i64 n] := fun n hn => by
  unfold Program.keyLits
  rw [Tryz.underlying3]
  simp [hn]
 have e2 : Tryz.prog.keyLits (d + 1) 4 [Value.bool b] = some [.bool b] := by
  unfold Program.keyLits
  rw [Tryz.underlying4]
 unfold Program.keyLits
 rw [Tryz.underlying66]
 simp [Value.cells, hC, hi, hb, e1 s hs, e1 k hk, e2, keyL]
end Go.Proofs.YtckmgbobkffabaaGreat
namespace Go.Proofs.YtckmgbobkffabaaGreat
open Go.ChangeShapes Go.WideShapes Go.ChangeAt Go.RowKit
set_option linter.unusedVariables false

/-- A number is put into an ascending list, if it isn't there. -/
def putL : List Int → Int → List Int
 | [], n => [n]
 | x :: t, n => if x < n then x :: putL t n else if x = n then x :: t else n :: x :: t
theorem putL_len (n : Int) : ∀ l : List Int, (putL l n).length ≤ l.length + 1
 | [] => by simp [putL]
 | x :: t => by
  have := putL_len n t
  unfold putL
  split
  ·simp; omega
  ·split <;> simp
theorem putL_there {n : Int} : ∀ {l : List Int} {j : Nat}, (∀ y ∈ l.take j, y < n) → l[j]? = some n → putL l n = l
 | [], j, h, hj => by simp at hj
 | x :: t, 0, h, hj => by
  have : x = n := by simpa using hj
  subst this
  simp [putL]
 | x :: t, j + 1, h, hj => by
  have hx : x < n := h x (by simp)
  have := putL_there (l := t) (j := j) (fun y hy => h y (by simp [hy])) (by simpa using hj)
  unfold putL
  rw [if_pos hx, this]
theorem putL_new {n : Int} : ∀ {l : List Int} {j : Nat}, (∀ y ∈ l.take j, y < n) → (∀ y, l[j]? = some y → n < y) → putL l n = l.take j ++ n :: l.drop j
 | [], j, h, hj => by simp [putL]
 | x :: t, 0, h, hj => by
  have hx := hj x (by simp)
  unfold putL
  rw [if_neg (by omega), if_neg (by omega)]
  rfl
 | x :: t, j + 1, h, hj => by
  have hx : x < n := h x (by simp)
  have := putL_new (l := t) (j := j) (fun y hy => h y (by simp [hy])) (fun y hy => hj y (by simpa using hy))
  unfold putL
  rw [if_pos hx, this]
  rfl
theorem mem_putL {n y : Int} : ∀ {l : List Int}, y ∈ putL l n ↔ y = n ∨ y ∈ l
 | [] => by simp [putL]
 | x :: t => by
  have := mem_putL (n := n) (y := y) (l := t)
  unfold putL
  split
  ·rw [List.mem_cons, this, List.mem_cons]
   constructor <;> (intro h; rcases h with h | h | h <;> simp [h])
  ·split
   ·rename_i h1 h2
    subst h2
    simp
   ·rw [List.mem_cons]
/-- Strictly ascending. -/
def Asc (l : List Int) : Prop := l.Pairwise (· < ·)
theorem asc_putL {n : Int} : ∀ {l : List Int}, Asc l → Asc (putL l n)
 | [], h => by simp [putL, Asc]
 | x :: t, h => by
  have h1 := List.pairwise_cons.1 h
  unfold putL
  split
  ·rename_i hx
   refine List.pairwise_cons.2 ⟨fun y hy => ?_, asc_putL h1.2⟩
   rcases mem_putL.1 hy with rfl | hy
   ·exact hx
   ·exact h1.1 y hy
  ·split
   ·exact h
   ·rename_i hx hx2
    refine List.pairwise_cons.2 ⟨fun y hy => ?_, h⟩
    rcases List.mem_cons.1 hy with rfl | hy
    ·omega
    ·have := h1.1 y hy
     omega
theorem asc_ext : ∀ {l m : List Int}, Asc l → Asc m → (∀ y, y ∈ l ↔ y ∈ m) → l = m
 | [], [], _, _, _ => rfl
 | [], y :: m, _, _, h => absurd ((h y).2 (by simp)) (by simp)
 | x :: l, [], _, _, h => absurd ((h x).1 (by simp)) (by simp)
 | x :: l, y :: m, hl, hm, h => by
  have h1 := List.pairwise_cons.1 hl
  have h2 := List.pairwise_cons.1 hm
  have hxy : x = y := by
   have a1 : x ∈ y :: m := (h x).1 (by simp)
   have a2 : y ∈ x :: l := (h y).2 (by simp)
   rcases List.mem_cons.1 a1 with e | a1
   ·exact e
   ·rcases List.mem_cons.1 a2 with e | a2
    ·exact e.symm
    ·have := h1.1 y a2
     have := h2.1 x a1
     omega
  subst hxy
  congr 1
  refine asc_ext h1.2 h2.2 fun z => ?_
  have hz := h z
  constructor
  ·intro hzl
   have h3 := h1.1 z hzl
   rcases List.mem_cons.1 (hz.1 (by simp [hzl])) with e | h4
   ·omega
   ·exact h4
  ·intro hzm
   have h3 := h2.1 z hzm
   rcases List.mem_cons.1 (hz.2 (by simp [hzm])) with e | h4
   ·omega
   ·exact h4

theorem compactUpTo_inv (d : Array Int) (hs : ∀ i j, i ≤ j → j < d.size → d[i]! ≤ d[j]!) : ∀ m, m ≤ d.size →
  Asc (Lib.compactUpTo d m) ∧ (∀ y ∈ Lib.compactUpTo d m, ∃ i, i < m ∧ y = d[i]!) ∧ (∀ i, i < m → d[i]! ∈ Lib.compactUpTo d m)
 | 0, _ => by simp [Lib.compactUpTo, Asc]
 | m + 1, hm => by
  obtain ⟨h1, h2, h3⟩ := compactUpTo_inv d hs m (by omega)
  rw [Lib.compactUpTo_succ]
  by_cases hk : Lib.keeps d m = true
  ·rw [if_pos hk]
   refine ⟨List.pairwise_append.2 ⟨h1, by simp, fun y hy z hz => ?_⟩, fun y hy => ?_, fun i hi => ?_⟩
   ·have e : z = d[m]! := by simpa using hz
    subst e
    obtain ⟨i, hi, rfl⟩ := h2 y hy
    have hk' : m = 0 ∨ d[m]! ≠ d[m - 1]! := by simpa [Lib.keeps] using hk
    rcases hk' with e | hne
    ·omega
    ·have b1 := hs i (m - 1) (by omega) (by omega)
     have b2 := hs (m - 1) m (by omega) (by omega)
     omega
   ·rcases List.mem_append.1 hy with hy | hy
    ·obtain ⟨i, hi, e⟩ := h2 y hy
     exact ⟨i, by omega, e⟩
    ·exact ⟨m, by omega, by simpa using hy⟩
   ·by_cases e : i = m
    ·subst e; simp
    ·exact List.mem_append.2 (Or.inl (h3 i (by omega)))
  ·rw [if_neg hk, List.append_nil]
   refine ⟨h1, fun y hy => ?_, fun i hi => ?_⟩
   ·obtain ⟨i, hi, e⟩ := h2 y hy
    exact ⟨i, by omega, e⟩
   ·by_cases e : i = m
    ·subst e
     have hk' : i ≠ 0 ∧ d[i]! = d[i - 1]! := by
      have : ¬ (i = 0 ∨ d[i]! ≠ d[i - 1]!) := by simpa [Lib.keeps] using hk
      omega
     rw [hk'.2]
     exact h3 (i - 1) (by omega)
    ·exact h3 i (by omega)
def sorted (zs : List Int) : List Int := zs.mergeSort fun x y => decide (x ≤ y)
theorem sorted_len (zs : List Int) : (sorted zs).length = zs.length := List.length_mergeSort zs
theorem sorted_le (zs : List Int) : ∀ i j, i ≤ j → j < (sorted zs).toArray.size → (sorted zs).toArray[i]! ≤ (sorted zs).toArray[j]! := by
 intro i j hij hj
 have hp : (sorted zs).Pairwise (fun a b => decide (a ≤ b) = true) := List.pairwise_mergeSort (fun a b c h1 h2 => by simp at *; omega) (fun a b => by simp; omega) zs
 have hj' : j < (sorted zs).length := by simpa using hj
 rcases Nat.lt_or_eq_of_le hij with h | e
 ·have := List.pairwise_iff_getElem.1 hp i j (by omega) hj' h
  rw [getElem!_pos _ i (by simpa using by omega), getElem!_pos _ j (by simpa using hj')]
  simpa using this
 ·subst e; exact Int.le_refl _
theorem compact_sorted (zs : List Int) : Asc (Lib.compact (sorted zs)) ∧ ∀ y, y ∈ Lib.compact (sorted zs) ↔ y ∈ zs := by
 have h := compactUpTo_inv (sorted zs).toArray (sorted_le zs) (sorted zs).length (by simp)
 refine ⟨h.1, fun y => ⟨fun hy => ?_, fun hy => ?_⟩⟩
 ·obtain ⟨i, hi, rfl⟩ := h.2.1 y hy
  rw [getElem!_pos _ i (by simpa using hi)]
  have : (sorted zs).toArray[i]'(by simpa using hi) ∈ sorted zs := by simp
  exact List.mem_mergeSort.1 this
 ·have hm : y ∈ sorted zs := List.mem_mergeSort.2 hy
  obtain ⟨i, hi, e⟩ := List.getElem_of_mem hm
  have := h.2.2 i hi
  rw [getElem!_pos _ i (by simpa using hi)] at this
  show y ∈ Lib.compactUpTo (sorted zs).toArray (sorted zs).length
  simpa [e] using this
/-- All numbers put in, one after the other. -/
def puts : List Int → List Int → List Int
 | acc, [] => acc
 | acc, x :: t => puts (putL acc x) t
theorem puts_app (acc l : List Int) (x : Int) : puts acc (l ++ [x]) = putL (puts acc l) x := by
 induction l generalizing acc with
 | nil => rfl
 | cons y t ih => exact ih (putL acc y)
theorem puts_asc {l : List Int} : ∀ {acc : List Int}, Asc acc → Asc (puts acc l) ∧ ∀ y, y ∈ puts acc l ↔ y ∈ acc ∨ y ∈ l := by
 induction l with
 | nil => intro acc h; exact ⟨h, fun y => by simp [puts]⟩
 | cons x t ih =>
  intro acc h
  obtain ⟨h1, h2⟩ := ih (asc_putL (n := x) h)
  refine ⟨h1, fun y => ?_⟩
  show y ∈ puts (putL acc x) t ↔ _
  rw [h2 y, mem_putL, List.mem_cons]
  constructor
  ·rintro ((h | h) | h)
   ·exact Or.inr (Or.inl h)
   ·exact Or.inl h
   ·exact Or.inr (Or.inr h)
  ·rintro (h | h | h)
   ·exact Or.inl (Or.inr h)
   ·exact Or.inl (Or.inl h)
   ·exact Or.inr h
theorem puts_len : ∀ (l acc : List Int), (puts acc l).length ≤ acc.length + l.length
 | [], acc => by simp [puts]
 | x :: t, acc => by
  have h1 := puts_len t (putL acc x)
  have h2 := putL_len x acc
  show (puts (putL acc x) t).length ≤ _
  simp only [List.length_cons]
  omega
theorem puts_eq (zs : List Int) : puts [] zs = Lib.compact (sorted zs) := by
 have h1 := puts_asc (l := zs) (acc := []) (by simp [Asc])
 have h2 := compact_sorted zs
 exact asc_ext h1.1 h2.1 fun y => by rw [h1.2 y, h2.2 y]; simp
theorem compact_len (zs : List Int) : (Lib.compact (sorted zs)).length ≤ zs.length := by
 rw [← puts_eq]
 have := puts_len zs []
 simpa using this
end Go.Proofs.YtckmgbobkffabaaGreat
