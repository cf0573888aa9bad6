/- The laws' own small helpers: the bound on the input. Ascending lists without a number twice: how a number is put into one; the sorted list whose equal neighbours are one. Slices of structs: what a walk is told of one that is read, and of one that the call itself has made; 'enc' says which cells an element has, s how many. No function of the program is spoken of. The helpers of the exact laws at slices of integers: what the program says of integers. -/
import Derived.Test.YtcpnchjgklemgaaG1
import Derived.Lib.SlicesCompact
import Derived.Deep.QuietTactic
import Derived.BigQuiet
import Derived.RegionTactic
namespace Go.Proofs.Ytcpnchjgklemgaa
open Go.ChangeShapes Go.WideShapes Go.ChangeAt Go.RowKit
set_option linter.unusedVariables false

theorem ret_bool {a b : Bool} (h : a = b) : Ending.returned (.bool a) = .returned (.bool b) := by rw [h]
theorem big_no (a : Option Addr) (n c : Nat) (hn : (n : Int) ≤ 9223372036854775807) (h : ¬ 1048576 < n) (w : World) :
    Calls Try.prog 12 #[.slice a n c] w fun e w' => e = .returned (.bool false) ∧ w = w' := by
  go_enter Try.func12, Try.ntmps12
  go_wp2
  go_ret
  exact ⟨ret_bool (by simp; omega), rfl⟩
theorem big_yes (a : Option Addr) (n c : Nat) (hn : (n : Int) ≤ 9223372036854775807) (h : 1048576 < n) (w : World) :
    Calls Try.prog 12 #[.slice a n c] w fun e w' => e = .returned (.bool true) ∧ w = w' := by
  go_enter Try.func12, Try.ntmps12
  go_wp2
  go_ret
  exact ⟨ret_bool (by simp; omega), rfl⟩
end Go.Proofs.Ytcpnchjgklemgaa
namespace Go.Proofs.Ytcpnchjgklemgaa
open Go.ChangeShapes Go.WideShapes Go.ChangeAt Go.RowKit
set_option linter.unusedVariables false

/-- A number is put into an ascending list, if it isn't there. -/
def putL : List Int → Int → List Int
  | [], n => [n]
  | x :: t, n => if x < n then x :: putL t n else if x = n then x :: t else n :: x :: t
theorem putL_len (n : Int) : ∀ l : List Int, (putL l n).length ≤ l.length + 1
  | [] => by simp [putL]
  | x :: t => by
    have := putL_len n t
    unfold putL
    split
    · simp; omega
    · split <;> simp
theorem putL_there {n : Int} : ∀ {l : List Int} {j : Nat}, (∀ y ∈ l.take j, y < n) → l[j]? = some n → putL l n = l
  | [], j, h, hj => by simp at hj
  | x :: t, 0, h, hj => by
    have : x = n := by simpa using hj
    subst this
    simp [putL]
  | x :: t, j + 1, h, hj => by
    have hx : x < n := h x (by simp)
    have := putL_there (l := t) (j := j) (fun y hy => h y (by simp [hy])) (by simpa using hj)
    unfold putL
    rw [if_pos hx, this]
theorem putL_new {n : Int} : ∀ {l : List Int} {j : Nat}, (∀ y ∈ l.take j, y < n) → (∀ y, l[j]? = some y → n < y) → putL l n = l.take j ++ n :: l.drop j
  | [], j, h, hj => by simp [putL]
  | x :: t, 0, h, hj => by
    have hx := hj x (by simp)
    unfold putL
    rw [if_neg (by omega), if_neg (by omega)]
    rfl
  | x :: t, j + 1, h, hj => by
    have hx : x < n := h x (by simp)
    have := putL_new (l := t) (j := j) (fun y hy => h y (by simp [hy])) (fun y hy => hj y (by simpa using hy))
    unfold putL
    rw [if_pos hx, this]
    rfl
theorem mem_putL {n y : Int} : ∀ {l : List Int}, y ∈ putL l n ↔ y = n ∨ y ∈ l
  | [] => by simp [putL]
  | x :: t => by
    have := mem_putL (n := n) (y := y) (l := t)
    unfold putL
    split
    · rw [List.mem_cons, this, List.mem_cons]
      constructor <;> (intro h; rcases h with h | h | h <;> simp [h])
    · split
      · rename_i h1 h2
        subst h2
        simp
      · rw [List.mem_cons]
/-- Strictly ascending. -/
def Asc (l : List Int) : Prop := l.Pairwise (· < ·)
theorem asc_putL {n : Int} : ∀ {l : List Int}, Asc l → Asc (putL l n)
  | [], h => by simp [putL, Asc]
  | x :: t, h => by
    have h1 := List.pairwise_cons.1 h
    unfold putL
    split
    · rename_i hx
      refine List.pairwise_cons.2 ⟨fun y hy => ?_, asc_putL h1.2⟩
      rcases mem_putL.1 hy with rfl | hy
      · exact hx
      · exact h1.1 y hy
    · split
      · exact h
      · rename_i hx hx2
        refine List.pairwise_cons.2 ⟨fun y hy => ?_, h⟩
        rcases List.mem_cons.1 hy with rfl | hy
        · omega
        · have := h1.1 y hy
          omega
theorem asc_ext : ∀ {l m : List Int}, Asc l → Asc m → (∀ y, y ∈ l ↔ y ∈ m) → l = m
  | [], [], _, _, _ => rfl
  | [], y :: m, _, _, h => absurd ((h y).2 (by simp)) (by simp)
  | x :: l, [], _, _, h => absurd ((h x).1 (by simp)) (by simp)
  | x :: l, y :: m, hl, hm, h => by
    have h1 := List.pairwise_cons.1 hl
    have h2 := List.pairwise_cons.1 hm
    have hxy : x = y := by
      have a1 : x ∈ y :: m := (h x).1 (by simp)
      have a2 : y ∈ x :: l := (h y).2 (by simp)
      rcases List.mem_cons.1 a1 with e | a1
      · exact e
      · rcases List.mem_cons.1 a2 with e | a2
        · exact e.symm
        · have := h1.1 y a2
          have := h2.1 x a1
          omega
    subst hxy
    congr 1
    refine asc_ext h1.2 h2.2 fun z => ?_
    have hz := h z
    constructor
    · intro hzl
      have h3 := h1.1 z hzl
      rcases List.mem_cons.1 (hz.1 (by simp [hzl])) with e | h4
      · omega
      · exact h4
    · intro hzm
      have h3 := h2.1 z hzm
      rcases List.mem_cons.1 (hz.2 (by simp [hzm])) with e | h4
      · omega
      · exact h4

theorem compactUpTo_inv (d : Array Int) (hs : ∀ i j, i ≤ j → j < d.size → d[i]! ≤ d[j]!) : ∀ m, m ≤ d.size →
    Asc (Lib.compactUpTo d m) ∧ (∀ y ∈ Lib.compactUpTo d m, ∃ i, i < m ∧ y = d[i]!) ∧ (∀ i, i < m → d[i]! ∈ Lib.compactUpTo d m)
  | 0, _ => by simp [Lib.compactUpTo, Asc]
  | m + 1, hm => by
    obtain ⟨h1, h2, h3⟩ := compactUpTo_inv d hs m (by omega)
    rw [Lib.compactUpTo_succ]
    by_cases hk : Lib.keeps d m = true
    · rw [if_pos hk]
      refine ⟨List.pairwise_append.2 ⟨h1, by simp, fun y hy z hz => ?_⟩, fun y hy => ?_, fun i hi => ?_⟩
      · have e : z = d[m]! := by simpa using hz
        subst e
        obtain ⟨i, hi, rfl⟩ := h2 y hy
        have hk' : m = 0 ∨ d[m]! ≠ d[m - 1]! := by simpa [Lib.keeps] using hk
        rcases hk' with e | hne
        · omega
        · have b1 := hs i (m - 1) (by omega) (by omega)
          have b2 := hs (m - 1) m (by omega) (by omega)
          omega
      · rcases List.mem_append.1 hy with hy | hy
        · obtain ⟨i, hi, e⟩ := h2 y hy
          exact ⟨i, by omega, e⟩
        · exact ⟨m, by omega, by simpa using hy⟩
      · by_cases e : i = m
        · subst e; simp
        · exact List.mem_append.2 (Or.inl (h3 i (by omega)))
    · rw [if_neg hk, List.append_nil]
      refine ⟨h1, fun y hy => ?_, fun i hi => ?_⟩
      · obtain ⟨i, hi, e⟩ := h2 y hy
        exact ⟨i, by omega, e⟩
      · by_cases e : i = m
        · subst e
          have hk' : i ≠ 0 ∧ d[i]! = d[i - 1]! := by
            have : ¬ (i = 0 ∨ d[i]! ≠ d[i - 1]!) := by simpa [Lib.keeps] using hk
            omega
          rw [hk'.2]
          exact h3 (i - 1) (by omega)
        · exact h3 i (by omega)
def sorted (zs : List Int) : List Int := zs.mergeSort fun x y => decide (x ≤ y)
theorem sorted_len (zs : List Int) : (sorted zs).length = zs.length := List.length_mergeSort zs
theorem sorted_le (zs : List Int) : ∀ i j, i ≤ j → j < (sorted zs).toArray.size → (sorted zs).toArray[i]! ≤ (sorted zs).toArray[j]! := by
  intro i j hij hj
  have hp : (sorted zs).Pairwise (fun a b => decide (a ≤ b) = true) := List.pairwise_mergeSort (fun a b c h1 h2 => by simp at *; omega) (fun a b => by simp; omega) zs
  have hj' : j < (sorted zs).length := by simpa using hj
  rcases Nat.lt_or_eq_of_le hij with h | e
  · have := List.pairwise_iff_getElem.1 hp i j (by omega) hj' h
    rw [getElem!_pos _ i (by simpa using by omega), getElem!_pos _ j (by simpa using hj')]
    simpa using this
  · subst e; exact Int.le_refl _
theorem compact_sorted (zs : List Int) : Asc (Lib.compact (sorted zs)) ∧ ∀ y, y ∈ Lib.compact (sorted zs) ↔ y ∈ zs := by
  have h := compactUpTo_inv (sorted zs).toArray (sorted_le zs) (sorted zs).length (by simp)
  refine ⟨h.1, fun y => ⟨fun hy => ?_, fun hy => ?_⟩⟩
  · obtain ⟨i, hi, rfl⟩ := h.2.1 y hy
    rw [getElem!_pos _ i (by simpa using hi)]
    have : (sorted zs).toArray[i]'(by simpa using hi) ∈ sorted zs := by simp
    exact List.mem_mergeSort.1 this
  · have hm : y ∈ sorted zs := List.mem_mergeSort.2 hy
    obtain ⟨i, hi, e⟩ := List.getElem_of_mem hm
    have := h.2.2 i hi
    rw [getElem!_pos _ i (by simpa using hi)] at this
    show y ∈ Lib.compactUpTo (sorted zs).toArray (sorted zs).length
    simpa [e] using this
/-- All numbers put in, one after the other. -/
def puts : List Int → List Int → List Int
  | acc, [] => acc
  | acc, x :: t => puts (putL acc x) t
theorem puts_app (acc l : List Int) (x : Int) : puts acc (l ++ [x]) = putL (puts acc l) x := by
  induction l generalizing acc with
  | nil => rfl
  | cons y t ih => exact ih (putL acc y)
theorem puts_asc {l : List Int} : ∀ {acc : List Int}, Asc acc → Asc (puts acc l) ∧ ∀ y, y ∈ puts acc l ↔ y ∈ acc ∨ y ∈ l := by
  induction l with
  | nil => intro acc h; exact ⟨h, fun y => by simp [puts]⟩
  | cons x t ih =>
    intro acc h
    obtain ⟨h1, h2⟩ := ih (asc_putL (n := x) h)
    refine ⟨h1, fun y => ?_⟩
    show y ∈ puts (putL acc x) t ↔ _
    rw [h2 y, mem_putL, List.mem_cons]
    constructor
    · rintro ((h | h) | h)
      · exact Or.inr (Or.inl h)
      · exact Or.inl h
      · exact Or.inr (Or.inr h)
    · rintro (h | h | h)
      · exact Or.inl (Or.inr h)
      · exact Or.inl (Or.inl h)
      · exact Or.inr h
theorem puts_len : ∀ (l acc : List Int), (puts acc l).length ≤ acc.length + l.length
  | [], acc => by simp [puts]
  | x :: t, acc => by
    have h1 := puts_len t (putL acc x)
    have h2 := putL_len x acc
    show (puts (putL acc x) t).length ≤ _
    simp only [List.length_cons]
    omega
theorem puts_eq (zs : List Int) : puts [] zs = Lib.compact (sorted zs) := by
  have h1 := puts_asc (l := zs) (acc := []) (by simp [Asc])
  have h2 := compact_sorted zs
  exact asc_ext h1.1 h2.1 fun y => by rw [h1.2 y, h2.2 y]; simp
theorem compact_len (zs : List Int) : (Lib.compact (sorted zs)).length ≤ zs.length := by
  rw [← puts_eq]
  have := puts_len zs []
  simpa using this
end Go.Proofs.Ytcpnchjgklemgaa
namespace Go.Proofs.Ytcpnchjgklemgaa
open Go.ChangeShapes Go.WideShapes Go.ChangeAt Go.RowKit
set_option linter.unusedVariables false

theorem addr_zero (g k : Nat) : (⟨g, 0, none⟩ : Addr).add k = ⟨g, k, none⟩ := by
  unfold Addr.add
  by_cases h : k = 0 <;> simp [h]
theorem block_cell {w : World} {g : Nat} {cs : Array Value} {t : TypeId} (h : w.heap[g]? = some (.cells cs t (0, 0))) (k : Nat) : w.cell? ⟨g, k, none⟩ = cs[k]? := by simp [World.cell?, h]
theorem block_frozen {w : World} {g : Nat} {cs : Array Value} {t : TypeId} (h : w.heap[g]? = some (.cells cs t (0, 0))) (k : Nat) : w.frozen? ⟨g, k, none⟩ = false := by simp [World.frozen?, h]

/-- The cells of the elements, one behind the other. -/
def flatOf {α : Type} (enc : α → List Value) (l : List α) : List Value := l.flatMap enc
section
variable {α : Type} {enc : α → List Value} {s : Nat}
theorem flatOf_len (hs : ∀ x, (enc x).length = s) : ∀ l : List α, (flatOf enc l).length = l.length * s
  | [] => by simp [flatOf]
  | x :: t => by
    have := flatOf_len hs t
    unfold flatOf at this ⊢
    rw [List.flatMap_cons, List.length_append, hs, this, List.length_cons, Nat.succ_mul]
    omega
theorem flatOf_app (l l' : List α) : flatOf enc (l ++ l') = flatOf enc l ++ flatOf enc l' := by simp [flatOf]
theorem flatOf_at (hs : ∀ x, (enc x).length = s) : ∀ (l : List α) (j : Nat) (x : α) (i : Nat), l[j]? = some x → i < s → (flatOf enc l)[j * s + i]? = (enc x)[i]?
  | [], j, x, i, h, hi => by simp at h
  | y :: t, 0, x, i, h, hi => by
    simp only [List.getElem?_cons_zero, Option.some.injEq] at h
    subst h
    unfold flatOf
    rw [List.flatMap_cons, List.getElem?_append_left (by rw [hs]; omega)]
    simp
  | y :: t, j + 1, x, i, h, hi => by
    have h2 : t[j]? = some x := by simpa using h
    have ih := flatOf_at hs t j x i h2 hi
    unfold flatOf at ih ⊢
    rw [List.flatMap_cons, List.getElem?_append_right (by rw [hs, Nat.succ_mul]; omega), hs, ← ih]
    congr 1
    rw [Nat.succ_mul]
    omega

/-- From a on lie n elements: the list l. -/
structure Items (enc : α → List Value) (s : Nat) (w : World) (a : Option Addr) (n : Nat) (l : List α) : Prop where
  len : l.length = n
  fits : (n : Int) ≤ 9223372036854775807
  cell : ∀ j x, l[j]? = some x → ∃ b o, a = some ⟨b, o, none⟩ ∧ ∀ i v, (enc x)[i]? = some v → w.cell? ⟨b, o + j * s + i, none⟩ = some v
variable {w w' : World} {a : Option Addr} {n c B : Nat} {l : List α} {t : TypeId}
theorem Items.nothing : Items enc s w none 0 [] := ⟨rfl, by omega, fun j x h => by simp at h⟩
theorem Items.same (h : Items enc s w a n l) (hb : Below w.heap.size w w') : Items enc s w' a n l :=
  ⟨h.len, h.fits, fun j x hj => by
    obtain ⟨b, o, e, hx⟩ := h.cell j x hj
    exact ⟨b, o, e, fun i v hv => by rw [hb.cell (cell_in (hx i v hv))]; exact hx i v hv⟩⟩
theorem Items.at_ (h : Items enc s w a n l) {j : Nat} (hj : j < n) : ∃ b o x, a = some ⟨b, o, none⟩ ∧ l[j]? = some x ∧ ∀ i v, (enc x)[i]? = some v → w.cell? ⟨b, o + j * s + i, none⟩ = some v := by
  have hl : j < l.length := by rw [h.len]; exact hj
  obtain ⟨b, o, e, hx⟩ := h.cell j _ (List.getElem?_eq_getElem hl)
  exact ⟨b, o, _, e, List.getElem?_eq_getElem hl, hx⟩
theorem Items.take (h : Items enc s w a n l) (m : Nat) (hm : m ≤ n) : Items enc s w a m (l.take m) := by
  refine ⟨by rw [List.length_take, h.len]; omega, by have := h.fits; omega, fun j x hj => h.cell j x ?_⟩
  rw [List.getElem?_take] at hj
  split at hj
  · exact hj
  · cases hj

/-- The slice is the call's own, in a block from B on; it holds l. -/
def OwnI (enc : α → List Value) (s : Nat) (t : TypeId) (w : World) (B : Nat) (a : Option Addr) (n c : Nat) (l : List α) : Prop :=
  l.length = n ∧ w.ownsRow B t s (.slice a n c) n (flatOf enc l)
theorem OwnI.len (h : OwnI enc s t w B a n c l) : l.length = n := h.1
theorem OwnI.row (h : OwnI enc s t w B a n c l) : w.ownsRow B t s (.slice a n c) n (flatOf enc l) := h.2
theorem OwnI.room (h : OwnI enc s t w B a n c l) : n ≤ c ∧ (c : Int) ≤ 9223372036854775807 := by
  rcases h.2.2 with ⟨h1, h2⟩ | ⟨g, cap, cur, h1, _, _, h2, h3, _⟩
  · injection h1 with h3 h4 h5
    subst h5
    subst h2
    exact ⟨Nat.le_refl _, by omega⟩
  · injection h1 with h4 h5 h6
    subst h6
    unfold maxLen at h3
    exact ⟨h2, by omega⟩
theorem OwnI.span (h : OwnI enc s t w B a n c l) : Span a B w.heap.size := by
  intro ad e
  subst e
  exact h.2.lt ad.block rfl
theorem OwnI.head (h : OwnI enc s t w B a n c l) (hn : 0 < n) : ∃ g, a = some ⟨g, 0, none⟩ ∧ B ≤ g ∧ g < w.heap.size := by
  obtain ⟨g, cap, e, h1, h2⟩ := h.2.form hn
  injection e with e1 e2 e3
  exact ⟨g, e1, h1, h2⟩
theorem OwnI.items (hs : ∀ x, (enc x).length = s) (h : OwnI enc s t w B a n c l) : Items enc s w a n l := by
  refine ⟨h.1, by have := h.room; omega, fun j x hj => ?_⟩
  have hjl : j < l.length := by
    rcases Nat.lt_or_ge j l.length with h1 | h1
    · exact h1
    · rw [List.getElem?_eq_none h1] at hj; cases hj
  obtain ⟨g, e, _, _⟩ := h.head (by have := h.1; omega)
  subst e
  refine ⟨g, 0, rfl, fun i v hv => ?_⟩
  have his : i < s := by
    rcases Nat.lt_or_ge i s with h1 | h1
    · exact h1
    · rw [List.getElem?_eq_none (by rw [hs]; exact h1)] at hv; cases hv
  have h2 := h.2.cells (g := g) rfl (j * s + i) v (by rw [flatOf_at hs l j x i hj his]; exact hv)
  rw [Nat.zero_add]
  rw [addr_zero] at h2
  exact h2
theorem OwnI.same (h : OwnI enc s t w B a n c l) (hb : Below w.heap.size w w') : OwnI enc s t w' B a n c l := by
  cases a with
  | none => exact ⟨h.1, h.2.kept (grown_below hb none) (Or.inl rfl)⟩
  | some ad => exact ⟨h.1, h.2.kept (grown_below hb none) (Or.inr (by simp [Value.ownBlock]))⟩
/-- A write to a slice that lies in other blocks. -/
theorem OwnI.apart {b : Option Addr} {m d lo hi lo' hi' : Nat} (h : OwnI enc s t w B a n c l) (hg : w.grownBy w' (Value.ownBlock (.slice b m d))) (sp : Span a lo hi) (sp' : Span b lo' hi') (hd : hi ≤ lo' ∨ hi' ≤ lo) : OwnI enc s t w' B a n c l := by
  cases a with
  | none => exact ⟨h.1, h.2.kept hg (Or.inl rfl)⟩
  | some ad =>
    refine ⟨h.1, h.2.kept hg (Or.inr ?_)⟩
    have h1 := sp ad rfl
    cases b with
    | none => simp [Value.ownBlock]
    | some be =>
      have h2 := sp' be rfl
      simp only [Value.ownBlock, ne_eq, Option.some.injEq]
      omega
theorem OwnI.lower (h : OwnI enc s t w B a n c l) {B' : Nat} (hB : B' ≤ B) : OwnI enc s t w B' a n c l := by
  refine ⟨h.1, h.2.1, ?_⟩
  rcases h.2.2 with h1 | ⟨g, cap, cur, h1, h2, h3⟩
  · exact Or.inl h1
  · exact Or.inr ⟨g, cap, cur, h1, Nat.le_trans hB h2, h3⟩
theorem OwnI.nil : OwnI enc s t w B none 0 0 [] := ⟨rfl, World.ownsRow_nil _ _ _ _⟩
theorem OwnI.alloc (h : OwnI enc s t w B a n c l) (o : Obj) : OwnI enc s t (w.alloc o) B a n c l := ⟨h.1, h.2.alloc o⟩
end
/-- What a function leaves that makes a slice of structs. -/
def MadeI {α : Type} (enc : α → List Value) (s : Nat) (t : TypeId) (B : Nat) (l : List α) (w : World) (e : Ending) (w' : World) : Prop :=
  ∃ a n c, e = .returned (.slice a n c) ∧ OwnI enc s t w' B a n c l ∧ Below B w w'

/-- What a row owns, four cells later. -/
theorem stored4 {w : World} {B : Nat} {t : TypeId} {s g n cap : Nat} {xs : List Value} (h : w.ownsRow B t s (.slice (some ⟨g, 0, none⟩) n cap) n xs) (j0 j1 j2 j3 : Nat) (v0 v1 v2 v3 : Value) :
    ((((w.setCell ⟨g, j0, none⟩ v0).setCell ⟨g, j1, none⟩ v1).setCell ⟨g, j2, none⟩ v2).setCell ⟨g, j3, none⟩ v3).ownsRow B t s (.slice (some ⟨g, 0, none⟩) n cap) n ((((xs.set j0 v0).set j1 v1).set j2 v2).set j3 v3) ∧
    w.grownBy ((((w.setCell ⟨g, j0, none⟩ v0).setCell ⟨g, j1, none⟩ v1).setCell ⟨g, j2, none⟩ v2).setCell ⟨g, j3, none⟩ v3) (some g) := by
  have h0 := h.stored j0 v0
  have h1 := h0.1.stored j1 v1
  have h2 := h1.1.stored j2 v2
  have h3 := h2.1.stored j3 v3
  exact ⟨h3.1, h0.2.trans (h1.2.trans (h2.2.trans h3.2))⟩

/-- Fields of messages. -/
structure Fd where
  kind : Int
  max : Int
  cond : Int
  is : Int
def Fd.enc (x : Fd) : List Value := [.int .i64 x.kind, .int .i64 x.max, .int .i64 x.cond, .int .i64 x.is]
def Fd.val (x : Fd) : Value := .agg #[.int .i64 x.kind, .int .i64 x.max, .int .i64 x.cond, .int .i64 x.is]
theorem Fd.enc_len (x : Fd) : x.enc.length = 4 := rfl
abbrev Fds := Items Fd.enc 4
abbrev OwnF := OwnI Fd.enc 4
/-- The element's four cells. -/
theorem fds_at {w : World} {a : Option Addr} {n : Nat} {l : List Fd} (h : Fds w a n l) {j : Nat} (hj : j < n) : ∃ b o x, a = some ⟨b, o, none⟩ ∧ l[j]? = some x ∧
    w.cell? ⟨b, o + j * 4, none⟩ = some (.int .i64 x.kind) ∧ w.cell? ⟨b, o + j * 4 + 1, none⟩ = some (.int .i64 x.max) ∧ w.cell? ⟨b, o + j * 4 + 2, none⟩ = some (.int .i64 x.cond) ∧ w.cell? ⟨b, o + j * 4 + 3, none⟩ = some (.int .i64 x.is) := by
  obtain ⟨b, o, x, e, hx, hc⟩ := h.at_ hj
  exact ⟨b, o, x, e, hx, by simpa using hc 0 _ rfl, hc 1 _ rfl, hc 2 _ rfl, hc 3 _ rfl⟩
end Go.Proofs.Ytcpnchjgklemgaa
namespace Go.Proofs.Ytcpnchjgklemgaa
open Go.ChangeShapes Go.WideShapes Go.ChangeAt Go.RowKit
set_option linter.unusedVariables false

theorem infoIntS : (Try.prog.info? 3).map (fun i => (i.zero, i.size, i.bytes)) = some (some (.int .i64 0), 1, 8) := by kernel_rfl

end Go.Proofs.Ytcpnchjgklemgaa
