/- A stable sort, as arrays have it: what is kept of the elements with one key, what a rotation does, and how two ascending parts become one. No program is spoken of. -/
import Derived.Sort.LotA
namespace Go.Proofs.Ytjmabidahofbbaa
open Go.Sort
set_option linter.unusedVariables false
section
variable {α : Type} [Inhabited α]

/-- The elements at the places a ≤ i < b. -/
def seg (d : Array α) (a b : Nat) : List α := (List.range' a (b - a)).map fun i => d[i]!
theorem seg_split (d : Array α) {a m b : Nat} (h1 : a ≤ m) (h2 : m ≤ b) : seg d a b = seg d a m ++ seg d m b := by
  unfold seg
  rw [← List.map_append]
  have := List.range'_append_1 (s := a) (m := m - a) (n := b - m)
  rw [show a + (m - a) = m by omega, show m - a + (b - m) = b - a by omega] at this
  rw [this]
theorem seg_congr {d d' : Array α} {a b : Nat} (h : ∀ i, a ≤ i → i < b → d'[i]! = d[i]!) : seg d' a b = seg d a b := by
  unfold seg
  exact List.map_congr_left fun i hi => by have := List.mem_range'_1.1 hi; exact h i this.1 (by omega)
theorem seg_shift {d d' : Array α} {a b a' b' : Nat} (hl : b' - a' = b - a) (h : ∀ k, k < b - a → d'[a' + k]! = d[a + k]!) : seg d' a' b' = seg d a b := by
  unfold seg
  rw [hl]
  apply List.ext_getElem
  · simp
  · intro k h1 h2
    have hk : k < b - a := by simpa using h2
    simp only [List.getElem_map, List.getElem_range', Nat.one_mul]
    exact h k hk
theorem mem_seg {d : Array α} {a b : Nat} {x : α} : x ∈ seg d a b ↔ ∃ i, a ≤ i ∧ i < b ∧ d[i]! = x := by
  unfold seg
  rw [List.mem_map]
  constructor
  · rintro ⟨i, hi, rfl⟩
    have := List.mem_range'_1.1 hi
    exact ⟨i, this.1, by omega, rfl⟩
  · rintro ⟨i, h1, h2, rfl⟩
    exact ⟨i, List.mem_range'_1.2 ⟨h1, by omega⟩, rfl⟩
theorem seg_all (d : Array α) : seg d 0 d.size = d.toList := by
  have := extract_toList d 0 d.size (Nat.le_refl _)
  unfold seg
  rw [← this]
  simp

variable (key : α → Int)
def ltK : α → α → Bool := fun x y => decide (key x < key y)
omit [Inhabited α] in
theorem swoK : SWO (ltK key) where
  irrefl x := by simp [ltK]
  trans x y z h1 h2 := by simp only [ltK, decide_eq_true_eq] at *; omega
  ntrans x y z h1 h2 := by simp only [ltK, decide_eq_false_iff_not] at *; omega
/-- Ascending on a ≤ i < b. -/
def Up (a b : Nat) (d : Array α) : Prop := ∀ i j, a ≤ i → i < j → j < b → key d[i]! ≤ key d[j]!
/-- d' is d with the places a ≤ i < b permuted, those of one key in their order. -/
def Stb (a b : Nat) (d d' : Array α) : Prop :=
  d'.size = d.size ∧ (∀ i, i < a ∨ b ≤ i → d'[i]! = d[i]!) ∧ ∀ t : Int, (seg d' a b).filter (fun x => key x == t) = (seg d a b).filter (fun x => key x == t)
variable {key} {d d' d'' : Array α} {a b m : Nat}
theorem Stb.refl : Stb key a b d d := ⟨rfl, fun _ _ => rfl, fun _ => rfl⟩
theorem Stb.trans (h : Stb key a b d d') (h' : Stb key a b d' d'') : Stb key a b d d'' :=
  ⟨h'.1.trans h.1, fun i hi => (h'.2.1 i hi).trans (h.2.1 i hi), fun t => (h'.2.2 t).trans (h.2.2 t)⟩
theorem Stb.mono {a' b' : Nat} (h : Stb key a b d d') (ha : a' ≤ a) (hab : a ≤ b) (hb : b ≤ b') : Stb key a' b' d d' := by
  refine ⟨h.1, fun i hi => h.2.1 i (by omega), fun t => ?_⟩
  rw [seg_split d' (show a' ≤ a by omega) (show a ≤ b' by omega), seg_split d' hab hb, seg_split d (show a' ≤ a by omega) (show a ≤ b' by omega), seg_split d hab hb,
    seg_congr (d := d) (d' := d') (a := a') (b := a) (fun i _ h2 => h.2.1 i (Or.inl h2)), seg_congr (d := d) (d' := d') (a := b) (b := b') (fun i h1 _ => h.2.1 i (Or.inr h1))]
  simp only [List.filter_append]
  rw [h.2.2 t]
theorem Stb.mem (h : Stb key a b d d') {x : α} (hx : x ∈ seg d' a b) : x ∈ seg d a b := by
  have h1 : x ∈ (seg d' a b).filter (fun y => key y == key x) := List.mem_filter.2 ⟨hx, by simp⟩
  rw [h.2.2] at h1
  exact (List.mem_filter.1 h1).1
theorem Stb.all (h : Stb key a b d d') {p : α → Prop} (hp : ∀ i, a ≤ i → i < b → p d[i]!) : ∀ i, a ≤ i → i < b → p d'[i]! := by
  intro i h1 h2
  obtain ⟨j, j1, j2, e⟩ := mem_seg.1 (h.mem (mem_seg.2 ⟨i, h1, h2, rfl⟩))
  rw [← e]
  exact hp j j1 j2
/-- The elements of one key, of the whole. -/
theorem Stb.whole (h : Stb key 0 d.size d d') (t : Int) : d'.toList.filter (fun x => key x == t) = d.toList.filter (fun x => key x == t) := by
  rw [← seg_all, ← seg_all, h.1]
  exact h.2.2 t

/-- The parts [a, m) and [m, b) have changed their places. -/
def Rot (a m b : Nat) (d d' : Array α) : Prop :=
  d'.size = d.size ∧ ∀ i, d'[i]! = if a ≤ i ∧ i < b then (if i < a + (b - m) then d[m + (i - a)]! else d[i - (b - m)]!) else d[i]!
theorem Rot.stb (h : Rot a m b d d') (h1 : a ≤ m) (h2 : m ≤ b) (hk : ∀ i j, a ≤ i → i < m → m ≤ j → j < b → key d[j]! < key d[i]!) : Stb key a b d d' := by
  refine ⟨h.1, fun i hi => ?_, fun t => ?_⟩
  · rw [h.2 i, if_neg (by omega)]
  · have e1 : seg d' a (a + (b - m)) = seg d m b := seg_shift (by omega) fun k hk => by
      rw [h.2, if_pos (by omega), if_pos (by omega)]
      congr 1; omega
    have e2 : seg d' (a + (b - m)) b = seg d a m := seg_shift (by omega) fun k hk => by
      rw [h.2, if_pos (by omega), if_neg (by omega)]
      congr 1; omega
    rw [seg_split d' (show a ≤ a + (b - m) by omega) (show a + (b - m) ≤ b by omega), seg_split d h1 h2, e1, e2]
    simp only [List.filter_append]
    by_cases hx : (seg d a m).filter (fun x => key x == t) = []
    · rw [hx]; simp
    · by_cases hy : (seg d m b).filter (fun x => key x == t) = []
      · rw [hy]; simp
      · obtain ⟨x, hx'⟩ := List.exists_mem_of_ne_nil _ hx
        obtain ⟨y, hy'⟩ := List.exists_mem_of_ne_nil _ hy
        obtain ⟨x1, x2⟩ := List.mem_filter.1 hx'
        obtain ⟨y1, y2⟩ := List.mem_filter.1 hy'
        obtain ⟨i, i1, i2, rfl⟩ := mem_seg.1 x1
        obtain ⟨j, j1, j2, rfl⟩ := mem_seg.1 y1
        have := hk i j i1 i2 j1 j2
        simp only [beq_iff_eq] at x2 y2
        omega
theorem Rot.none (h : m ≤ a ∨ b ≤ m) (h1 : a ≤ m) (h2 : m ≤ b) : Rot a m b d d := by
  refine ⟨rfl, fun i => ?_⟩
  by_cases hi : a ≤ i ∧ i < b
  · rw [if_pos hi]
    rcases h with h | h
    · rw [if_pos (by omega)]; congr 1; omega
    · rw [if_neg (by omega)]; congr 1; omega
  · rw [if_neg hi]
/-- An exchange of neighbours. -/
theorem rot_swp {j : Nat} (hj : j + 1 < d.size) : Rot j (j + 1) (j + 2) d (swp d (j + 1) j) := by
  refine ⟨swp_size _ _ _, fun i => ?_⟩
  rw [swp_get d hj (show j < d.size by omega)]
  by_cases h1 : i = j
  · subst h1
    rw [if_pos rfl, if_pos (by omega), if_pos (by omega)]
    congr 1; omega
  · rw [if_neg h1]
    by_cases h2 : i = j + 1
    · subst h2
      rw [if_pos rfl, if_pos (by omega), if_neg (by omega)]
      congr 1; omega
    · rw [if_neg h2, if_neg (by omega)]
theorem swp_comm {i j : Nat} (hi : i < d.size) (hj : j < d.size) : swp d i j = swp d j i := by
  apply Array.ext
  · simp [swp]
  · intro k h1 h2
    have e1 := swp_get d hi hj k
    have e2 := swp_get d hj hi k
    rw [getElem!_pos _ k h1] at e1
    rw [getElem!_pos _ k h2] at e2
    rw [e1, e2]
    by_cases a : k = j
    · subst a
      rw [if_pos rfl]
      by_cases c : k = i
      · subst c; rw [if_pos rfl]
      · rw [if_neg c, if_pos rfl]
    · rw [if_neg a]
      by_cases c : k = i
      · subst c; rw [if_pos rfl, if_pos rfl]
      · rw [if_neg c, if_neg c, if_neg a]
theorem insInner_stb {i : Nat} : ∀ (j : Nat) (d : Array α), a ≤ j → j ≤ i → i < b → b ≤ d.size → Stb key a b d (insInner (ltK key) a j d)
  | 0, d, _, _, _, _ => by rw [insInner]; exact Stb.refl
  | j + 1, d, h1, h2, h3, h4 => by
    rw [insInner]
    by_cases h : (decide (j + 1 > a) && ltK key d[j + 1]! d[j]!) = true
    · rw [if_pos h]
      simp only [Bool.and_eq_true, decide_eq_true_eq, ltK] at h
      have st : Stb key j (j + 2) d (swp d (j + 1) j) := (rot_swp (by omega)).stb (by omega) (by omega) fun p q p1 p2 q1 q2 => by
        have e1 : p = j := by omega
        have e2 : q = j + 1 := by omega
        subst e1 e2; exact h.2
      exact (st.mono (by omega) (by omega) (by omega)).trans (insInner_stb j _ (by omega) (by omega) h3 (by rw [swp_size]; exact h4))
    · rw [if_neg h]; exact Stb.refl
theorem insOuter_stb : ∀ (n i : Nat) (d : Array α), b - i = n → a ≤ i → b ≤ d.size → Stb key a b d (insOuter (ltK key) a b i d)
  | 0, i, d, hn, h1, h2 => by rw [insOuter, if_neg (by omega)]; exact Stb.refl
  | n + 1, i, d, hn, h1, h2 => by
    rw [insOuter, if_pos (by omega)]
    have s := insInner_stb (key := key) (a := a) (b := b) (i := i) i d h1 (Nat.le_refl _) (by omega) h2
    exact s.trans (insOuter_stb n (i + 1) _ (by omega) (by omega) (by rw [s.1]; exact h2))
theorem insertion_stb (d : Array α) (hab : a ≤ b) (hb : b ≤ d.size) : Stb key a b d (insertionSort (ltK key) d a b) ∧ Up key a b (insertionSort (ltK key) d a b) := by
  refine ⟨insOuter_stb (b - (a + 1)) (a + 1) d rfl (by omega) hb, fun i j h1 h2 h3 => ?_⟩
  have := (insertionSort_holds (lt := ltK key) (swoK key) d a b hab hb).2 i j h1 h2 h3
  simp only [ltK, decide_eq_false_iff_not] at this
  omega
theorem Up.congr (h : Up key a b d) (he : ∀ i, a ≤ i → i < b → d'[i]! = d[i]!) : Up key a b d' := by
  intro i j h1 h2 h3
  rw [he i h1 (by omega), he j (by omega) h3]
  exact h i j h1 h2 h3
theorem Up.part (h : Up key a b d) {a' b' : Nat} (ha : a ≤ a') (hb : b' ≤ b) : Up key a' b' d := fun i j h1 h2 h3 => h i j (by omega) h2 (by omega)
theorem Up.short (h : b ≤ a + 1) : Up key a b d := fun i j h1 h2 h3 => by omega
theorem Up.join (h : Up key a m d) (h' : Up key m b d) (hc : ∀ i j, a ≤ i → i < m → m ≤ j → j < b → key d[i]! ≤ key d[j]!) : Up key a b d := by
  intro i j h1 h2 h3
  by_cases hj : j < m
  · exact h i j h1 h2 hj
  · by_cases hi : i < m
    · exact hc i j h1 hi (by omega) h3
    · exact h' i j (by omega) h2 h3

/-- What the search of a merge has found: [s, m) comes behind [m, e), and nothing else has to move across the middle. -/
structure Cut (key : α → Int) (a s m e b : Nat) (d : Array α) : Prop where
  lo : a ≤ s
  sm : s ≤ m
  me : m ≤ e
  hi : e ≤ b
  ul : Up key a m d
  ur : Up key m b d
  stays : ∀ i j, a ≤ i → i < s → e ≤ j → j < b → key d[i]! ≤ key d[j]!
  moves : ∀ i j, s ≤ i → i < m → m ≤ j → j < e → key d[j]! < key d[i]!
variable {s e : Nat}
theorem Cut.stb (h : Cut key a s m e b d) (r : Rot s m e d d') : Stb key a b d d' := (r.stb h.sm h.me h.moves).mono h.lo (by have := h.sm; have := h.me; omega) h.hi
theorem Cut.parts (h : Cut key a s m e b d) (r : Rot s m e d d') : Up key a s d' ∧ Up key s (s + (e - m)) d' ∧ Up key (s + (e - m)) e d' ∧ Up key e b d' := by
  have := h.lo; have := h.sm; have := h.me; have := h.hi
  refine ⟨?_, ?_, ?_, ?_⟩
  · exact (h.ul.part (Nat.le_refl _) h.sm).congr fun i h1 h2 => by rw [r.2, if_neg (by omega)]
  · intro i j h1 h2 h3
    rw [r.2, if_pos (by omega), if_pos (by omega), r.2, if_pos (by omega), if_pos (by omega)]
    exact h.ur _ _ (by omega) (by omega) (by omega)
  · intro i j h1 h2 h3
    rw [r.2, if_pos (by omega), if_neg (by omega), r.2, if_pos (by omega), if_neg (by omega)]
    exact h.ul _ _ (by omega) (by omega) (by omega)
  · exact (h.ur.part h.me (Nat.le_refl _)).congr fun i h1 h2 => by rw [r.2, if_neg (by omega)]
theorem Cut.across (h : Cut key a s m e b d) (r : Rot s m e d d') : ∀ i j, a ≤ i → i < s + (e - m) → s + (e - m) ≤ j → j < b → key d'[i]! ≤ key d'[j]! := by
  have := h.lo; have := h.sm; have := h.me; have := h.hi
  intro i j h1 h2 h3 h4
  by_cases hi : i < s
  · rw [r.2 i, if_neg (by omega)]
    by_cases hj : j < e
    · rw [r.2 j, if_pos (by omega), if_neg (by omega)]
      exact h.ul _ _ (by omega) (by omega) (by omega)
    · rw [r.2 j, if_neg (by omega)]
      exact h.stays _ _ h1 hi (by omega) h4
  · rw [r.2 i, if_pos (by omega), if_pos (by omega)]
    by_cases hj : j < e
    · rw [r.2 j, if_pos (by omega), if_neg (by omega)]
      exact Int.le_of_lt (h.moves _ _ (by omega) (by omega) (by omega) (by omega))
    · rw [r.2 j, if_neg (by omega)]
      exact h.ur _ _ (by omega) (by omega) (by omega)
/-- The two halves merged on their own: the whole is. -/
theorem Cut.done {d1 d2 : Array α} (h : Cut key a s m e b d) (r : Rot s m e d d') (h1 : Stb key a (s + (e - m)) d' d1) (u1 : Up key a (s + (e - m)) d1) (h2 : Stb key (s + (e - m)) b d1 d2) (u2 : Up key (s + (e - m)) b d2) :
    Stb key a b d d2 ∧ Up key a b d2 := by
  have := h.lo; have := h.sm; have := h.me; have := h.hi
  refine ⟨(h.stb r).trans ((h1.mono (Nat.le_refl _) (by omega) (by omega)).trans (h2.mono (by omega) (by omega) (Nat.le_refl _))), ?_⟩
  refine Up.join (m := s + (e - m)) (u1.congr fun i _ hi => h2.2.1 i (Or.inl hi)) u2 ?_
  intro i j i1 i2 j1 j2
  rw [h2.2.1 i (Or.inl i2)]
  have A := h.across r
  have A1 : ∀ i, a ≤ i → i < s + (e - m) → ∀ j, s + (e - m) ≤ j → j < b → key d1[i]! ≤ key d'[j]! := fun i i1 i2 j j1 j2 => h1.all (p := fun x => key x ≤ key d'[j]!) (fun k k1 k2 => A k j k1 k2 j1 j2) i i1 i2
  exact h2.all (p := fun x => key d1[i]! ≤ key x) (fun k k1 k2 => by rw [h1.2.1 k (Or.inr k1)]; exact A1 i i1 i2 k k1 k2) j j1 j2

/-- n elements from a on and n from b on have changed their places. -/
def SwR (a b n : Nat) (d d' : Array α) : Prop :=
  d'.size = d.size ∧ ∀ i, d'[i]! = if a ≤ i ∧ i < a + n then d[b + (i - a)]! else if b ≤ i ∧ i < b + n then d[a + (i - b)]! else d[i]!
theorem SwR.zero : SwR a b 0 d d := ⟨rfl, fun i => by rw [if_neg (by omega), if_neg (by omega)]⟩
theorem SwR.step {n N : Nat} (h : SwR a b n d d') (hn : n < N) (hab : a + N ≤ b) (hb : b + N ≤ d.size) : SwR a b (n + 1) d (swp d' (a + n) (b + n)) := by
  refine ⟨by rw [swp_size]; exact h.1, fun i => ?_⟩
  rw [swp_get d' (by rw [h.1]; omega) (by rw [h.1]; omega)]
  by_cases h1 : i = b + n
  · subst h1
    rw [if_pos rfl, h.2, if_neg (by omega), if_neg (by omega), if_neg (by omega), if_pos (by omega)]
    congr 1; omega
  · rw [if_neg h1]
    by_cases h2 : i = a + n
    · subst h2
      rw [if_pos rfl, h.2, if_neg (by omega), if_neg (by omega), if_pos (by omega)]
      congr 1; omega
    · rw [if_neg h2, h.2]
      by_cases h3 : a ≤ i ∧ i < a + n
      · rw [if_pos h3, if_pos (by omega)]
      · rw [if_neg h3, if_neg (show ¬(a ≤ i ∧ i < a + (n + 1)) by omega)]
        by_cases h4 : b ≤ i ∧ i < b + n
        · rw [if_pos h4, if_pos (by omega)]
        · rw [if_neg h4, if_neg (by omega)]
/-- The steps of a rotation. -/
theorem rot_left {i j : Nat} (h : SwR (m - i) m j d d') (hi : i ≤ m) (hj : 0 < j) (hij : j < i) (r : Rot (m - (i - j)) m (m + j) d' d'') : Rot (m - i) m (m + j) d d'' := by
  refine ⟨r.1.trans h.1, fun k => ?_⟩
  rw [r.2 k]
  by_cases h1 : m - i ≤ k ∧ k < m + j
  · rw [if_pos h1]
    by_cases h2 : m - (i - j) ≤ k
    · rw [if_pos (by omega)]
      by_cases h3 : k < m - (i - j) + (m + j - m)
      · rw [if_pos h3, if_neg (by omega), h.2, if_neg (by omega), if_pos (by omega)]
        congr 1; omega
      · rw [if_neg h3, if_neg (by omega), h.2, if_neg (by omega), if_neg (by omega)]
    · rw [if_neg (by omega), if_pos (by omega), h.2, if_pos (by omega)]
  · rw [if_neg h1, if_neg (by omega), h.2, if_neg (by omega), if_neg (by omega)]
theorem rot_right {i j : Nat} (h : SwR (m - i) (m + j - i) i d d') (hi : i ≤ m) (h0 : 0 < i) (hij : i < j) (r : Rot (m - i) m (m + (j - i)) d' d'') : Rot (m - i) m (m + j) d d'' := by
  refine ⟨r.1.trans h.1, fun k => ?_⟩
  rw [r.2 k]
  by_cases h1 : m - i ≤ k ∧ k < m + j
  · rw [if_pos h1]
    by_cases h2 : k < m + (j - i)
    · rw [if_pos (by omega)]
      by_cases h3 : k < m - i + (m + (j - i) - m)
      · rw [if_pos h3, if_pos (by omega), h.2, if_neg (by omega)]
        by_cases h4 : m + j - i ≤ m + (k - (m - i))
        · omega
        · rw [if_neg (by omega)]
      · rw [if_neg h3, h.2, if_pos (by omega)]
        by_cases h4 : k < m - i + (m + j - m)
        · rw [if_pos h4]; congr 1; omega
        · omega
    · rw [if_neg (by omega), h.2, if_neg (by omega), if_pos (by omega), if_neg (by omega)]
      congr 1; omega
  · rw [if_neg h1, if_neg (by omega), h.2, if_neg (by omega), if_neg (by omega)]
theorem rot_last {i : Nat} (h : SwR (m - i) m i d d') (hi : i ≤ m) : Rot (m - i) m (m + i) d d' := by
  refine ⟨h.1, fun k => ?_⟩
  rw [h.2 k]
  by_cases h1 : m - i ≤ k ∧ k < m + i
  · rw [if_pos h1]
    by_cases h2 : k < m
    · rw [if_pos (by omega), if_pos (by omega)]
    · rw [if_neg (by omega), if_pos (by omega), if_neg (by omega)]
      congr 1; omega
  · rw [if_neg h1, if_neg (by omega), if_neg (by omega)]
/-- One element pushed on to the right, and to the left. -/
theorem rot_on {k : Nat} (r : Rot a (a + 1) (k + 1) d d') (hk : a ≤ k) (hb : k + 1 < d.size) : Rot a (a + 1) (k + 2) d (swp d' k (k + 1)) := by
  refine ⟨by rw [swp_size]; exact r.1, fun i => ?_⟩
  rw [swp_get d' (by rw [r.1]; omega) (by rw [r.1]; omega)]
  by_cases h1 : i = k + 1
  · subst h1
    rw [if_pos rfl, r.2, if_pos (by omega), if_neg (by omega), if_pos (by omega), if_neg (by omega)]
    congr 1; omega
  · rw [if_neg h1]
    by_cases h2 : i = k
    · subst h2
      rw [if_pos rfl, r.2, if_neg (by omega), if_pos (by omega), if_pos (by omega)]
      congr 1; omega
    · rw [if_neg h2, r.2]
      by_cases h3 : a ≤ i ∧ i < k + 1
      · rw [if_pos h3, if_pos (by omega), if_pos (by omega), if_pos (by omega)]
      · rw [if_neg h3, if_neg (by omega)]
theorem rot_back {k : Nat} (r : Rot (k + 1) m (m + 1) d d') (hk : k + 1 ≤ m) (hb : m < d.size) : Rot k m (m + 1) d (swp d' (k + 1) k) := by
  refine ⟨by rw [swp_size]; exact r.1, fun i => ?_⟩
  rw [swp_get d' (by rw [r.1]; omega) (by rw [r.1]; omega)]
  by_cases h1 : i = k
  · subst h1
    rw [if_pos rfl, r.2, if_pos (by omega), if_pos (by omega), if_pos (by omega), if_pos (by omega)]
    congr 1; omega
  · rw [if_neg h1]
    by_cases h2 : i = k + 1
    · subst h2
      rw [if_pos rfl, r.2, if_neg (by omega), if_pos (by omega), if_neg (by omega)]
      congr 1; omega
    · rw [if_neg h2, r.2]
      by_cases h3 : k + 1 ≤ i ∧ i < m + 1
      · rw [if_pos h3, if_neg (by omega), if_pos (by omega), if_neg (by omega)]
      · rw [if_neg h3, if_neg (by omega)]
/-- One element on the left, pushed on to its place; one on the right, pushed back. -/
theorem one_left {i : Nat} (h1 : a + 1 ≤ i) (h2 : i ≤ b) (u : Up key (a + 1) b d) (hl : ∀ p, a + 1 ≤ p → p < i → key d[p]! < key d[a]!) (hr : ∀ p, i ≤ p → p < b → key d[a]! ≤ key d[p]!) (r : Rot a (a + 1) i d d') : Stb key a b d d' ∧ Up key a b d' := by
  have c : Cut key a a (a + 1) i b d := ⟨Nat.le_refl _, by omega, h1, h2, Up.short (by omega), u, fun p q p1 p2 q1 q2 => by omega, fun p q p1 p2 q1 q2 => by
    have e : p = a := by omega
    subst e; exact hl q q1 q2⟩
  obtain ⟨_, u1, _, u3⟩ := c.parts r
  refine c.done r Stb.refl u1 Stb.refl ?_
  refine Up.join (m := i) (Up.short (by omega)) u3 ?_
  intro p q p1 p2 q1 q2
  rw [r.2 p, if_pos (by omega), if_neg (by omega), r.2 q, if_neg (by omega)]
  have e : p - (i - (a + 1)) = a := by omega
  rw [e]; exact hr q q1 q2
theorem one_right {i : Nat} (h1 : a ≤ i) (h2 : i ≤ m) (u : Up key a m d) (hl : ∀ p, a ≤ p → p < i → key d[p]! ≤ key d[m]!) (hr : ∀ p, i ≤ p → p < m → key d[m]! < key d[p]!) (r : Rot i m (m + 1) d d') : Stb key a (m + 1) d d' ∧ Up key a (m + 1) d' := by
  have c : Cut key a i m (m + 1) (m + 1) d := ⟨h1, h2, by omega, Nat.le_refl _, u, Up.short (by omega), fun p q p1 p2 q1 q2 => by omega, fun p q p1 p2 q1 q2 => by
    have e : q = m := by omega
    subst e; exact hr p p1 p2⟩
  obtain ⟨u0, _, u2, _⟩ := c.parts r
  refine c.done r Stb.refl ?_ Stb.refl u2
  refine Up.join (m := i) u0 (Up.short (by omega)) ?_
  intro p q p1 p2 q1 q2
  rw [r.2 p, if_neg (by omega), r.2 q, if_pos (by omega), if_pos (by omega)]
  have e : m + (q - i) = m := by omega
  rw [e]; exact hl p p1 p2

/-- What the search in two ascending parts has found (s: where it stands; its bounds lo, hi; mid + m = N): what it goes by, and what follows. -/
theorem cut_found {mid s lo hi : Nat} (ha : a < m) (hb : m < b) (h1 : a ≤ lo) (hlo : mid + m ≤ b + lo) (hb' : lo = a ∨ lo + b = mid + m) (h2 : lo ≤ s) (h3 : s ≤ hi) (h4 : hi ≤ m) (h5 : hi ≤ mid) (hh : hi = m ∨ hi = mid) (ul : Up key a m d) (ur : Up key m b d)
    (k1 : s = lo ∨ key d[s - 1]! ≤ key d[mid + m - s]!) (k2 : s = hi ∨ key d[mid + m - 1 - s]! < key d[s]!) : Cut key a s m (mid + m - s) b d := by
  have upl : ∀ p q, a ≤ p → p ≤ q → q < m → key d[p]! ≤ key d[q]! := fun p q p1 p2 p3 => by
    by_cases e : p = q
    · subst e; exact Int.le_refl _
    · exact ul p q p1 (by omega) p3
  have upr : ∀ p q, m ≤ p → p ≤ q → q < b → key d[p]! ≤ key d[q]! := fun p q p1 p2 p3 => by
    by_cases e : p = q
    · subst e; exact Int.le_refl _
    · exact ur p q p1 (by omega) p3
  refine ⟨by omega, by omega, by omega, by omega, ul, ur, ?_, ?_⟩
  · intro i j i1 i2 j1 j2
    rcases k1 with k1 | k1
    · rcases hb' with e | e <;> omega
    · have x1 := upl i (s - 1) i1 (by omega) (by omega)
      have x2 := upr (mid + m - s) j (by omega) j1 j2
      omega
  · intro i j i1 i2 j1 j2
    rcases k2 with k2 | k2
    · rcases hh with e | e <;> omega
    · have x1 := upl s i (by omega) i1 i2
      have x2 := upr j (mid + m - 1 - s) j1 (by omega) (by omega)
      omega

/-- From a on, up to n, lie ascending runs of s elements. -/
inductive Runs (key : α → Int) (s n : Nat) (d : Array α) : Nat → Prop
  | last (a : Nat) (h : n ≤ a + s) (u : Up key a n d) : Runs key s n d a
  | more (a : Nat) (h : a + s < n) (u : Up key a (a + s) d) (r : Runs key s n d (a + s)) : Runs key s n d a
theorem Runs.congr {s n : Nat} {a : Nat} (r : Runs key s n d a) (h : ∀ i, a ≤ i → d'[i]! = d[i]!) : Runs key s n d' a := by
  induction r with
  | last a h1 u => exact .last a h1 (u.congr fun i i1 _ => h i i1)
  | more a h1 u r ih => exact .more a h1 (u.congr fun i i1 _ => h i i1) (ih fun i i1 => h i (by omega))
theorem Runs.first {s n : Nat} {a : Nat} (r : Runs key s n d a) (h : a + s < n) : Up key a (a + s) d ∧ Runs key s n d (a + s) := by
  cases r with
  | last _ h1 u => omega
  | more _ _ u r => exact ⟨u, r⟩
theorem Runs.final {s n : Nat} {a : Nat} (r : Runs key s n d a) (h : n ≤ a + s) : Up key a n d := by
  cases r with
  | last _ h1 u => exact u
  | more _ h1 u r => omega
/-- The run that begins at a, whatever follows: [a, min (a + s) n). -/
theorem Runs.upto {s n : Nat} {a e : Nat} (r : Runs key s n d a) (h : e ≤ a + s) (hn : e ≤ n) : Up key a e d := by
  cases r with
  | last _ h1 u => exact u.part (Nat.le_refl _) hn
  | more _ h1 u r => exact u.part (Nat.le_refl _) h
/-- What lies ahead of a is in runs of s elements, whatever comes behind. -/
def Ahead (key : α → Int) (s n : Nat) (d : Array α) (a : Nat) : Prop := ∀ d' : Array α, (∀ i, i < a → d'[i]! = d[i]!) → Runs key s n d' a → Runs key s n d' 0
theorem Ahead.start {s n : Nat} : Ahead key s n d 0 := fun _ _ r => r
theorem Ahead.step {s n : Nat} {a : Nat} (h : Ahead key s n d a) (st : Stb key a (a + s) d d') (u : Up key a (a + s) d') (hn : a + s ≤ n) (hs : 0 < s) : Ahead key s n d' (a + s) := by
  intro d2 h2 r
  refine h d2 (fun i hi => (h2 i (by omega)).trans (st.2.1 i (Or.inl hi))) ?_
  by_cases e : a + s < n
  · exact .more a e (u.congr fun i _ hi => h2 i hi) r
  · exact .last a (by omega) ((u.congr fun i _ hi => h2 i hi).part (Nat.le_refl _) (by omega))
theorem Ahead.finish {s n : Nat} {a : Nat} (h : Ahead key s n d a) (st : Stb key a n d d') (u : Up key a n d') (hn : n ≤ a + s) : Runs key s n d' 0 :=
  h d' (fun i hi => st.2.1 i (Or.inl hi)) (.last a hn u)
end
end Go.Proofs.Ytjmabidahofbbaa
