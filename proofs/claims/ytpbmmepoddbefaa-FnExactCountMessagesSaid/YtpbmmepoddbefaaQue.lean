/- A queue of lists of integers: a slice of slices that is cut at its head and appended to. -/
import Derived.Test.YtpbmmepoddbefaaItems
import Derived.ArgAppend
namespace Go.Proofs.Ytpbmmepoddbefaa
open Go.ChangeShapes Go.WideShapes Go.ChangeAt Go.RowKit
set_option linter.unusedVariables false

theorem lt_of_someQ {α : Type} {l : List α} {j : Nat} {x : α} (h : l[j]? = some x) : j < l.length := by
  rcases Nat.lt_or_ge j l.length with q | q
  · exact q
  · rw [List.getElem?_eq_none q] at h; cases h
/-- A list of integers lies from p on, in no block of the queue. -/
structure Rw (w : World) (a : Option Addr) (c : Nat) (p : Option Addr) (m d : Nat) (y : List Int) : Prop where
  nums : Nums .i64 w p m y
  room : m ≤ d ∧ (d : Int) ≤ 9223372036854775807
  off : 0 < c → ∀ ad bd, p = some ad → a = some bd → ad.block ≠ bd.block
  lt : ∀ ad, p = some ad → ad.block < w.heap.size
/-- The queue: n headers of lists from a on, room for c, in a block from B on. -/
structure Qs (B : Nat) (w : World) (a : Option Addr) (n c : Nat) (Q : List (List Int)) : Prop where
  len : Q.length = n
  room : n ≤ c ∧ c ≤ maxLen
  at_ : 0 < c → ∃ G o, a = some ⟨G, o, none⟩ ∧ B ≤ G ∧ (∀ j, j < c → (∃ u, w.cell? ⟨G, o + j, none⟩ = some u) ∧ w.frozen? ⟨G, o + j, none⟩ = false) ∧
    ∀ j y, Q[j]? = some y → ∃ p m d, w.cell? ⟨G, o + j, none⟩ = some (.slice p m d) ∧ Rw w a c p m d y
section
variable {B : Nat} {w w' : World} {a : Option Addr} {n c : Nat} {Q : List (List Int)} {p : Option Addr} {m d : Nat} {y : List Int}
theorem Rw.same (h : Rw w a c p m d y) (hb : Below w.heap.size w w') : Rw w' a c p m d y := ⟨h.nums.same hb, h.room, h.off, fun ad e => Nat.lt_of_lt_of_le (h.lt ad e) hb.size⟩
theorem Rw.far (h : Rw w a c p m d y) {a' : Option Addr} {c' : Nat} (hp : ∀ ad bd, p = some ad → a' = some bd → ad.block ≠ bd.block) : Rw w a' c' p m d y := ⟨h.nums, h.room, fun _ => hp, h.lt⟩
theorem Qs.lt (h : Qs B w a n c Q) (hc : 0 < c) {ad : Addr} (e : a = some ad) : B ≤ ad.block ∧ ad.block < w.heap.size := by
  obtain ⟨G, o, e', hB, h1, _⟩ := h.at_ hc
  rw [e'] at e
  cases e
  obtain ⟨⟨u, hu⟩, _⟩ := h1 0 hc
  exact ⟨hB, cell_in hu⟩
theorem Qs.same (h : Qs B w a n c Q) (hb : Below w.heap.size w w') : Qs B w' a n c Q := by
  refine ⟨h.len, h.room, fun hc => ?_⟩
  obtain ⟨G, o, e, hB, h1, h2⟩ := h.at_ hc
  have hG : G < w.heap.size := (h.lt hc e).2
  refine ⟨G, o, e, hB, fun j hj => ?_, fun j y hy => ?_⟩
  · obtain ⟨⟨u, hu⟩, hf⟩ := h1 j hj
    exact ⟨⟨u, cell_stay hu hb⟩, (hb.frozen (p := ⟨G, o + j, none⟩) hG).trans hf⟩
  · obtain ⟨p, m, d, hp, hr⟩ := h2 j y hy
    exact ⟨p, m, d, cell_stay hp hb, hr.same hb⟩
/-- The head is taken off: the rest lies one place further, where there is room for more than one. -/
theorem Qs.head (h : Qs B w a n c (y :: Q)) : ∃ G o p m d, a = some ⟨G, o, none⟩ ∧ w.cell? ⟨G, o, none⟩ = some (.slice p m d) ∧ Rw w a c p m d y ∧ n = Q.length + 1 ∧ 0 < c := by
  have hn : n = Q.length + 1 := by have := h.len; simp at this; omega
  have hc : 0 < c := by have := h.room.1; omega
  obtain ⟨G, o, e, hB, h1, h2⟩ := h.at_ hc
  obtain ⟨p, m, d, hp, hr⟩ := h2 0 y rfl
  exact ⟨G, o, p, m, d, e, hp, hr, hn, hc⟩
theorem Qs.rest {G o : Nat} (h : Qs B w (some ⟨G, o, none⟩) n c (y :: Q)) (hc : 1 < c) : Qs B w (some ⟨G, o + 1, none⟩) (n - 1) (c - 1) Q := by
  have hn : n = Q.length + 1 := by have := h.len; simp at this; omega
  refine ⟨by omega, by have := h.room; omega, fun _ => ?_⟩
  obtain ⟨G', o', e, hB, h1, h2⟩ := h.at_ (by omega)
  cases e
  refine ⟨G, o + 1, rfl, hB, fun j hj => ?_, fun j y' hy => ?_⟩
  · have := h1 (1 + j) (by omega)
    rw [← Nat.add_assoc] at this
    exact this
  · obtain ⟨p, m, d, hp, hr⟩ := h2 (j + 1) y' hy
    rw [show o + (j + 1) = o + 1 + j by omega] at hp
    exact ⟨p, m, d, hp, hr.nums, hr.room, fun _ ad bd ha hb => by cases hb; exact hr.off (by omega) ad ⟨G, o, Option.none⟩ ha rfl, hr.lt⟩
theorem Qs.none (a : Option Addr) : Qs B w a 0 0 [] := ⟨rfl, ⟨Nat.le_refl _, by unfold maxLen; omega⟩, fun h => absurd h (by omega)⟩
theorem Rw.rest {G o : Nat} (h : Rw w (some ⟨G, o, Option.none⟩) c p m d y) (hc : 0 < c) (c' : Nat) : Rw w (some ⟨G, o + 1, Option.none⟩) c' p m d y := h.far fun ad bd ha hb => by cases hb; exact h.off hc ad ⟨G, o, Option.none⟩ ha rfl
theorem size_set (w : World) (q : Addr) (v : Value) : (w.setCell q v).heap.size = w.heap.size := by simp
theorem nums_off {k : IntKind} {g : Nat} (h : Nums k w p m y) (hp : ∀ ad, p = some ad → ad.block ≠ g) (o : Nat) (v : Value) : Nums k (w.setCell ⟨g, o, Option.none⟩ v) p m y :=
  ⟨h.len, h.fits, fun j hj => by
    obtain ⟨ad, e, hx⟩ := h.cell j hj
    refine ⟨ad, e, ?_⟩
    rw [World.cell?_setCell_other _ _ _ _ (fun q => hp ad e (by rw [← addr_block ad j, ← q]))]
    exact hx⟩
theorem cell_apart {g i j : Nat} (v : Value) (h : i ≠ j) : (w.setCell ⟨g, i, Option.none⟩ v).cell? ⟨g, j, Option.none⟩ = w.cell? ⟨g, j, Option.none⟩ := World.cell?_setCell_other _ _ _ _ (fun q => h (by cases q; rfl))
/-- A list is put behind the others, in the block that there is. -/
theorem Qs.put {G o : Nat} (h : Qs B w (some ⟨G, o, Option.none⟩) n c Q) (hr : n + 1 ≤ c) (hv : Rw w (some ⟨G, o, Option.none⟩) c p m d y) : Qs B (w.setCell ⟨G, o + n, Option.none⟩ (.slice p m d)) (some ⟨G, o, Option.none⟩) (n + 1) c (Q ++ [y]) := by
  have hl := h.len
  refine ⟨by rw [List.length_append, hl]; rfl, ⟨hr, h.room.2⟩, fun hc => ?_⟩
  obtain ⟨G', o', e, hB, h1, h2⟩ := h.at_ hc
  cases e
  obtain ⟨⟨u0, hu0⟩, _⟩ := h1 n (by omega)
  refine ⟨G, o, rfl, hB, fun j hj => ?_, fun j y' hy => ?_⟩
  · obtain ⟨⟨u, hu⟩, hf⟩ := h1 j hj
    refine ⟨?_, by rw [World.frozen?_setCell]; exact hf⟩
    by_cases e : j = n
    · subst e
      exact ⟨_, World.cell?_setCell_same _ _ _ hu0⟩
    · exact ⟨u, by rw [cell_apart _ (by omega)]; exact hu⟩
  · rcases Nat.lt_or_ge j Q.length with q | q
    · rw [List.getElem?_append_left q] at hy
      obtain ⟨p', m', d', hp, hr'⟩ := h2 j y' hy
      exact ⟨p', m', d', by rw [cell_apart _ (by omega)]; exact hp, nums_off hr'.nums (fun ad e => hr'.off hc ad _ e rfl) _ _, hr'.room, hr'.off, fun ad e => by rw [size_set]; exact hr'.lt ad e⟩
    · obtain rfl : j = Q.length := by have := lt_of_someQ hy; rw [List.length_append] at this; simp at this; omega
      rw [List.getElem?_append_right (Nat.le_refl _), Nat.sub_self] at hy
      cases hy
      rw [hl]
      exact ⟨p, m, d, World.cell?_setCell_same _ _ _ hu0, nums_off hv.nums (fun ad e => hv.off hc ad _ e rfl) _ _, hv.room, hv.off, fun ad e => by rw [size_set]; exact hv.lt ad e⟩
theorem Rw.put {G o i : Nat} {v : Value} (h : Rw w (some ⟨G, o, Option.none⟩) c p m d y) (hc : 0 < c) : Rw (w.setCell ⟨G, i, Option.none⟩ v) (some ⟨G, o, Option.none⟩) c p m d y :=
  ⟨nums_off h.nums (fun ad e => h.off hc ad _ e rfl) _ _, h.room, h.off, fun ad e => by rw [size_set]; exact h.lt ad e⟩
theorem Qs.grown {g cap : Nat} {e : TypeId} {olds : List Value} (h : Qs B w a n c Q) (hv : Rw w a c p m d y) (hB : B ≤ w.heap.size) (hb : Below w.heap.size w w')
    (hl : olds.length = n) (ho : ∀ (j : Nat) (y' : List Int), Q[j]? = some y' → ∃ p' m' d', olds[j]? = some (Value.slice p' m' d') ∧ Rw w a c p' m' d' y')
    (hown : w'.ownsRow w.heap.size e 1 (.slice (some ⟨g, 0, Option.none⟩) (n + 1) cap) (n + 1) (olds ++ [.slice p m d])) : Qs B w' (some ⟨g, 0, Option.none⟩) (n + 1) cap (Q ++ [y]) := by
  have hQ := h.len
  rcases hown.2 with ⟨e1, _⟩ | ⟨g', cap', cur, e1, hg, hblk, hr1, hr2, hcs, _⟩
  · cases e1
  cases e1
  refine ⟨by rw [List.length_append, hQ]; rfl, ⟨hr1, hr2⟩, fun hc => ⟨g, 0, rfl, Nat.le_trans hB hg, fun j hj => ⟨?_, ?_⟩, fun j y' hy => ?_⟩⟩
  · rw [Nat.zero_add, block_cell hblk j]
    exact ⟨_, Array.getElem?_eq_getElem (by omega)⟩
  · exact block_frozen hblk _
  · have key : ∀ p m d (z : List Int), Rw w a c p m d z → Rw w' (some ⟨g, 0, Option.none⟩) cap p m d z := fun p m d z hz => (hz.same hb).far fun ad bd ha hb' => by
      cases hb'
      have := hz.lt ad ha
      dsimp only
      omega
    rw [Nat.zero_add, hown.cellAt j (by have := lt_of_someQ hy; rw [List.length_append, hQ] at this; simp at this; omega)]
    rcases Nat.lt_or_ge j Q.length with q | q
    · rw [List.getElem?_append_left q] at hy
      rw [List.getElem?_append_left (by omega)]
      obtain ⟨p', m', d', h1, h2⟩ := ho j y' hy
      exact ⟨p', m', d', h1, key _ _ _ _ h2⟩
    · obtain rfl : j = Q.length := by have := lt_of_someQ hy; rw [List.length_append] at this; simp at this; omega
      rw [List.getElem?_append_right (Nat.le_refl _), Nat.sub_self] at hy
      cases hy
      rw [List.getElem?_append_right (by omega), hl, hQ, Nat.sub_self]
      exact ⟨p, m, d, rfl, key _ _ _ _ hv⟩
theorem wpl_push {P : Program} {ops : Array Oper} {rest : List Oper} {o : Oper} {act : Act} {K : Exit → Act → World → Prop} (hgd : o.guard = none) (s x : Operand) (t : TypeId)
    (ho : o.op = .call { callee := .builtin .append, args := #[s, x], argTypes := #[t, t] })
    (e : TypeId) (i : TypeInfo) (z : Value) (bytes : Nat) (ht : P.underlying t = some (.slice e)) (hi : P.info? e = some i) (hz : i.zero = some z) (hsize : i.size = 1) (hby : i.bytes = bytes) (hzs : z.cells.size = 1)
    {b dd : Nat} (hs : act.eval s = .slice a n c) (hq : Qs B w a n c Q) (hx : act.eval x = .slice (some ⟨b, 0, Option.none⟩) 1 dd) (hnew : w.cell? ⟨b, 0, Option.none⟩ = some (.slice p m d)) (hv : Rw w a c p m d y)
    (hb1 : 0 < bytes) (hbytes : (n + 1) * bytes ≤ 140737488355328) (hB : B ≤ w.heap.size)
    (h : ∀ a' c' w', Qs B w' a' (n + 1) c' (Q ++ [y]) → Below B w w' → (∀ p m d z, Rw w a c p m d z → Rw w' a' c' p m d z) → wpList P ops K rest (act.put o.dst (.slice a' (n + 1) c')) w') : wpList P ops K (o :: rest) act w := by
  have h63 : n + 1 ≤ maxLen := by
    have := Nat.mul_le_mul_left (n + 1) hb1
    unfold maxLen
    omega
  have hcell : ∀ j u, [Value.slice p m d][j]? = some u → w.cell? ((⟨b, 0, Option.none⟩ : Addr).add j) = some u := fun j u hj => by
    have : j = 0 := by have := lt_of_someQ hj; simp at this; omega
    subst this
    cases hj
    exact hnew
  have hone : ∀ u ∈ [Value.slice p m d], u.oneCell' = true := fun u hu => by rw [List.mem_singleton.1 hu]; rfl
  -- the arm that grows, whatever the old headers are
  have grow : ∀ (olds : List Value), olds.length = n → (∀ (j : Nat) (y' : List Int), Q[j]? = some y' → ∃ p' m' d', olds[j]? = some (Value.slice p' m' d') ∧ Rw w a c p' m' d' y') → ∀ v' w', w'.ownsRow w.heap.size e 1 v' (n + 1) (olds ++ [.slice p m d]) → w.grownBy w' none → wpList P ops K rest (act.put o.dst v') w' := fun olds hl hold v' w' hown hg => by
    have hb : Below w.heap.size w w' := (Below.refl _ w).grown hg (Nat.le_refl _) (fun k e => by cases e)
    rcases hown.2 with ⟨_, h0⟩ | ⟨g, cap, cur, e1, hgB, _⟩
    · omega
    · subst e1
      exact h _ _ _ (hq.grown hv hB hb hl hold hown) (hb.mono hB) (fun p m d z hz => (hz.same hb).far fun ad bd ha hb' => by
        cases hb'
        have := hz.lt ad ha
        dsimp only
        omega)
  by_cases hc : 0 < c
  · obtain ⟨G, o0, e0, hBG, h1, h2⟩ := hq.at_ hc
    subst e0
    have hcel : ∀ j, j < n → ∃ u, w.cell? ⟨G, o0 + j, Option.none⟩ = some u := fun j hj => (h1 j (by have := hq.room.1; omega)).1
    obtain ⟨olds, hold⟩ : ∃ olds : List Value, olds = (List.range n).map fun j => (w.cell? ⟨G, o0 + j, Option.none⟩).getD (.int .i64 0) := ⟨_, rfl⟩
    have hl : olds.length = n := by rw [hold]; simp
    have hget : ∀ j, j < n → olds[j]? = w.cell? ⟨G, o0 + j, Option.none⟩ := fun j hj => by
      obtain ⟨u, hu⟩ := hcel j hj
      rw [hold, hu]
      simp [hj, hu]
    have holds : ∀ j u, olds[j]? = some u → w.cell? ⟨G, o0 + j, Option.none⟩ = some u := fun j u hj => by
      rw [← hget j (by have := lt_of_someQ hj; omega)]
      exact hj
    refine wpList_append_arg w hgd s x t ho e i z 1 bytes ht hi hz hsize hby hzs (by decide) G o0 n c olds hs (by omega) holds ⟨b, 0, Option.none⟩ 1 dd [.slice p m d] hx rfl hcell hone (fun hr j hj => ?_) h63 hbytes (fun hr => ?_) (fun hr v' w' hown hg => grow olds hl (fun j y' hy => ?_) v' w' hown hg)
    · have hj0 : j = 0 := by simp at hj; omega
      subst hj0
      obtain ⟨⟨u, hu⟩, hf⟩ := h1 n (by omega)
      rw [Nat.mul_one, Nat.add_zero]
      exact ⟨by rw [hu]; rfl, hf⟩
    · rw [Nat.mul_one]
      refine h _ _ _ (hq.put hr hv) ((Below.refl B w).setCell (p := ⟨G, o0 + n, Option.none⟩) hBG _) (fun p m d z hz => hz.put hc)
    · obtain ⟨p', m', d', hp, hr'⟩ := h2 j y' hy
      exact ⟨p', m', d', by rw [hget j (by have := lt_of_someQ hy; have := hq.len; omega)]; exact hp, hr'⟩
  · obtain rfl : c = 0 := by omega
    obtain rfl : n = 0 := by have := hq.room.1; omega
    have hQ0 := List.eq_nil_of_length_eq_zero hq.len
    refine wpList_append_grows w hgd s x t ho e i z 1 bytes ht hi hz hsize hby hzs (by decide) a 0 0 [] hs (fun _ => ⟨rfl, rfl⟩) rfl (fun _ _ j u hj => by simp at hj) ⟨b, 0, Option.none⟩ 1 dd [.slice p m d] hx rfl hcell hone (by omega) (by unfold maxLen; omega) hbytes (fun v' w' hown hg => grow [] rfl (fun j y' hy => by rw [hQ0] at hy; simp at hy) v' w' hown hg)
end
end Go.Proofs.Ytpbmmepoddbefaa
