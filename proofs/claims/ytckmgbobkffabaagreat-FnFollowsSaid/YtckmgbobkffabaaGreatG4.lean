/- Elements of any kind are appended to a slice of the call's own. No function of the program is spoken of. Lists of fields that are being drawn: what a step of the cursor leaves; one number stored into one of them. -/
import Derived.Test.YtckmgbobkffabaaGreatG3
import Derived.Test.YtckmgbobkffabaaGreatG2
import Derived.Test.YtckmgbobkffabaaGreatG1
namespace Go.Proofs.YtckmgbobkffabaaGreat
open Go.ChangeShapes Go.WideShapes Go.ChangeAt Go.RowKit
set_option linter.unusedVariables false

section
variable {α : Type} {enc : α → List Value} {s : Nat}
theorem flatOf_one (x : α) : flatOf enc [x] = enc x := by simp [flatOf]
theorem items_flat (hs : ∀ x, (enc x).length = s) (h0 : 0 < s) {w : World} {b o m : Nat} {l : List α} (h : Items enc s w (some ⟨b, o, none⟩) m l) : ∀ p u, (flatOf enc l)[p]? = some u → w.cell? ((⟨b, o, none⟩ : Addr).add p) = some u := by
 intro p u hp
 have hlt : p < l.length * s := by
  rcases Nat.lt_or_ge p (l.length * s) with h1 | h1
  ·exact h1
  ·rw [List.getElem?_eq_none (by rw [flatOf_len hs]; exact h1)] at hp; cases hp
 have hj : p / s < l.length := Nat.div_lt_of_lt_mul (by rw [Nat.mul_comm]; exact hlt)
 have hi : p % s < s := Nat.mod_lt _ h0
 have e : p / s * s + p % s = p := by rw [Nat.mul_comm]; exact Nat.div_add_mod p s
 have h2 := flatOf_at hs l (p / s) _ (p % s) (List.getElem?_eq_getElem hj) hi
 rw [e, hp] at h2
 obtain ⟨b', o', e', hc⟩ := h.cell (p / s) _ (List.getElem?_eq_getElem hj)
 cases e'
 have h3 := hc (p % s) u h2.symm
 rw [Nat.add_assoc, e] at h3
 have e2 : (⟨b, o, none⟩ : Addr).add p = ⟨b, o + p, none⟩ := by
  unfold Addr.add
  by_cases hq : p = 0 <;> simp [hq]
 rw [e2]
 exact h3
theorem items_new (hs : ∀ x, (enc x).length = s) (w : World) (x : α) (t : TypeId) : Items enc s (w.alloc (.cells (enc x).toArray t)) (some ⟨w.heap.size, 0, none⟩) 1 [x] :=
 ⟨rfl, by omega, fun j y hj => by
  have hj0 : j = 0 := by
   rcases Nat.eq_zero_or_pos j with h | h
   ·exact h
   ·rw [List.getElem?_eq_none (by simp; omega)] at hj; cases hj
  subst hj0
  have : y = x := by simpa using hj.symm
  subst this
  refine ⟨_, _, rfl, fun i v hv => ?_⟩
  unfold World.cell?
  rw [show (⟨w.heap.size, 0 + 0 * s + i, none⟩ : Addr).block = w.heap.size from rfl, heap_alloc_new]
  simpa using hv⟩
variable {P : Program} (w : World)
theorem run_appI (hs : ∀ x, (enc x).length = s) (h0 : 0 < s) (h1 : ∀ x, ∀ u ∈ enc x, u.oneCell' = true) (t ty e : TypeId) (i : TypeInfo) (z : Value) (bytes : Nat) (ht : P.underlying t = some (.slice e)) (hi : P.info? e = some i) (hz : i.zero = some z) (hsize : i.size = s) (hby : i.bytes = bytes) (hzs : z.cells.size = s)
  {B n c m d b o : Nat} {a : Option Addr} {l l' : List α} (ho : OwnI enc s e w B a n c l) (hn : Items enc s w (some ⟨b, o, none⟩) m l') (hbytes : (n + m) * bytes ≤ 140737488355328) (h63 : n + m ≤ maxLen) (hB : B ≤ w.heap.size) :
  ∃ a' c' w', (Builtin.append_ #[t, t] ty #[.slice a n c, .slice (some ⟨b, o, none⟩) m d]).run P w = .ok (.slice a' (n + m) c') w' ∧ OwnI enc s e w' B a' (n + m) c' (l ++ l') ∧ w.grownBy w' (Value.ownBlock (.slice a n c)) := by
 obtain ⟨v', w', hr, h2, h3, _, _⟩ := run_append_own_at (P := P) w B t ty e i z s bytes ht hi hz hsize hby hzs h0 (.slice a n c) n (flatOf enc l) ho.2 ⟨b, o, none⟩ m d (flatOf enc l') (by rw [flatOf_len hs, hn.len]) (items_flat hs h0 hn) (fun u hu => by
   obtain ⟨x, _, hx⟩ := List.mem_flatMap.1 hu
   exact h1 x u hx) h63 hbytes hB
 rw [← flatOf_app] at h2
 have hl : (l ++ l').length = n + m := by rw [List.length_append, ho.1, hn.len]
 rcases h2.2 with ⟨rfl, hn'⟩ | ⟨g, cap, cur, rfl, hrest⟩
 ·exact ⟨none, 0, w', by rw [hn']; exact hr, ⟨hl, by rw [hn'] at h2 ⊢; exact h2⟩, h3⟩
 ·exact ⟨_, cap, w', hr, ⟨hl, h2⟩, h3⟩
theorem wpl_appI (hs : ∀ x, (enc x).length = s) (h0 : 0 < s) (h1 : ∀ x, ∀ u ∈ enc x, u.oneCell' = true) {ops : Array Oper} {rest : List Oper} {o : Oper} {act : Act} {Q : Exit → Act → World → Prop} (hgd : o.guard = none) (q x : Operand) (t : TypeId)
  (ho : o.op = .call { callee := .builtin .append, args := #[q, x], argTypes := #[t, t] })
  (e : TypeId) (i : TypeInfo) (z : Value) (bytes : Nat) (ht : P.underlying t = some (.slice e)) (hi : P.info? e = some i) (hz : i.zero = some z) (hsize : i.size = s) (hby : i.bytes = bytes) (hzs : z.cells.size = s)
  {B n c m d b off : Nat} {a : Option Addr} {l l' : List α} (hq : act.eval q = .slice a n c) (hown : OwnI enc s e w B a n c l) (hx : act.eval x = .slice (some ⟨b, off, none⟩) m d) (hnew : Items enc s w (some ⟨b, off, none⟩) m l')
  (hb1 : 0 < bytes) (hbytes : (n + m) * bytes ≤ 140737488355328) (hB : B ≤ w.heap.size)
  (h : ∀ a' c' w', OwnI enc s e w' B a' (n + m) c' (l ++ l') → Below B w w' → wpList P ops Q rest (act.put o.dst (.slice a' (n + m) c')) w') : wpList P ops Q (o :: rest) act w := by
 refine wpList_plain hgd fun K hK => ?_
 have h63 : n + m ≤ maxLen := by
  have := Nat.mul_le_mul_left (n + m) hb1
  unfold maxLen
  omega
 obtain ⟨a', c', w', hr, h2, h3⟩ := run_appI (P := P) (d := d) w hs h0 h1 t o.type e i z bytes ht hi hz hsize hby hzs hown hnew hbytes h63 hB
 unfold Oper.wp execOp
 simp only [ho, resolve, invoke, builtin, Sem.run_bind, Sem.run_pure, Result.andThen_ok, List.map_toArray, List.map_cons, List.map_nil, hq, hx, hr]
 exact hK _ _ (h a' c' w' h2 (grown_to h3 (Below.refl B w) hown.span (Nat.le_refl _) hB))
end
/-- Strings, as elements. -/
def strEnc (x : ByteArray) : List Value := [.string x]
theorem strEnc_len (x : ByteArray) : (strEnc x).length = 1 := rfl
theorem strEnc_one (x : ByteArray) : ∀ u ∈ strEnc x, u.oneCell' = true := by
 intro u hu
 have : u = .string x := by simpa [strEnc] using hu
 subst this
 rfl
end Go.Proofs.YtckmgbobkffabaaGreat
namespace Go.Proofs.YtckmgbobkffabaaGreat
open Go.ChangeShapes Go.WideShapes Go.ChangeAt Go.RowKit
set_option linter.unusedVariables false

section
variable {α : Type} {enc : α → List Value} {s : Nat}
/-- A step of the cursor leaves what lies in other blocks. -/
theorem OwnI.only {t : TypeId} {w w' : World} {B n c b lo hi : Nat} {a : Option Addr} {l : List α} (h : OwnI enc s t w B a n c l) (ho : Only b w w') (sp : Span a lo hi) (hd : b < lo ∨ hi ≤ b) : OwnI enc s t w' B a n c l := by
 have hg := only_grown ho
 cases a with
 | none => exact ⟨h.1, h.2.kept hg (Or.inl rfl)⟩
 | some ad =>
  have h1 := sp ad rfl
  refine ⟨h.1, h.2.kept hg (Or.inr ?_)⟩
  simp only [Value.ownBlock, ne_eq, Option.some.injEq]
  omega
variable {P : Program} (w : World)
/-- Nothing is appended. -/
theorem run_app_nothingI (B : Nat) (t ty e : TypeId) (i : TypeInfo) (ht : P.underlying t = some (.slice e)) (hi : P.info? e = some i) {v : Value} {n : Nat} {xs : List Value} (hown : w.ownsRow B e s v n xs) (d : Nat) :
  (Builtin.append_ #[t, t] ty #[v, .slice none 0 d]).run P w = .ok v w := by
 rcases hown.2 with ⟨rfl, rfl⟩ | ⟨g, cap, cur, rfl, _, _, hle, _⟩
 ·simp [Builtin.append_, run_underlying ht, sizeOf, typeInfo, hi, Builtin.lenOf, Builtin.firstCells]
 ·simp [Builtin.append_, run_underlying ht, sizeOf, typeInfo, hi, Builtin.lenOf, Builtin.firstCells, hle, storeCells]
end

def Fd.put (x : Fd) (k : Nat) (v : Int) : Fd := match k with
 | 0 => { x with kind := v }
 | 1 => { x with max := v }
 | 2 => { x with cond := v }
 | _ => { x with is := v }
theorem Fd.put_enc (x : Fd) (k : Nat) (hk : k < 4) (v : Int) : (x.put k v).enc = x.enc.set k (.int .i64 v) := by
 match k, hk with
 | 0, _ => rfl
 | 1, _ => rfl
 | 2, _ => rfl
 | 3, _ => rfl
theorem flat_put : ∀ (l : List Fd) (i k : Nat) (x : Fd) (v : Int), l[i]? = some x → k < 4 → (flatOf Fd.enc l).set (i * 4 + k) (.int .i64 v) = flatOf Fd.enc (l.set i (x.put k v))
 | [], i, k, x, v, h, hk => by simp at h
 | y :: t, 0, k, x, v, h, hk => by
  have : y = x := by simpa using h
  subst this
  have e : flatOf Fd.enc (y :: t) = y.enc ++ flatOf Fd.enc t := by simp [flatOf]
  rw [e, Nat.zero_mul, Nat.zero_add, List.set_append_left _ _ (by rw [Fd.enc_len]; exact hk), ← Fd.put_enc y k hk v, List.set_cons_zero]
  simp [flatOf]
 | y :: t, i + 1, k, x, v, h, hk => by
  have ih := flat_put t i k x v (by simpa using h) hk
  have e : flatOf Fd.enc (y :: t) = y.enc ++ flatOf Fd.enc t := by simp [flatOf]
  rw [e, List.set_append_right _ _ (by rw [Fd.enc_len]; omega), Fd.enc_len, show (i + 1) * 4 + k - 4 = i * 4 + k by omega, ih, List.set_cons_succ]
  simp [flatOf]
/-- Each Max is an integer of 64 bits. -/
def FM (l : List Fd) : Prop := ∀ x ∈ l, I64 x.max
/-- One number is stored into a list of the call's own. -/
theorem ownf_put {t : TypeId} {w : World} {B g n c : Nat} {l : List Fd} (h : OwnF t w B (some ⟨g, 0, none⟩) n c l) {i : Nat} (hi : i < n) (k : Nat) (hk : k < 4) (v : Int) :
  ∃ l', OwnF t (w.setCell ⟨g, i * 4 + k, none⟩ (.int .i64 v)) B (some ⟨g, 0, none⟩) n c l' ∧ w.grownBy (w.setCell ⟨g, i * 4 + k, none⟩ (.int .i64 v)) (some g) ∧ (FM l → I64 v → FM l') := by
 have hs := h.2.stored (i * 4 + k) (.int .i64 v)
 have hl : i < l.length := by rw [h.1]; exact hi
 rw [flat_put l i k _ v (List.getElem?_eq_getElem hl) hk] at hs
 refine ⟨_, ⟨by rw [List.length_set]; exact h.1, hs.1⟩, hs.2, fun hf hv x hx => ?_⟩
 obtain ⟨j, hj⟩ := List.getElem?_of_mem hx
 by_cases e : j = i
 ·subst e
  rw [List.getElem?_set_self hl] at hj
  cases hj
  have h0 := hf (l[j]) (List.getElem_mem hl)
  match k, hk with
  | 0, _ => exact h0
  | 1, _ => exact hv
  | 2, _ => exact h0
  | 3, _ => exact h0
 ·rw [List.getElem?_set_ne (by omega)] at hj
  exact hf x (List.mem_of_getElem? hj)
/-- A write to a slice of the call's own leaves the cursor. -/
theorem Curs.far {u w : World} {b g : Nat} {a : Option Addr} {n c : Nat} (h : Curs u b a n c) (hg : u.grownBy w (some g)) (h0 : g ≠ b) {v : World} (hv : Curs v b a n c) (hd : Drawn b a n c v u) (hgv : v.heap.size ≤ g) : Drawn b a n c v w :=
 hd.under hv (B := v.heap.size) ⟨hg.os, hg.tape, hg.output, hg.size, fun k hk => hg.block k (Nat.lt_of_lt_of_le hk hd.2.size) (fun e => by cases e; omega)⟩ (Nat.le_refl _)
end Go.Proofs.YtckmgbobkffabaaGreat
