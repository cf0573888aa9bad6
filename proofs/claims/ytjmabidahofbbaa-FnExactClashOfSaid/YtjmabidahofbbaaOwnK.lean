/- A slice of entries of the call's own: in the sort's words and back; copied off a list that is read. -/
import Derived.Test.YtjmabidahofbbaaSrt8
import Derived.Test.YtjmabidahofbbaaItemsA
import Derived.Test.YtjmabidahofbbaaEntT
import Derived.Lib.OwnBridge
import Derived.Sort.OwnSortedInts
namespace Go.Proofs.Ytjmabidahofbbaa
open Go.ChangeShapes Go.WideShapes Go.ChangeAt Go.RowKit Go.Sort
set_option linter.unusedVariables false

theorem flatK_flat (l : List En) : flatK En.enc 3 l.toArray = (flatOf En.enc l).toArray := by
  apply Array.ext
  · rw [size_flatK]
    simp [flatOf_len En.enc_len]
  · intro t h1 h2
    have ht : t < l.toArray.size * 3 := by simpa using h1
    have hl : t < l.length * 3 := by simpa using ht
    have e1 := get_flatK En.enc 3 l.toArray t ht
    rw [getElem!_pos _ t h1] at e1
    rw [e1]
    have hd : t / 3 < l.length := by omega
    have hm : t % 3 < 3 := Nat.mod_lt _ (by omega)
    have et : t = t / 3 * 3 + t % 3 := by omega
    have hf := flatOf_at En.enc_len l (t / 3) l[t / 3] (t % 3) (List.getElem?_eq_getElem hd) hm
    rw [← et] at hf
    have h3 : t < (flatOf En.enc l).length := by rw [flatOf_len En.enc_len]; exact hl
    rw [List.getElem?_eq_getElem h3, List.getElem?_eq_getElem (by rw [En.enc_len]; exact hm)] at hf
    have hg := Option.some.inj hf
    have hx : l.toArray[t / 3]! = l[t / 3] := by
      rw [getElem!_pos l.toArray (t / 3) (by simpa using hd)]; simp
    rw [hx, getElem!_pos _ (t % 3) (by rw [En.enc_len]; exact hm)]
    simp only [List.getElem_toArray]
    exact hg.symm

/-- Such a slice, in the sort's words. -/
theorem own_rowK {t : TypeId} {w : World} {B g n c : Nat} {l : List En} (h : OwnN t w B (some ⟨g, 0, none⟩) n c l) : RowK En.enc 3 w g 0 l.toArray := by
  refine ⟨En.enc_len, En.cells, ?_, ?_⟩
  · unfold HoldsK
    rw [flatK_flat]
    intro j hj
    have hj' : j < (flatOf En.enc l).length := by simpa using hj
    have hjn : j < n * 3 := by rw [flatOf_len En.enc_len, h.len] at hj'; exact hj'
    rw [Nat.zero_add]
    have h1 := h.row.cellAt j hjn
    have h2 := h.row.frozenAt j
    refine ⟨?_, h2⟩
    rw [h1, List.getElem?_eq_getElem hj', getElem!_pos _ j (by simpa using hj')]
    simp
  · rcases h.row.2 with ⟨e, _⟩ | ⟨g', cap, cur, e, hb, hg, _⟩
    · cases e
    · cases e
      exact (Array.getElem?_eq_some_iff.1 hg).1
theorem putCells_take (cur : Array Value) (F : List Value) (h : F.length ≤ cur.size) : (putCells id 0 F.toArray cur).toList.take F.length = F := by
  apply List.ext_getElem?
  intro j
  by_cases hj : j < F.length
  · rw [List.getElem?_take_of_lt hj, Array.getElem?_toList]
    simp [putCells, hj, show j < cur.size by omega]
  · rw [List.getElem?_take_eq_none (by omega), List.getElem?_eq_none (by omega)]
/-- .. and back. -/
theorem own_swk {t : TypeId} {w w' : World} {B g n c : Nat} {l : List En} {d : Array En} (h : OwnN t w B (some ⟨g, 0, none⟩) n c l) (hd : d.size = n) (S : Go.Proofs.SWK En.enc 3 w g 0 d w') :
    OwnN t w' B (some ⟨g, 0, none⟩) n c d.toList ∧ w.grownBy w' (some g) := by
  obtain ⟨m, os, rfl⟩ := S
  unfold sortWorldK putRowK
  have hF : flatK En.enc 3 d = (flatOf En.enc d.toList).toArray := by rw [← flatK_flat]
  rw [hF]
  refine ⟨⟨by simpa using hd, ?_⟩, ?_⟩
  · rcases h.row.2 with ⟨e, _⟩ | ⟨g', cap, cur, e, hb, hg, hn, hm, hs, ht⟩
    · cases e
    · cases e
      have hlen : (flatOf En.enc d.toList).length = n * 3 := by rw [flatOf_len En.enc_len]; simp [hd]
      refine ⟨hlen, .inr ⟨g, c, putCells id 0 (flatOf En.enc d.toList).toArray cur, rfl, hb, ?_, hn, hm, by simpa [putCells] using hs, ?_⟩⟩
      · have hgl : g < w.heap.size := (Array.getElem?_eq_some_iff.1 hg).1
        rw [heap_grow_old _ _ (by simpa using hgl)]
        simp [putRow, mapBlock, Sort.ahead, Array.getElem?_modify, hg, onCells]
      · have := putCells_take cur (flatOf En.enc d.toList) (by rw [hlen, hs]; exact Nat.mul_le_mul_right 3 hn)
        rw [hlen] at this
        exact this
  · refine ⟨rfl, rfl, rfl, by simp, fun k hk hne => ?_⟩
    rw [heap_grow_old _ _ (by simpa using hk)]
    have : g ≠ k := fun e => hne (by rw [e])
    simp [putRow, mapBlock, Sort.ahead, Array.getElem?_modify, this]

variable {P : Program} (w : World)
theorem run_app_zero {g n c d : Nat} {b : Option Addr} (t ty e : TypeId) (i : TypeInfo) (ht : P.underlying t = some (.slice e)) (hi : P.info? e = some i) (hn : n ≤ c) :
    (Builtin.append_ #[t, t] ty #[.slice (some ⟨g, 0, none⟩) n c, .slice b 0 d]).run P w = .ok (.slice (some ⟨g, 0, none⟩) n c) w := by
  cases b with
  | none => simp [Builtin.append_, run_underlying ht, sizeOf, typeInfo, hi, Builtin.lenOf, Builtin.firstCells, hn, storeCells]
  | some ad => simp [Builtin.append_, run_underlying ht, sizeOf, typeInfo, hi, Builtin.lenOf, Builtin.firstCells, hn, storeCells, loadCells, loadCellsFrom]
/-- Entries are appended to a slice of the call's own that is not nil: nor is the new one. -/
theorem run_app_some (t ty e : TypeId) (i : TypeInfo) (z : Value) (bytes : Nat) (ht : P.underlying t = some (.slice e)) (hi : P.info? e = some i) (hz : i.zero = some z) (hsize : i.size = 3) (hby : i.bytes = bytes) (hzs : z.cells.size = 3)
    {B n c m d g : Nat} {b : Option Addr} {l l' : List En} (ho : OwnN e w B (some ⟨g, 0, none⟩) n c l) (hn : Ens w b m l') (hbytes : (n + m) * bytes ≤ 140737488355328) (h63 : n + m ≤ maxLen) (hB : B ≤ w.heap.size) :
    ∃ g' c' w', (Builtin.append_ #[t, t] ty #[.slice (some ⟨g, 0, none⟩) n c, .slice b m d]).run P w = .ok (.slice (some ⟨g', 0, none⟩) (n + m) c') w' ∧ OwnN e w' B (some ⟨g', 0, none⟩) (n + m) c' (l ++ l') ∧ Below B w w' := by
  rcases Nat.eq_zero_or_pos m with h0 | h0
  · subst h0
    have hl : l' = [] := List.eq_nil_of_length_eq_zero hn.len
    subst hl
    refine ⟨g, c, w, run_app_zero w t ty e i ht hi ho.room.1, ?_, Below.refl _ _⟩
    rw [List.append_nil]; exact ho
  · obtain ⟨b0, o0, x, rfl, _, _⟩ := hn.at_ h0
    obtain ⟨a', c', w', hr, h2, h3⟩ := run_appI w En.enc_len (by omega) En.cells t ty e i z bytes ht hi hz hsize hby hzs (d := d) ho hn hbytes h63 hB
    obtain ⟨g', rfl, _, _⟩ := h2.head (by omega)
    exact ⟨g', c', w', hr, h2, grown_to h3 (Below.refl B w) ho.span (Nat.le_refl _) hB⟩
theorem wpl_app_some {ops : Array Oper} {rest : List Oper} {o : Oper} {act : Act} {Q : Exit → Act → World → Prop} (hgd : o.guard = none) (q x : Operand) (t : TypeId)
    (ho : o.op = .call { callee := .builtin .append, args := #[q, x], argTypes := #[t, t] })
    (e : TypeId) (i : TypeInfo) (z : Value) (bytes : Nat) (ht : P.underlying t = some (.slice e)) (hi : P.info? e = some i) (hz : i.zero = some z) (hsize : i.size = 3) (hby : i.bytes = bytes) (hzs : z.cells.size = 3)
    {B n c m d g : Nat} {b : Option Addr} {l l' : List En} (hq : act.eval q = .slice (some ⟨g, 0, none⟩) n c) (hown : OwnN e w B (some ⟨g, 0, none⟩) n c l) (hx : act.eval x = .slice b m d) (hnew : Ens w b m l')
    (hb1 : 0 < bytes) (hbytes : (n + m) * bytes ≤ 140737488355328) (hB : B ≤ w.heap.size)
    (h : ∀ g' c' w', OwnN e w' B (some ⟨g', 0, none⟩) (n + m) c' (l ++ l') → Below B w w' → wpList P ops Q rest (act.put o.dst (.slice (some ⟨g', 0, none⟩) (n + m) c')) w') : wpList P ops Q (o :: rest) act w := by
  refine wpList_plain hgd fun K hK => ?_
  have h63 : n + m ≤ maxLen := by
    have := Nat.mul_le_mul_left (n + m) hb1
    unfold maxLen
    omega
  obtain ⟨g', c', w', hr, h2, h3⟩ := run_app_some (P := P) (d := d) w t o.type e i z bytes ht hi hz hsize hby hzs hown hnew hbytes h63 hB
  unfold Oper.wp execOp
  simp only [ho, resolve, invoke, builtin, Sem.run_bind, Sem.run_pure, Result.andThen_ok, List.map_toArray, List.map_cons, List.map_nil, hq, hx, hr]
  exact hK _ _ (h g' c' w' h2 h3)
theorem ens_empty {B : Nat} (t : TypeId) (hB : B ≤ w.heap.size) : OwnN t (w.alloc (.cells #[] t)) B (some ⟨w.heap.size, 0, none⟩) 0 0 [] :=
  ⟨rfl, by simp [flatOf], .inr ⟨w.heap.size, 0, #[], rfl, hB, heap_alloc_new _ _, Nat.le_refl _, Nat.zero_le _, by simp, by simp [flatOf]⟩⟩

set_option maxHeartbeats 1000000 in
set_option maxRecDepth 100000 in
theorem copyEntries_any {a : Option Addr} {n c : Nat} {l : List En} {w : World} (h : Ens w a n l) (hn : n ≤ 1048576000) :
    Calls Try.prog 67 #[.slice a n c] w (fun e w' => ∃ g d, e = .returned (.slice (some ⟨g, 0, none⟩) n d) ∧ OwnN 51 w' w.heap.size (some ⟨g, 0, none⟩) n d l ∧ Below w.heap.size w w') := by
  have H := Lib.hid h
  clear h
  obtain ⟨i0, hi, hz0, hz1, hz2⟩ := info_parts infoEntryS
  have HI := Lib.hid (And.intro hi (And.intro hz0 (And.intro hz1 hz2)))
  clear hi hz0 hz1 hz2
  go_enter Try.func67, Try.ntmps67
  go_wp2_with (at_builtin; refine wpl_app_some _ rfl (.tmp 3) (.tmp 4) 38 rfl 51 i0 (.agg #[.int .i64 0, .int .i64 0, .bool false]) 24 Try.underlying38 HI.out.1 HI.out.2.1 HI.out.2.2.1 HI.out.2.2.2 rfl rfl (ens_empty _ 51 (Nat.le_refl _)) rfl (H.out.same (alloc_same w _)) (by omega) ?c1 ?c2 ?_)
  case c1 => omega
  case c2 => simp
  intro g3 c3 w3 ho3 hb3
  have HO3 := Lib.hid ho3
  have HB3 : Hid (Below w.heap.size w w3) := Lib.hid ((alloc_same w _).trans hb3)
  clear ho3 hb3
  go_wp2_with fail
  go_ret
  exact ⟨g3, c3, rfl, HO3.out, HB3.out⟩
end Go.Proofs.Ytjmabidahofbbaa
