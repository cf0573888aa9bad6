/- The message that is made of a format and a seed: what it is, and that it fits. No function of the program is spoken of. Elements of any kind are copied into a slice of the call's own. No function of the program is spoken of. The first elements of a list, by the program. Lists of fields are compared: by the program. Whether a format lies within another one; the program's part. -/
import Derived.Test.YtjkjnhkamieljaaG7
import Derived.Test.YtjkjnhkamieljaaG8
import Derived.Test.YtjkjnhkamieljaaG2
import Derived.Laws.CopyOwn
import Derived.Test.YtjkjnhkamieljaaG3
namespace Go.Proofs.Ytjkjnhkamieljaa
open Go.ChangeShapes Go.WideShapes Go.ChangeAt Go.RowKit
set_option linter.unusedVariables false

/-- So many items are picked at as many places in a row. -/
def picks (s p : Int) : Nat → List Int
  | 0 => []
  | k + 1 => picks s p k ++ [pickOf s (p + k) 100]
theorem picks_len (s p : Int) : ∀ k, (picks s p k).length = k
  | 0 => rfl
  | k + 1 => by rw [picks, List.length_append, picks_len]; rfl
theorem picks_bd (s p : Int) : ∀ k, ∀ z ∈ picks s p k, 0 ≤ z ∧ z ≤ 99
  | 0 => fun z h => by simp [picks] at h
  | k + 1 => fun z h => by
    rw [picks, List.mem_append] at h
    rcases h with h | h
    · exact picks_bd s p k z h
    · rw [List.mem_singleton] at h
      have := pickOf_bd s (p + k) 100
      omega
/-- The value that is made of a field, from a place on. -/
def mkVal (x : Fd) (s p : Int) : Vl := if x.kind = 1 then ⟨pickOf s p (x.max + 1), []⟩ else ⟨0, picks s (p + 1) (pickOf s p (x.max + 1)).toNat⟩
theorem mkVal_num {x : Fd} {s p : Int} (h : x.kind = 1) : mkVal x s p = ⟨pickOf s p (x.max + 1), []⟩ := if_pos h
theorem mkVal_more {x : Fd} {s p : Int} (h : x.kind ≠ 1) : mkVal x s p = ⟨0, picks s (p + 1) (pickOf s p (x.max + 1)).toNat⟩ := if_neg h
/-- The values of the first fields. -/
def mkTo (l : List Fd) (s : Int) : Nat → List Vl
  | 0 => []
  | j + 1 => mkTo l s j ++ [match l[j]? with
    | some x => if isThere l (mkTo l s j) j = true then mkVal x s (16 * j) else ⟨0, []⟩
    | none => ⟨0, []⟩]
theorem mkTo_len (l : List Fd) (s : Int) : ∀ j, (mkTo l s j).length = j
  | 0 => rfl
  | j + 1 => by rw [mkTo, List.length_append, mkTo_len]; rfl
theorem mkTo_yes {l : List Fd} {s : Int} {j : Nat} {x : Fd} (hx : l[j]? = some x) (h : isThere l (mkTo l s j) j = true) : mkTo l s (j + 1) = mkTo l s j ++ [mkVal x s (16 * j)] := by rw [mkTo, hx]; dsimp only; rw [if_pos h]
theorem mkTo_no {l : List Fd} {s : Int} {j : Nat} {x : Fd} (hx : l[j]? = some x) (h : isThere l (mkTo l s j) j = false) : mkTo l s (j + 1) = mkTo l s j ++ [⟨0, []⟩] := by rw [mkTo, hx]; dsimp only; rw [if_neg (by rw [h]; decide)]
noncomputable def mkMsg (l : List Fd) (s : Int) : List Vl := if isFmt l = true then mkTo l s l.length else []
theorem mkMsg_yes {l : List Fd} (s : Int) (h : isFmt l = true) : mkMsg l s = mkTo l s l.length := if_pos h
theorem mkMsg_no {l : List Fd} (s : Int) (h : isFmt l = false) : mkMsg l s = [] := if_neg (by rw [h]; decide)

/-- What is made of a field fits it. -/
theorem allIn_of {y : List Int} {g : Int} (h : ∀ z ∈ y, 0 ≤ z ∧ z ≤ g) : allIn y g = true := by
  unfold allIn
  rw [List.all_eq_true]
  intro z hz
  exact decide_eq_true (h z hz)
theorem kind_of {x : Fd} (h1 : 1 ≤ x.max) (h2 : x.max ≤ mostOf x.kind) : x.kind = 1 ∨ x.kind = 2 ∨ x.kind = 3 := by
  unfold mostOf at h2
  by_cases a : x.kind = 1
  · exact .inl a
  by_cases b : x.kind = 2
  · exact .inr (.inl b)
  by_cases c : x.kind = 3
  · exact .inr (.inr c)
  rw [if_neg a, if_neg b, if_neg c] at h2
  omega
theorem mkVal_fits {x : Fd} {s p : Int} (h1 : 1 ≤ x.max) (h2 : x.max ≤ mostOf x.kind) : fitsField x (mkVal x s p).num (mkVal x s p).items = true := by
  have hb := pickOf_bd s p (x.max + 1)
  have hm := hb.2.2 (by omega)
  have hlen := picks_len s (p + 1) (pickOf s p (x.max + 1)).toNat
  have hin := picks_bd s (p + 1) (pickOf s p (x.max + 1)).toNat
  rcases kind_of h1 h2 with k | k | k
  · rw [mkVal_num k]
    unfold fitsField
    rw [k]
    simp [hb.1]
    omega
  · rw [mkVal_more (by omega)]
    have ha := allIn_of (g := 255) fun z hz => ⟨(hin z hz).1, by have := (hin z hz).2; omega⟩
    unfold fitsField fitIts
    rw [k]
    simp [hlen, ha]
    omega
  · rw [mkVal_more (by omega)]
    have ha := allIn_of (g := 99) fun z hz => ⟨(hin z hz).1, (hin z hz).2⟩
    unfold fitsField fitIts
    rw [k]
    simp [hlen, ha]
    omega
theorem okTo_max {l : List Fd} {n j : Nat} {x : Fd} (h : okTo l n) (hj : j < n) (hx : l[j]? = some x) : 1 ≤ x.max ∧ x.max ≤ mostOf x.kind := by
  have := h j x hj hx
  unfold fieldOk at this
  rw [Bool.and_eq_true] at this
  exact of_decide_eq_true this.1
/-- The first values of a made message are those of its beginning. -/
theorem mkTo_get (l : List Fd) (s : Int) {i : Nat} : ∀ {j : Nat}, i < j → (mkTo l s j)[i]? = (mkTo l s (i + 1))[i]?
  | 0, h => absurd h (by omega)
  | j + 1, h => by
    by_cases e : i = j
    · rw [e]
    · rw [mkTo, List.getElem?_append_left (by rw [mkTo_len]; omega)]
      exact mkTo_get l s (by omega)
theorem mkTo_pre (l : List Fd) (s : Int) {q i j : Nat} (hq : q < i) (hi : i ≤ j) : (mkTo l s j)[q]? = (mkTo l s i)[q]? := by
  rw [mkTo_get l s (show q < j by omega), mkTo_get l s hq]
theorem mkTo_fits {l : List Fd} (s : Int) (hok : okTo l l.length) : ∀ j, j ≤ l.length → fitsTo l (mkTo l s j) j
  | 0, _ => fitsTo_zero _ _
  | j + 1, hj => by
    have hx : l[j]? = some l[j] := List.getElem?_eq_getElem (by omega)
    generalize l[j] = x at hx
    have hc := okTo_cond hok (by omega) hx
    obtain ⟨h1, h2⟩ := okTo_max hok (by omega) hx
    have hprev := fitsTo_part hok (by omega) (fun q hq => (mkTo_pre l s hq (Nat.le_succ j)).symm) (mkTo_fits s hok j (by omega))
    have hth : isThere l (mkTo l s (j + 1)) j = isThere l (mkTo l s j) j := isThere_part hx hc fun q hq => mkTo_pre l s hq (Nat.le_succ j)
    have hlast : ∀ y, (mkTo l s j ++ [y])[j]? = some y := fun y => by rw [List.getElem?_append_right (by rw [mkTo_len]; omega), mkTo_len, Nat.sub_self]; rfl
    cases ht : isThere l (mkTo l s j) j with
    | true =>
      have e := mkTo_yes hx ht
      have hy : (mkTo l s (j + 1))[j]? = some (mkVal x s (16 * j)) := by rw [e]; exact hlast _
      exact fitsTo_step hprev hx hy (by rw [fitsAt_there (hth.trans ht)]; exact mkVal_fits h1 h2)
    | false =>
      have e := mkTo_no hx ht
      have hy : (mkTo l s (j + 1))[j]? = some ⟨0, []⟩ := by rw [e]; exact hlast _
      exact fitsTo_step hprev hx hy (by rw [fitsAt_not (hth.trans ht)]; rfl)
theorem mkMsg_fits {l : List Fd} (s : Int) (h : isFmt l = true) : fitsFmt l (mkMsg l s) = true := by
  rw [mkMsg_yes s h]
  exact fitsFmt_yes h (mkTo_len _ _ _) (mkTo_fits s (isFmt_iff.1 h).2 _ (Nat.le_refl _))
theorem mkTo_items {l : List Fd} (s : Int) (hok : okTo l l.length) : ∀ j, j ≤ l.length → itemsOf (mkTo l s j) ≤ 5 * j
  | 0, _ => by simp [mkTo, itemsOf]
  | j + 1, hj => by
    have hx : l[j]? = some l[j] := List.getElem?_eq_getElem (by omega)
    generalize l[j] = x at hx
    obtain ⟨h1, h2⟩ := okTo_max hok (by omega) hx
    have ih := mkTo_items s hok j (by omega)
    have happ : ∀ y : Vl, itemsOf (mkTo l s j ++ [y]) = itemsOf (mkTo l s j) + y.items.length := fun y => by simp [itemsOf]
    cases ht : isThere l (mkTo l s j) j with
    | true =>
      rw [mkTo_yes hx ht, happ]
      have hv : (mkVal x s (16 * j)).items.length ≤ 5 := by
        by_cases k : x.kind = 1
        · rw [mkVal_num k]; simp
        · rw [mkVal_more k]
          have hb := (pickOf_bd s (16 * j) (x.max + 1)).2.2 (by omega)
          have hm : x.max ≤ 5 := by
            rcases kind_of h1 h2 with k' | k' | k'
            · exact absurd k' k
            · rw [k'] at h2; exact h2
            · rw [k'] at h2; exact h2
          rw [picks_len]
          omega
      omega
    | false =>
      rw [mkTo_no hx ht, happ]
      have : (⟨0, []⟩ : Vl).items.length = 0 := rfl
      omega
theorem mkMsg_few (l : List Fd) (s : Int) : (mkMsg l s).length ≤ 6 ∧ itemsOf (mkMsg l s) ≤ 30 := by
  cases h : isFmt l with
  | true =>
    rw [mkMsg_yes s h]
    have h0 := isFmt_iff.1 h
    have := mkTo_items s h0.2 l.length (Nat.le_refl _)
    have := mkTo_len l s l.length
    have := h0.1
    omega
  | false => rw [mkMsg_no s h]; simp [itemsOf]
end Go.Proofs.Ytjkjnhkamieljaa
namespace Go.Proofs.Ytjkjnhkamieljaa
open Go.ChangeShapes Go.WideShapes Go.ChangeAt Go.RowKit
set_option linter.unusedVariables false

section
variable {P : Program} {α : Type} {enc : α → List Value} {s : Nat}
theorem flat_one (h1 : ∀ x, ∀ u ∈ enc x, u.oneCell' = true) (l : List α) : ∀ v ∈ flatOf enc l, v.oneCell' = true := by
  intro v hv
  obtain ⟨x, _, hx⟩ := List.mem_flatMap.1 hv
  exact h1 x v hx
/-- The run of a copy of the first elements into a row that is known. -/
theorem run_copyI (hs : ∀ x, (enc x).length = s) (h0 : 0 < s) (h1 : ∀ x, ∀ u ∈ enc x, u.oneCell' = true) (w : World) (dT sT ty e : TypeId) (i : TypeInfo) (hu : P.underlying dT = some (.slice e)) (hi : P.info? e = some i) (hsize : i.size = s)
    {B g n k d : Nat} {a : Option Addr} {l : List α} {zs : List Value} (hown : w.ownsRow B e s (.slice (some ⟨g, 0, none⟩) n n) n zs) (hsrc : Items enc s w a k l) :
    ∃ w', (Builtin.copy_ #[dT, sT] ty #[.slice (some ⟨g, 0, none⟩) n n, .slice a k d]).run P w = .ok (goInt (Nat.min k n : Nat)) w' ∧ OwnI enc s e w' B (some ⟨g, 0, none⟩) (Nat.min k n) n (l.take n) ∧ Below B w w' := by
  obtain ⟨hl0, hz⟩ := hown
  rcases hz with ⟨hz, _⟩ | ⟨g', cap, cur, hv, hB, hg, hn, hcap, hcur, htake⟩
  · cases hz
  cases hv
  have hlen : (l.take n).length = Nat.min k n := by
    rw [List.length_take, hsrc.len]
    exact Nat.min_comm _ _
  have htk : l.take (Nat.min k n) = l.take n := by
    rcases Nat.le_total n k with h2 | h2
    · rw [show Nat.min k n = n from Nat.min_eq_right h2]
    · rw [show Nat.min k n = k from Nat.min_eq_left h2, List.take_of_length_le (by rw [hsrc.len]; exact Nat.le_refl _), List.take_of_length_le (by rw [hsrc.len]; exact h2)]
  have hcl : (flatOf enc (l.take n)).length = Nat.min k n * s := by rw [flatOf_len hs, hlen]
  have hfit : 0 + 0 + (flatOf enc (l.take n)).length ≤ cur.size := by
    rw [hcl, hcur]
    have : Nat.min k n * s ≤ n * s := Nat.mul_le_mul_right _ (Nat.min_le_right _ _)
    omega
  have hst := run_storeCells_at P g 0 e (flatOf enc (l.take n)) 0 cur w hg hfit (flat_one h1 _)
  refine ⟨w.setRow g (cur.toList.take (0 + 0) ++ flatOf enc (l.take n) ++ cur.toList.drop (0 + 0 + (flatOf enc (l.take n)).length)).toArray, ?_, ?_, ?_⟩
  · have hsz : (sizeOf e).run P w = .ok s w := by simp [sizeOf, typeInfo, hi, hsize]
    cases a with
    | none =>
      have hk : k = 0 := by
        cases l with
        | nil => simpa using hsrc.len.symm
        | cons x r => obtain ⟨b, o, e0, _⟩ := hsrc.cell 0 x rfl; cases e0
      subst hk
      have hl : l = [] := List.eq_nil_of_length_eq_zero hsrc.len
      subst hl
      have hm : Nat.min 0 n = 0 := Nat.min_eq_left (Nat.zero_le _)
      simp [Builtin.copy_, run_underlying hu, Builtin.lenOf, Builtin.firstCells, sizeOf, typeInfo, hi, hm, flatOf, storeCells]
      exact (setRow_self w g cur e _ hg).symm
    | some ad =>
      have hld : (loadCells ad (Nat.min k n * s)).run P w = .ok (flatOf enc (l.take n)).toArray w := by
        rw [← hcl]
        refine run_loadCells_list (P := P) w ad _ ?_
        intro j v hj
        have hk : Items enc s w (some ad) (Nat.min k n) (l.take n) := by rw [← htk]; exact hsrc.take _ (Nat.min_le_left _ _)
        cases hl : l.take n with
        | nil => rw [hl] at hj; simp [flatOf] at hj
        | cons x r =>
          obtain ⟨b, o, e0, _⟩ := hk.cell 0 x (by rw [hl]; rfl)
          cases e0
          have := items_flat hs h0 hk j v hj
          exact this
      simp [Builtin.copy_, run_underlying hu, Builtin.lenOf, Builtin.firstCells, sizeOf, typeInfo, hi, hsize, hld, hst]
  · refine ⟨hlen, hcl, Or.inr ⟨g, n, _, rfl, hB, setRow_heap w g cur _ e _ hg, Nat.min_le_right _ _, hcap, ?_, ?_⟩⟩
    · simp
      rw [hcur]
      omega
    · rw [← hcl]
      simp
  · exact below_setRow (Below.refl _ _) hB _
theorem wpl_copyI (hs : ∀ x, (enc x).length = s) (h0 : 0 < s) (h1 : ∀ x, ∀ u ∈ enc x, u.oneCell' = true) {w : World} {ops : Array Oper} {rest : List Oper} {o : Oper} {act : Act} {Q : Exit → Act → World → Prop} (hgd : o.guard = none) (q x : Operand) (t t' : TypeId)
    (ho : o.op = .call { callee := .builtin .copy, args := #[q, x], argTypes := #[t, t'] })
    (e : TypeId) (i : TypeInfo) (ht : P.underlying t = some (.slice e)) (hi : P.info? e = some i) (hsize : i.size = s)
    {B g n k d : Nat} {a : Option Addr} {l : List α} {zs : List Value} (hq : act.eval q = .slice (some ⟨g, 0, none⟩) n n) (hown : w.ownsRow B e s (.slice (some ⟨g, 0, none⟩) n n) n zs) (hx : act.eval x = .slice a k d) (hsrc : Items enc s w a k l)
    (h : ∀ m w', m = Nat.min k n → OwnI enc s e w' B (some ⟨g, 0, none⟩) m n (l.take n) → Below B w w' → wpList P ops Q rest (act.put o.dst (.int .i64 (m : Nat))) w') : wpList P ops Q (o :: rest) act w := by
  refine wpList_plain hgd fun K hK => ?_
  obtain ⟨w', hr, h2, h3⟩ := run_copyI (P := P) (d := d) hs h0 h1 w t t' o.type e i ht hi hsize hown hsrc
  unfold Oper.wp
  simp [execOp, ho, resolve, invoke, builtin, hq, hx, hr, Result.andThen]
  exact hK _ _ (h _ _ rfl h2 h3)
end
end Go.Proofs.Ytjkjnhkamieljaa
namespace Go.Proofs.Ytjkjnhkamieljaa
open Go.ChangeShapes Go.WideShapes Go.ChangeAt Go.RowKit
set_option linter.unusedVariables false

theorem Fd.cells (x : Fd) : ∀ u ∈ x.enc, u.oneCell' = true := by
  intro u hu
  simp only [Fd.enc, List.mem_cons, List.not_mem_nil, or_false] at hu
  rcases hu with rfl | rfl | rfl | rfl <;> rfl
set_option maxHeartbeats 1000000 in
set_option maxRecDepth 100000 in
theorem firstF_any (a : Option Addr) (k c n : Nat) (l : List Fd) (w : World) (h : Items Fd.enc 4 w a k l) (hn : n ≤ 1048576000) :
    Calls Try.prog 61 #[.slice a k c, .int .i64 n] w (fun e w' => ∃ b d, e = .returned (.slice b (Nat.min k n) d) ∧ OwnI Fd.enc 4 50 w' w.heap.size b (Nat.min k n) d (l.take n) ∧ Below w.heap.size w w') := by
  have H := Lib.hid h
  clear h
  have hk := H.out.fits
  obtain ⟨i0, hi, hz0, hz1, hz2⟩ := info_parts infoFieldS
  go_enter Try.func61, Try.ntmps61
  go_wp2_with (with_reducible refine wpList_make_full _ rfl _ _ 24 rfl w.heap.size 50 i0 (.agg #[.int .i64 0, .int .i64 0, .int .i64 0, .int .i64 0]) 4 Try.underlying24 hi hz0 hz1 .i64 .i64 _ _ n rfl rfl (by omega) (by omega) ?c1 ?c2 ?c3 ?_)
  case c1 => rw [hz2]; omega
  case c2 => unfold maxLen; omega
  case c3 => omega
  intro w1 hown hgrow
  have HO := Lib.hid hown
  have HB := Lib.hid ((Below.refl _ w).grown hgrow (Nat.le_refl _) (fun _ e => by cases e))
  have HI := Lib.hid hi
  have HZ := Lib.hid hz1
  clear hown hgrow hi hz0 hz1 hz2
  go_wp2_with (with_reducible refine wpl_copyI Fd.enc_len (by omega) Fd.cells rfl _ _ 24 24 rfl 50 i0 Try.underlying24 HI.out HZ.out rfl HO.out rfl (H.out.same HB.out) ?_)
  intro m w2 hm hown2 hb2
  have HO2 := Lib.hid hown2
  have HB2 := Lib.hid (HB.out.trans hb2)
  have hmn : m ≤ n := by rw [hm]; exact Nat.min_le_right _ _
  have HM := Lib.hid hm
  clear hown2 hb2 hm
  go_wp2_with fail
  go_ret
  rw [HM.out] at HO2
  exact ⟨_, _, by rw [HM.out]; rfl, HO2.out, HB2.out⟩
set_option maxHeartbeats 1000000 in
set_option maxRecDepth 100000 in
theorem firstH_any (a : Option Addr) (k c n : Nat) (l : List Vh) (w : World) (h : Items Vh.enc 2 w a k l) (hn : n ≤ 1048576000) :
    Calls Try.prog 45 #[.slice a k c, .int .i64 n] w (fun e w' => ∃ b d, e = .returned (.slice b (Nat.min k n) d) ∧ OwnI Vh.enc 2 64 w' w.heap.size b (Nat.min k n) d (l.take n) ∧ Below w.heap.size w w') := by
  have H := Lib.hid h
  clear h
  have hk := H.out.fits
  obtain ⟨i0, hi, hz0, hz1, hz2⟩ := info_parts infoValueS
  go_enter Try.func45, Try.ntmps45
  go_wp2_with (with_reducible refine wpList_make_full _ rfl _ _ 34 rfl w.heap.size 64 i0 (.agg #[.int .i64 0, .slice none 0 0]) 2 Try.underlying34 hi hz0 hz1 .i64 .i64 _ _ n rfl rfl (by omega) (by omega) ?c1 ?c2 ?c3 ?_)
  case c1 => rw [hz2]; omega
  case c2 => unfold maxLen; omega
  case c3 => omega
  intro w1 hown hgrow
  have HO := Lib.hid hown
  have HB := Lib.hid ((Below.refl _ w).grown hgrow (Nat.le_refl _) (fun _ e => by cases e))
  have HI := Lib.hid hi
  have HZ := Lib.hid hz1
  clear hown hgrow hi hz0 hz1 hz2
  go_wp2_with (with_reducible refine wpl_copyI Vh.enc_len (by omega) Vh.cells rfl _ _ 34 34 rfl 64 i0 Try.underlying34 HI.out HZ.out rfl HO.out rfl (H.out.same HB.out) ?_)
  intro m w2 hm hown2 hb2
  have HO2 := Lib.hid hown2
  have HB2 := Lib.hid (HB.out.trans hb2)
  have hmn : m ≤ n := by rw [hm]; exact Nat.min_le_right _ _
  have HM := Lib.hid hm
  clear hown2 hb2 hm
  go_wp2_with fail
  go_ret
  rw [HM.out] at HO2
  exact ⟨_, _, by rw [HM.out]; rfl, HO2.out, HB2.out⟩
set_option maxRecDepth 100000 in
theorem firstV_any (a : Option Addr) (k c n : Nat) (l : List Vl) (tI : TypeId) (B : Nat) (w : World) (h : OwnV 64 tI w B a k c l) (hn : n ≤ 1048576000) :
    Calls Try.prog 45 #[.slice a k c, .int .i64 n] w (fun e w' => ∃ b m d, e = .returned (.slice b m d) ∧ Vals w' b m (l.take n) ∧ m ≤ d ∧ (d : Int) ≤ 9223372036854775807 ∧ Below w.heap.size w w') := by
  obtain ⟨hs, h1, h2⟩ := h
  refine (firstH_any a k c n hs w (h1.items Vh.enc_len) hn).mono ?_
  rintro e w' ⟨b, d, rfl, ho, hb⟩
  refine ⟨b, _, d, rfl, ?_, ho.room.1, ho.room.2, hb⟩
  refine ⟨by rw [← ho.len, List.length_take, List.length_take, h2.1], by have := ho.room; omega, fun j x hx => ?_⟩
  have hjn : j < n ∧ l[j]? = some x := by
    rw [List.getElem?_take] at hx
    split at hx
    · exact ⟨by assumption, hx⟩
    · cases hx
  have hj : j < hs.length := by rw [h2.1]; exact lt_of_some hjn.2
  have hg := List.getElem?_eq_getElem hj
  obtain ⟨b1, o, g, e1, hg1, hc⟩ := (ho.items Vh.enc_len).at_ (j := j) (by rw [← ho.len, List.length_take]; omega)
  rw [List.getElem?_take, if_pos hjn.1] at hg1
  obtain ⟨en, hO, _⟩ := h2.2.1 j g x hg1 hjn.2
  refine ⟨b1, o, g.p, g.m, g.c, e1, ?_, hc 1 _ rfl, (hO.same hb).nums, (hO.same hb).room⟩
  rw [en]
  simpa using hc 0 _ rfl
end Go.Proofs.Ytjkjnhkamieljaa
namespace Go.Proofs.Ytjkjnhkamieljaa
open Go.ChangeShapes Go.WideShapes Go.ChangeAt Go.RowKit
set_option linter.unusedVariables false

theorem neFd {x y : Fd} (h : x ≠ y) : (x.kind == y.kind) = false ∨ (x.kind = y.kind ∧ (x.max == y.max) = false) ∨ (x.kind = y.kind ∧ x.max = y.max ∧ (x.cond == y.cond) = false) ∨ (x.kind = y.kind ∧ x.max = y.max ∧ x.cond = y.cond ∧ (x.is == y.is) = false) := by
  obtain ⟨a1, a2, a3, a4⟩ := x
  obtain ⟨b1, b2, b3, b4⟩ := y
  simp only [ne_eq, Fd.mk.injEq, not_and] at h
  simp only [beq_eq_false_iff_ne, ne_eq]
  by_cases h1 : a1 = b1
  · by_cases h2 : a2 = b2
    · by_cases h3 : a3 = b3
      · exact Or.inr (Or.inr (Or.inr ⟨h1, h2, h3, h h1 h2 h3⟩))
      · exact Or.inr (Or.inr (Or.inl ⟨h1, h2, h3⟩))
    · exact Or.inr (Or.inl ⟨h1, h2⟩)
  · exact Or.inl h1
set_option maxRecDepth 100000 in
theorem slicesEqualF_yes {a b : Option Addr} {n m c d : Nat} {l : List Fd} {w : World} (h : Fds w a n l) (h' : Fds w b m l) :
    Calls Try.prog 36 #[.slice a n c, .slice b m d] w (Told (.bool true) w) := by
  obtain rfl : n = m := by rw [← h.len, ← h'.len]
  have hn := h.fits
  have H := Lib.hid h
  have H' := Lib.hid h'
  clear h h'
  go_enter Try.func36, Try.ntmps36
  go_wp2
  go_loopw [13] (fun i wr => ∃ j : Nat, j ≤ n ∧ i = .int .i64 j ∧ Below w.heap.size w wr) (fun i _ => n - (intOf i).toNat)
  case atStart => exact ⟨0, Nat.zero_le _, rfl, Below.refl _ _⟩
  case round =>
    obtain ⟨j, hj, rfl, hb⟩ := hrel
    have HB := Lib.hid hb
    clear hb
    by_cases hlt : j < n
    · obtain ⟨b1, o1, x, rfl, hx, hc0, hc1, hc2, hc3⟩ := fds_at (H.out.same HB.out) hlt
      obtain ⟨b2, o2, y, rfl, hy, hd0, hd1, hd2, hd3⟩ := fds_at (H'.out.same HB.out) hlt
      rw [hx] at hy
      cases hy
      clear hx
      go_wp2
      go_quiet (fail)
      go_wp2
      go_roundw
      case rel => exact ⟨j + 1, by omega, by go_num, HB.out.trans ((drewN_same _ _).mono HB.out.size)⟩
      case measure => simp [intOf]; omega
    · go_wp2
      go_ret
      exact ⟨rfl, HB.out⟩
set_option maxRecDepth 100000 in
theorem slicesEqualF_no {a b : Option Addr} {n m c d : Nat} {l l' : List Fd} {w : World} (h : Fds w a n l) (h' : Fds w b m l') (hne : l ≠ l') :
    Calls Try.prog 36 #[.slice a n c, .slice b m d] w (Told (.bool false) w) := by
  have hn := h.fits
  have hm := h'.fits
  have H := Lib.hid h
  have H' := Lib.hid h'
  have HE := Lib.hid hne
  clear h h' hne
  by_cases hnm : n = m
  · subst hnm
    go_enter Try.func36, Try.ntmps36
    go_wp2
    go_loopw [13] (fun i wr => ∃ j : Nat, j ≤ n ∧ i = .int .i64 j ∧ l.take j = l'.take j ∧ Below w.heap.size w wr) (fun i _ => n - (intOf i).toNat)
    case atStart => exact ⟨0, Nat.zero_le _, rfl, rfl, Below.refl _ _⟩
    case round =>
      obtain ⟨j, hj, rfl, ht, hb⟩ := hrel
      have HB := Lib.hid hb
      have HT := Lib.hid ht
      clear hb ht
      by_cases hlt : j < n
      · obtain ⟨b1, o1, x, rfl, hx, hc0, hc1, hc2, hc3⟩ := fds_at (H.out.same HB.out) hlt
        obtain ⟨b2, o2, y, rfl, hy, hd0, hd1, hd2, hd3⟩ := fds_at (H'.out.same HB.out) hlt
        have HX := Lib.hid hx
        have HY := Lib.hid hy
        clear hx hy
        by_cases hxy : x = y
        · subst hxy
          go_wp2
          go_quiet (fail)
          go_wp2
          go_roundw
          case rel => exact ⟨j + 1, by omega, by go_num, by rw [List.take_add_one, List.take_add_one, HX.out, HY.out, HT.out], HB.out.trans ((drewN_same _ _).mono HB.out.size)⟩
          case measure => simp [intOf]; omega
        · rcases neFd hxy with q | ⟨q1, q⟩ | ⟨q1, q2, q⟩ | ⟨q1, q2, q3, q⟩
          · clear hxy
            go_wp2
            go_quiet (fail)
            go_wp2
            go_ret
            exact ⟨rfl, HB.out.trans ((drewN_same _ _).mono HB.out.size)⟩
          · rw [q1] at hc0
            clear hxy q1
            go_wp2
            go_quiet (fail)
            go_wp2
            go_ret
            exact ⟨rfl, HB.out.trans ((drewN_same _ _).mono HB.out.size)⟩
          · rw [q1] at hc0
            rw [q2] at hc1
            clear hxy q1 q2
            go_wp2
            go_quiet (fail)
            go_wp2
            go_ret
            exact ⟨rfl, HB.out.trans ((drewN_same _ _).mono HB.out.size)⟩
          · rw [q1] at hc0
            rw [q2] at hc1
            rw [q3] at hc2
            clear hxy q1 q2 q3
            go_wp2
            go_quiet (fail)
            go_wp2
            go_ret
            exact ⟨rfl, HB.out.trans ((drewN_same _ _).mono HB.out.size)⟩
      · exfalso
        have h1 := HT.out
        rw [List.take_of_length_le (by rw [H.out.len]; omega), List.take_of_length_le (by rw [H'.out.len]; omega)] at h1
        exact HE.out h1
  · have hq : ((n : Int) != (m : Int)) = true := by simp; omega
    clear hnm
    go_enter Try.func36, Try.ntmps36
    go_wp2
    go_ret
    exact ⟨rfl, Below.refl _ _⟩
set_option maxRecDepth 100000 in
theorem equalFormats_yes {a b : Option Addr} {n m c d : Nat} {l : List Fd} {w : World} (h : Fds w a n l) (h' : Fds w b m l) :
    Calls Try.prog 14 #[.slice a n c, .slice b m d] w (Told (.bool true) w) := by
  have H := Lib.hid h
  have H' := Lib.hid h'
  clear h h'
  go_enter Try.func14, Try.ntmps14
  go_wp2_with fail
  refine (slicesEqualF_yes H.out H'.out).mono ?_
  rintro e w1 ⟨rfl, hb1⟩
  have HB1 := Lib.hid hb1
  clear hb1
  go_wp2
  go_ret
  exact ⟨rfl, HB1.out⟩
set_option maxRecDepth 100000 in
theorem equalFormats_no {a b : Option Addr} {n m c d : Nat} {l l' : List Fd} {w : World} (h : Fds w a n l) (h' : Fds w b m l') (hne : l ≠ l') :
    Calls Try.prog 14 #[.slice a n c, .slice b m d] w (Told (.bool false) w) := by
  have H := Lib.hid h
  have H' := Lib.hid h'
  have HE := Lib.hid hne
  clear h h' hne
  go_enter Try.func14, Try.ntmps14
  go_wp2_with fail
  refine (slicesEqualF_no H.out H'.out HE.out).mono ?_
  rintro e w1 ⟨rfl, hb1⟩
  have HB1 := Lib.hid hb1
  clear hb1
  go_wp2
  go_ret
  exact ⟨rfl, HB1.out⟩
end Go.Proofs.Ytjkjnhkamieljaa
namespace Go.Proofs.Ytjkjnhkamieljaa
open Go.ChangeShapes Go.WideShapes Go.ChangeAt Go.RowKit
set_option linter.unusedVariables false

/-- The field accepts what the other one accepts. -/
def fdIn (x y : Fd) : Bool := decide (x.max ≤ y.max) && (x.kind == y.kind) && (x.cond == y.cond) && (x.is == y.is)
def fmtIn : List Fd → List Fd → Bool
  | [], [] => true
  | x :: l, y :: l' => fdIn x y && fmtIn l l'
  | _, _ => false
noncomputable def within (l l' : List Fd) : Bool := isFmt l && isFmt l' && fmtIn l l'
theorem fmtIn_len : ∀ {l l' : List Fd}, fmtIn l l' = true → l.length = l'.length
  | [], [], _ => rfl
  | x :: l, y :: l', h => by
    simp only [fmtIn, Bool.and_eq_true] at h
    simp [fmtIn_len h.2]
  | [], _ :: _, h => by simp [fmtIn] at h
  | _ :: _, [], h => by simp [fmtIn] at h
theorem fmtIn_at : ∀ {l l' : List Fd} {j : Nat} {x y : Fd}, fmtIn l l' = true → l[j]? = some x → l'[j]? = some y → fdIn x y = true
  | [], _, _, _, _, _, hx, _ => by simp at hx
  | _ :: _, [], _, _, _, _, _, hy => by simp at hy
  | x :: l, y :: l', 0, _, _, h, hx, hy => by
    simp only [List.getElem?_cons_zero, Option.some.injEq] at hx hy
    subst hx
    subst hy
    simp only [fmtIn, Bool.and_eq_true] at h
    exact h.1
  | x :: l, y :: l', j + 1, _, _, h, hx, hy => by
    simp only [List.getElem?_cons_succ] at hx hy
    simp only [fmtIn, Bool.and_eq_true] at h
    exact fmtIn_at h.2 hx hy
theorem fmtIn_step : ∀ {l l' : List Fd} {j : Nat} {x y : Fd}, fmtIn (l.take j) (l'.take j) = true → l[j]? = some x → l'[j]? = some y → fdIn x y = true → fmtIn (l.take (j + 1)) (l'.take (j + 1)) = true
  | [], _, _, _, _, _, hx, _, _ => by simp at hx
  | _ :: _, [], _, _, _, _, _, hy, _ => by simp at hy
  | x :: l, y :: l', 0, _, _, h, hx, hy, hf => by
    simp only [List.getElem?_cons_zero, Option.some.injEq] at hx hy
    subst hx
    subst hy
    simp [fmtIn, hf]
  | x :: l, y :: l', j + 1, _, _, h, hx, hy, hf => by
    simp only [List.getElem?_cons_succ] at hx hy
    simp only [List.take_succ_cons, fmtIn, Bool.and_eq_true] at h ⊢
    exact ⟨h.1, fmtIn_step h.2 hx hy hf⟩
theorem within_fmt {l l' : List Fd} (h : within l l' = true) : isFmt l = true ∧ isFmt l' = true ∧ fmtIn l l' = true := by
  simp only [within, Bool.and_eq_true] at h
  exact ⟨h.1.1, h.1.2, h.2⟩

theorem mem2_same (w : World) (A B : Obj) : Below w.heap.size w ((w.alloc A).alloc B) := ((Below.refl _ w).alloc (Nat.le_refl _) _).alloc (by simp) _
set_option maxRecDepth 100000 in
theorem isFieldWithin_any (x y : Fd) (w : World) : Calls Try.prog 38 #[x.val, y.val] w (Told (.bool (fdIn x y)) w) := by
  obtain ⟨k, m, c, i⟩ := x
  obtain ⟨k', m', c', i'⟩ := y
  unfold Fd.val fdIn
  go_enter Try.func38, Try.ntmps38
  by_cases h0 : m ≤ m'
  · have q0 : decide (m > m') = false := by simp; omega
    have q0' : decide (m ≤ m') = true := by simp; omega
    by_cases h1 : k = k'
    · by_cases h2 : c = c'
      · by_cases h3 : i = i'
        · subst h1 h2 h3
          go_wp2_with fail
          go_ret
          refine ⟨?_, mem2_same _ _ _⟩
          simp [q0']
        · subst h1 h2
          have q3 : (i == i') = false := by simp [h3]
          go_wp2_with fail
          go_ret
          refine ⟨?_, mem2_same _ _ _⟩
          simp [q0', q3]
      · subst h1
        have q2 : (c == c') = false := by simp [h2]
        go_wp2_with fail
        go_ret
        refine ⟨?_, mem2_same _ _ _⟩
        simp [q0', q2]
    · have q1 : (k == k') = false := by simp [h1]
      go_wp2_with fail
      go_ret
      refine ⟨?_, mem2_same _ _ _⟩
      simp [q0', q1]
  · have q0 : decide (m > m') = true := by simp; omega
    have q0' : decide (m ≤ m') = false := by simp; omega
    go_wp2_with fail
    go_ret
    refine ⟨?_, mem2_same _ _ _⟩
    simp
set_option maxHeartbeats 1000000 in
set_option maxRecDepth 100000 in
theorem equalFuncF_any {a b : Option Addr} {n m c d : Nat} {l l' : List Fd} {w : World} (h : Fds w a n l) (h' : Fds w b m l') :
    Calls Try.prog 37 #[.slice a n c, .slice b m d, .func (.func 38) #[] #[]] w (Told (.bool (fmtIn l l')) w) := by
  have hn := h.fits
  have hm := h'.fits
  have H := Lib.hid h
  have H' := Lib.hid h'
  clear h h'
  by_cases hnm : n = m
  · subst hnm
    go_enter Try.func37, Try.ntmps37
    go_wp2_with fail
    go_loopw [17] (fun i wr => ∃ j : Nat, j ≤ n ∧ i = .int .i64 j ∧ fmtIn (l.take j) (l'.take j) = true ∧ Below w.heap.size w wr) (fun i _ => n - (intOf i).toNat)
    case atStart => exact ⟨0, Nat.zero_le _, rfl, rfl, Below.refl _ _⟩
    case round =>
      obtain ⟨j, hj, rfl, ht, hb⟩ := hrel
      have HB := Lib.hid hb
      have HT := Lib.hid ht
      clear hb ht
      by_cases hlt : j < n
      · obtain ⟨b1, o1, x, rfl, hx, hc0, hc1, hc2, hc3⟩ := fds_at (H.out.same HB.out) hlt
        obtain ⟨b2, o2, y, rfl, hy, hd0, hd1, hd2, hd3⟩ := fds_at (H'.out.same HB.out) hlt
        have HX := Lib.hid hx
        have HY := Lib.hid hy
        clear hx hy
        have HW : Hid (Below wr.heap.size wr ((wr.alloc (.cells #[.int .i64 x.kind, .int .i64 x.max, .int .i64 x.cond, .int .i64 x.is] 50)).alloc (.cells #[.int .i64 y.kind, .int .i64 y.max, .int .i64 y.cond, .int .i64 y.is] 50))) := Lib.hid (mem2_same _ _ _)
        have hq0 : (wr.alloc (.cells #[.int .i64 x.kind, .int .i64 x.max, .int .i64 x.cond, .int .i64 x.is] 50)).cell? ⟨b2, o2 + j * 4, none⟩ = some (.int .i64 y.kind) := cell_stay hd0 (alloc_same wr _)
        have hq1 : (wr.alloc (.cells #[.int .i64 x.kind, .int .i64 x.max, .int .i64 x.cond, .int .i64 x.is] 50)).cell? ⟨b2, o2 + j * 4 + 1, none⟩ = some (.int .i64 y.max) := cell_stay hd1 (alloc_same wr _)
        have hq2 : (wr.alloc (.cells #[.int .i64 x.kind, .int .i64 x.max, .int .i64 x.cond, .int .i64 x.is] 50)).cell? ⟨b2, o2 + j * 4 + 2, none⟩ = some (.int .i64 y.cond) := cell_stay hd2 (alloc_same wr _)
        have hq3 : (wr.alloc (.cells #[.int .i64 x.kind, .int .i64 x.max, .int .i64 x.cond, .int .i64 x.is] 50)).cell? ⟨b2, o2 + j * 4 + 3, none⟩ = some (.int .i64 y.is) := cell_stay hd3 (alloc_same wr _)
        have K := Lib.hid (isFieldWithin_any x y)
        unfold Fd.val at K
        by_cases hf : fdIn x y = true
        · have HF := Lib.hid hf
          rw [hf] at K
          clear hf
          go_wp2_with fail
          refine (K.out _).mono ?_
          rintro e w3 ⟨rfl, hb3⟩
          have HB3 := Lib.hid ((HB.out.trans (HW.out.mono HB.out.size)).trans (hb3.mono (Nat.le_trans HB.out.size HW.out.size)))
          clear hb3 hc0 hc1 hc2 hc3 hd0 hd1 hd2 hd3 hq0 hq1 hq2 hq3
          go_wp2_with fail
          go_roundw
          case rel => exact ⟨j + 1, by omega, by go_num, fmtIn_step HT.out HX.out HY.out HF.out, HB3.out⟩
          case measure => simp [intOf]; omega
        · have HF : Hid (fmtIn l l' = false) := Lib.hid (by
            cases hq : fmtIn l l' with
            | false => rfl
            | true => exact absurd (fmtIn_at hq HX.out HY.out) hf)
          have hf' : fdIn x y = false := by simpa using hf
          rw [hf'] at K
          rw [HF.out]
          clear hf hf'
          go_wp2_with fail
          refine (K.out _).mono ?_
          rintro e w3 ⟨rfl, hb3⟩
          have HB3 := Lib.hid ((HB.out.trans (HW.out.mono HB.out.size)).trans (hb3.mono (Nat.le_trans HB.out.size HW.out.size)))
          clear hb3 hc0 hc1 hc2 hc3 hd0 hd1 hd2 hd3 hq0 hq1 hq2 hq3
          go_wp2_with fail
          go_ret
          exact ⟨rfl, HB3.out⟩
      · have h1 := HT.out
        rw [List.take_of_length_le (by rw [H.out.len]; omega), List.take_of_length_le (by rw [H'.out.len]; omega)] at h1
        have H1 := Lib.hid h1
        clear h1
        go_wp2_with fail
        go_ret
        exact ⟨by rw [H1.out]; rfl, HB.out⟩
  · have hq : ((n : Int) != (m : Int)) = true := by simp; omega
    have HF : fmtIn l l' = false := by
      cases hq : fmtIn l l' with
      | false => rfl
      | true => exact absurd (by rw [← H.out.len, ← H'.out.len, fmtIn_len hq]) hnm
    rw [HF]
    clear hnm
    go_enter Try.func37, Try.ntmps37
    go_wp2_with fail
    go_ret
    exact ⟨rfl, Below.refl _ _⟩
set_option maxRecDepth 100000 in
theorem isWithin_any {a b : Option Addr} {n m c d : Nat} {l l' : List Fd} {w : World} (h : Fds w a n l) (h' : Fds w b m l') (hc : n ≤ c ∧ (c : Int) ≤ 9223372036854775807) (hd : m ≤ d ∧ (d : Int) ≤ 9223372036854775807) :
    Calls Try.prog 15 #[.slice a n c, .slice b m d] w (Told (.bool (within l l')) w) := by
  have H := Lib.hid h
  have H' := Lib.hid h'
  have HC := Lib.hid hc
  have HD := Lib.hid hd
  clear h h' hc hd
  unfold within
  go_enter Try.func15, Try.ntmps15
  cases hA : isFmt l with
  | false =>
    go_wp2_with fail
    refine (isFormat_any _ _ _ l _ H.out HC.out).mono ?_
    rw [hA]
    rintro e w1 ⟨rfl, hb1⟩
    have HB1 := Lib.hid hb1
    clear hb1
    go_wp2_with fail
    go_ret
    exact ⟨rfl, HB1.out⟩
  | true =>
    go_wp2_with fail
    refine (isFormat_any _ _ _ l _ H.out HC.out).mono ?_
    rw [hA]
    rintro e w1 ⟨rfl, hb1⟩
    have HB1 := Lib.hid hb1
    clear hb1
    cases hA' : isFmt l' with
    | false =>
      go_wp2_with fail
      refine (isFormat_any _ _ _ l' _ (H'.out.same HB1.out) HD.out).mono ?_
      rw [hA']
      rintro e w2 ⟨rfl, hb2⟩
      have HB2 := Lib.hid (HB1.out.trans (hb2.mono HB1.out.size))
      clear hb2
      go_wp2_with fail
      go_ret
      exact ⟨by rw [hA']; rfl, HB2.out⟩
    | true =>
      go_wp2_with fail
      refine (isFormat_any _ _ _ l' _ (H'.out.same HB1.out) HD.out).mono ?_
      rw [hA']
      rintro e w2 ⟨rfl, hb2⟩
      have HB2 := Lib.hid (HB1.out.trans (hb2.mono HB1.out.size))
      clear hb2
      go_wp2_with fail
      refine (equalFuncF_any (H.out.same HB2.out) (H'.out.same HB2.out)).mono ?_
      rintro e w3 ⟨rfl, hb3⟩
      have HB3 := Lib.hid (HB2.out.trans (hb3.mono HB2.out.size))
      clear hb3
      go_wp2_with fail
      go_ret
      exact ⟨by rw [hA']; rfl, HB3.out⟩
end Go.Proofs.Ytjkjnhkamieljaa
