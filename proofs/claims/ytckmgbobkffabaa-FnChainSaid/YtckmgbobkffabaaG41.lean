/- A line of machines is drawn, each of which may follow the one before it. Pairs of states: their order does not matter; a machine and its dual. No function of the program is spoken of. -/
import Derived.Test.YtckmgbobkffabaaG40
import Derived.Test.YtckmgbobkffabaaG34
import Derived.Test.YtckmgbobkffabaaG14
import Derived.Test.YtckmgbobkffabaaG1
namespace Go.Proofs.Ytckmgbobkffabaa
open Go.ChangeShapes Go.WideShapes Go.ChangeAt Go.RowKit
set_option linter.unusedVariables false
set_option linter.unusedSimpArgs false

theorem Macs.empty {w : World} {a : Option Addr} : Macs w a 0 [] := ⟨rfl, by omega, fun j x h => by simp at h⟩
/-- The rows of each machine lie apart from block g, and from L on. -/
def RowsL (w : World) (L g : Nat) (hs : List Mh) (l : List Mac) : Prop :=
 hs.length = l.length ∧ ∀ (j : Nat) (h : Mh) (x : Mac), hs[j]? = some h → l[j]? = some x → h.st = x.st ∧ ∃ S B, OwnMac S w B h.val x ∧ L ≤ B ∧ (g < B ∨ S ≤ g)
theorem RowsL.nil {w : World} {L g : Nat} : RowsL w L g [] [] := ⟨rfl, fun j h x e => by simp at e⟩
theorem RowsL.same {w w' : World} {L g : Nat} {hs : List Mh} {l : List Mac} (h : RowsL w L g hs l) (hb : Below w.heap.size w w') : RowsL w' L g hs l :=
 ⟨h.1, fun j y x h1 h2 => by
  obtain ⟨e, S, B, ho, hl, hd⟩ := h.2 j y x h1 h2
  exact ⟨e, S, B, ho.same hb, hl, hd⟩⟩
theorem RowsL.only {w w' : World} {L g b : Nat} {hs : List Mh} {l : List Mac} (h : RowsL w L g hs l) (hb : Only b w w') (hlt : b < L) : RowsL w' L g hs l :=
 ⟨h.1, fun j y x h1 h2 => by
  obtain ⟨e, S, B, ho, hl, hd⟩ := h.2 j y x h1 h2
  exact ⟨e, S, B, ho.onlyC hb (by omega), hl, hd⟩⟩
theorem RowsL.rows {w : World} {L g : Nat} {hs : List Mh} {l : List Mac} (h : RowsL w L g hs l) : RowsM w g hs l :=
 ⟨h.1, fun j y x h1 h2 => by
  obtain ⟨e, S, B, ho, hl, hd⟩ := h.2 j y x h1 h2
  exact ⟨e, S, B, ho, hd⟩⟩
theorem OwnMac.top {S : Nat} {w : World} {B : Nat} {v : Value} {x : Mac} (h : OwnMac S w B v x) : S ≤ w.heap.size := by
 obtain ⟨_, _, _, _, _, _, _, _, _, _, _, _, h6, _⟩ := h
 exact h6
theorem RowsL.push {w w' : World} {L g g' S B : Nat} {hs : List Mh} {l : List Mac} {y : Mh} {x : Mac} (h : RowsL w L g hs l) (ho : OwnMac S w B y.val x) (he : y.st = x.st) (hL : L ≤ B) (hd : g < B ∨ S ≤ g) (hi : Inside g (g + 1) w w') (hg : g' = g ∨ w.heap.size ≤ g') : RowsL w' L g' (hs ++ [y]) (l ++ [x]) := by
 have key : ∀ {S B : Nat} {v : Value} {x : Mac}, OwnMac S w B v x → L ≤ B → (g < B ∨ S ≤ g) → ∃ S B, OwnMac S w' B v x ∧ L ≤ B ∧ (g' < B ∨ S ≤ g') := fun {S B v x} ho hL hd => by
  refine ⟨S, B, ho.aside hi (by omega), hL, ?_⟩
  have := ho.top
  omega
 refine ⟨by rw [List.length_append, List.length_append, h.1]; rfl, fun j y2 x2 h1 h2 => ?_⟩
 by_cases hj : j < hs.length
 ·rw [List.getElem?_append_left hj] at h1
  rw [List.getElem?_append_left (by rw [← h.1]; exact hj)] at h2
  obtain ⟨e, S2, B2, ho2, hl2, hd2⟩ := h.2 j y2 x2 h1 h2
  exact ⟨e, key ho2 hl2 hd2⟩
 ·have hj2 : j = hs.length := by
   have := at_lt h1
   rw [List.length_append] at this
   simp at this
   omega
  subst hj2
  rw [List.getElem?_append_right (Nat.le_refl _), Nat.sub_self] at h1
  rw [h.1, List.getElem?_append_right (Nat.le_refl _), Nat.sub_self] at h2
  simp at h1 h2
  subst h1
  subst h2
  exact ⟨he, key ho hL hd⟩
/-- The line that is being drawn, and the cursor. -/
structure StC (b : Nat) (a : Option Addr) (n c : Nat) (WA wr : World) (g k r : Nat) (hs : List Mh) (l : List Mac) : Prop where
 row : OwnI Mh.enc 3 27 wr WA.heap.size (some ⟨g, 0, none⟩) k r hs
 rows : RowsL wr WA.heap.size g hs l
 dr : Drawn b a n c WA wr
 cu : Curs WA b a n c
 c1 : b < WA.heap.size
 ok : ∀ x ∈ l, OnN x
section
variable {b : Nat} {a : Option Addr} {n c : Nat} {WA wr w' : World} {g k r : Nat} {hs : List Mh} {l : List Mac}
theorem StC.only (h : StC b a n c WA wr g k r hs l) (hd : Drawn b a n c wr w') : StC b a n c WA w' g k r hs l := by
 have h1 := h.c1
 exact ⟨h.row.only hd.2 h.row.span (Or.inl (by omega)), h.rows.only hd.2 (by omega), h.dr.trans hd, h.cu, h1, h.ok⟩
theorem StC.same (h : StC b a n c WA wr g k r hs l) (hb : Below wr.heap.size wr w') : StC b a n c WA w' g k r hs l :=
 ⟨h.row.same hb, h.rows.same hb, h.dr.same hb, h.cu, h.c1, h.ok⟩
theorem StC.lo (h : StC b a n c WA wr g k r hs l) : WA.heap.size ≤ g ∧ g < wr.heap.size := h.row.span ⟨g, 0, none⟩ rfl
theorem StC.count (h : StC b a n c WA wr g k r hs l) : hs.length = k ∧ l.length = k := ⟨h.row.len, h.rows.1 ▸ h.row.len⟩
theorem StC.macs (h : StC b a n c WA wr g k r hs l) : Macs wr (some ⟨g, 0, none⟩) k l := macs_of (h.row.items Mh.enc_len) h.rows.rows
/-- A machine is appended. -/
theorem StC.push (h : StC b a n c WA wr g k r hs l) {S B : Nat} {y : Mh} {x : Mac} (ho : OwnMac S wr B y.val x) (he : y.st = x.st) (hL : WA.heap.size ≤ B) (hd : g < B) (hok : OnN x) {q : Option Addr} {r' : Nat}
  (hr : OwnI Mh.enc 3 27 w' WA.heap.size q (k + 1) r' (hs ++ [y])) (hg : wr.grownBy w' (some g)) (hw : Where wr (some ⟨g, 0, none⟩) q) : ∃ g', q = some ⟨g', 0, none⟩ ∧ StC b a n c WA w' g' (k + 1) r' (hs ++ [y]) (l ++ [x]) := by
 obtain ⟨g', eg, -, -⟩ := hr.head (by omega)
 subst eg
 have hlo := h.lo
 have hwg : g' = g ∨ g' = wr.heap.size := by
  rcases hw ⟨g', 0, none⟩ rfl with ⟨ad0, e, e2⟩ | e
  ·cases e
   exact Or.inl e2
  ·exact Or.inr e
 have hin : Inside g (g + 1) wr w' := Inside.row hg fun r e => by cases e; omega
 refine ⟨g', rfl, hr, h.rows.push ho he hL (Or.inl hd) hin (by omega), h.dr.under h.cu (hin.to (Below.refl WA.heap.size wr) hlo.1 (by omega)) (Nat.le_refl _), h.cu, h.c1, fun z hz => ?_⟩
 rcases List.mem_append.1 hz with e | e
 ·exact h.ok z e
 ·rw [List.mem_singleton.1 e]
  exact hok
end
def DrewChain (w : World) (e : Ending) (w' : World) : Prop :=
 ∃ a n c l, e = .returned (.slice a n c) ∧ Macs w' a n l ∧ (∀ x ∈ l, OnN x) ∧ n ≤ c ∧ (c : Int) ≤ 9223372036854775807 ∧ n ≤ 4 ∧ Below w.heap.size w w'
set_option maxHeartbeats 4000000 in
set_option maxRecDepth 100000 in
theorem drawChainFollows_any (a : Option Addr) (n c : Nat) (w : World) (hC : Code w a n) : Calls Try.prog 23 #[.slice a n c] w (DrewChain w) := by
 have HC := Lib.hid hC
 obtain ⟨i1, hi, hz0, hz1, hz2⟩ := info_parts infoMcS
 have HI1 := Lib.hid (And.intro hi (And.intro hz0 (And.intro hz1 hz2)))
 clear hi hz0 hz1 hz2 hC
 go_enter Try.func23, Try.ntmps23
 go_wp2_with fail
 refine (new_any a n c HC.out.2 _ HC.out.1).mono ?_
 rintro e WA ⟨rfl, hcu, hb2⟩
 have HB2 := Lib.hid hb2
 have hs2 := hb2.size
 have hblt := hcu.lt
 have HCU := Lib.hid hcu
 obtain ⟨b, hb⟩ : ∃ u, u = w.heap.size := ⟨_, rfl⟩
 have hbw : w.heap.size ≤ b := by omega
 rw [← hb] at HCU hblt ⊢
 clear hcu hb2 hb
 have HS1 : Hid (StC b a n c WA (WA.alloc (.cells #[] 27)) WA.heap.size 0 0 [] []) := Lib.hid ⟨own_emptyI (enc := Mh.enc) (s := 3) (w := WA) (B := WA.heap.size) 27 (Nat.le_refl _), RowsL.nil, (Drawn.refl HCU.out).same (alloc_same _ _), HCU.out, hblt, fun x hx => by cases hx⟩
 go_wp2_with fail
 obtain ⟨g0, hg0⟩ : ∃ u, u = WA.heap.size := ⟨_, rfl⟩
 have HS2 : Hid (StC b a n c WA (WA.alloc (.cells #[] 27)) g0 0 0 [] []) := Lib.hid (by rw [hg0]; exact HS1.out)
 rw [← hg0]
 clear HS1 hg0
 generalize WA.alloc (.cells #[] 27) = W1 at *
 refine (once_any b a n c 9 (by omega) (by omega) _ HS2.out.dr.1).mono ?_
 rintro e w2 ⟨t, rfl, hd2⟩
 have HS3 := Lib.hid (HS2.out.only hd2)
 clear hd2 HS2
 have HBWH : Hid (∀ (wr : World) (g k r : Nat) (hs : List Mh) (l : List Mac), StC b a n c WA wr g k r hs l → Below w.heap.size w wr) := Lib.hid fun wr g k r hs l h => HB2.out.trans (h.dr.2.below (by omega) (by omega))
 cases t with
 | true =>
  go_wp2_with fail
  go_ret
  exact ⟨_, _, _, [], rfl, Macs.empty, (fun x hx => by cases hx), Nat.le_refl _, by omega, by omega, HBWH.out _ _ _ _ _ _ HS3.out⟩
 | false =>
  go_wp2_with fail
  refine (l13Draw_any b a n c _ HS3.out.dr.1).mono ?_
  rintro e w3 ⟨v, x, rfl, ho, hk1, hk2, hk3, hd3⟩
  obtain ⟨y, rfl, hys⟩ := ho.mac.head
  have HS4 := Lib.hid (HS3.out.only hd3)
  have HA4 := Lib.hid (alloc_same w3 (.cells y.enc.toArray 27))
  have HO4 := Lib.hid (ho.same HA4.out)
  have HS5 := Lib.hid (HS4.out.same HA4.out)
  have HIT := Lib.hid (items_new Mh.enc_len w3 y 27)
  have HON : Hid (OnN x) := Lib.hid ⟨hk3.1, hk1, by omega, hk3.2⟩
  have hl3 := HS3.out.lo
  have hs34 := hd3.2.size
  have hw3 := HS4.out.dr.2.size
  have hbnd : WA.heap.size ≤ (w3.alloc (.cells y.enc.toArray 27)).heap.size := by simp; omega
  clear ho hk1 hk2 hk3 hd3 HS3 HS4
  have hye : y.enc.toArray = #[.int .i64 y.st, .slice y.p y.m y.c, .slice y.q y.k y.d] := rfl
  rw [hye] at HS5 HIT HO4 hbnd
  clear hye HA4
  have HYS := Lib.hid hys
  clear hys
  unfold Mh.val
  go_wp2_with (at_builtin; refine wpl_appW _ Mh.enc_len (by omega) Mh.one rfl (.tmp 12) (.tmp 15) 39 rfl 27 i1 (.agg #[.int .i64 0, .slice none 0 0, .slice none 0 0]) 56 Try.underlying39 HI1.out.1 HI1.out.2.1 HI1.out.2.2.1 HI1.out.2.2.2 rfl rfl HS5.out.row rfl HIT.out (by omega) ?ca ?cb ?_)
  case ca => omega
  case cb => exact hbnd
  intro q5 r5 w5 ho5 hg5 hw5
  obtain ⟨g5, rfl, hst5⟩ := HS5.out.push HO4.out HYS.out (by omega) (by omega) HON.out ho5 hg5 hw5
  have HS6 := Lib.hid hst5
  clear ho5 hg5 hw5 hst5 HS5 HIT HO4 hbnd
  go_wp2_with fail
  refine (below_any b a n c 4 (by omega) (by omega) _ HS6.out.dr.1).mono ?_
  rintro e w6 ⟨y0, hy0, hy1, rfl, hd6⟩
  obtain ⟨j0, rfl⟩ : ∃ u : Nat, y0 = u := ⟨y0.toNat, by omega⟩
  have HS7 := Lib.hid (HS6.out.only hd6)
  clear hd6 HS6
  go_wp2_with fail
  go_loopw [4, 5] (fun s4 t wr => ∃ (j g k r : Nat) (hs : List Mh) (l : List Mac), t = .int .i64 j ∧ s4 = .slice (some ⟨g, 0, none⟩) (k + 1 : Nat) r ∧ k + j ≤ 3 ∧ StC b a n c WA wr g (k + 1) r hs l) (fun _ t _ => (intOf t).toNat)
  case atStart => exact ⟨j0, g5, 0, r5, _, _, rfl, rfl, by omega, HS7.out⟩
  case round =>
   clear HS7
   obtain ⟨j, g, k, r, hs, l, rfl, rfl, hkj, hst⟩ := hrel
   have HS := Lib.hid hst
   have hroom : k + 1 ≤ r ∧ (r : Int) ≤ 9223372036854775807 := hst.row.room
   clear hst
   rcases Nat.eq_zero_or_pos j with hj0 | hj0
   ·subst hj0
    go_wp2_with fail
    go_ret
    exact ⟨_, _, _, l, rfl, HS.out.macs, HS.out.ok, hroom.1, hroom.2, by omega, HBWH.out _ _ _ _ _ _ HS.out⟩
   ·obtain ⟨j', rfl⟩ : ∃ u, j = u + 1 := ⟨j - 1, by omega⟩
    obtain ⟨x, b1, o1, p1, m1, d1, q1, k1, e1, hx, hee, c0, c1, c2, hmx⟩ := HS.out.macs.at_ (j := k) (by omega)
    cases hee
    have hokx := HS.out.ok x (List.mem_of_getElem? hx)
    have HNX := Lib.hid (l15Next_any b a n c wr HS.out.dr.1 hmx hokx)
    have hk1 : (((k + 1 : Nat) : Int) - 1) = (k : Int) := by omega
    have hkw : IntKind.i64.wrap (k : Int) = (k : Int) := by rw [IntKind.wrap_i64]; omega
    have hklt : k < k + 1 := by omega
    simp only [Nat.zero_add] at c0 c1 c2
    clear hx hmx hokx
    go_wp2_with fail
    refine HNX.out.mono ?_
    rintro e w3 ⟨v, x', rfl, ho, hok', hd3⟩
    obtain ⟨y, rfl, hys⟩ := ho.mac.head
    have HS4 := Lib.hid (HS.out.only hd3)
    have HA4 := Lib.hid (alloc_same w3 (.cells y.enc.toArray 27))
    have HO4 := Lib.hid (ho.same HA4.out)
    have HS5 := Lib.hid (HS4.out.same HA4.out)
    have HIT := Lib.hid (items_new Mh.enc_len w3 y 27)
    have HON := Lib.hid hok'
    have hl3 := HS.out.lo
    have hs34 := hd3.2.size
    have hw3 := HS4.out.dr.2.size
    have hbnd : WA.heap.size ≤ (w3.alloc (.cells y.enc.toArray 27)).heap.size := by simp; omega
    clear ho hok' hd3 HS HS4 c0 c1 c2 hk1 hkw
    have hye : y.enc.toArray = #[.int .i64 y.st, .slice y.p y.m y.c, .slice y.q y.k y.d] := rfl
    rw [hye] at HS5 HIT HO4 hbnd
    clear hye HA4
    have HYS := Lib.hid hys
    clear hys
    unfold Mh.val
    go_wp2_with (at_builtin; refine wpl_appW _ Mh.enc_len (by omega) Mh.one rfl (.tmp 23) (.tmp 32) 39 rfl 27 i1 (.agg #[.int .i64 0, .slice none 0 0, .slice none 0 0]) 56 Try.underlying39 HI1.out.1 HI1.out.2.1 HI1.out.2.2.1 HI1.out.2.2.2 rfl rfl HS5.out.row rfl HIT.out (by omega) ?ca ?cb ?_)
    case ca => omega
    case cb => exact hbnd
    intro q5 r5 w5 ho5 hg5 hw5
    obtain ⟨g5, rfl, hst5⟩ := HS5.out.push HO4.out HYS.out (by omega) (by omega) HON.out ho5 hg5 hw5
    have HS6 := Lib.hid hst5
    clear ho5 hg5 hw5 hst5 HS5 HIT HO4 hbnd
    go_wp2_with fail
    go_roundw
    case rel => exact ⟨j', g5, k + 1, r5, _, _, by go_num, rfl, by omega, HS6.out⟩
    case measure => simp [intOf]
end Go.Proofs.Ytckmgbobkffabaa
namespace Go.Proofs.Ytckmgbobkffabaa
open Go.ChangeShapes Go.WideShapes Go.ChangeAt Go.RowKit
set_option linter.unusedVariables false

theorem swap_mem {l : List (Int × Int)} {q : Int × Int} : q.swap ∈ l.map Prod.swap ↔ q ∈ l := by
 rw [List.mem_map]
 constructor
 ·rintro ⟨p, hp, e⟩
  have : p = q := by
   have := congrArg Prod.swap e
   simpa using this
  rwa [← this]
 ·exact fun h => ⟨q, h, rfl⟩
theorem nextP_swap {a b : Mac} {x y : Int} {q : Int × Int} : q ∈ nextP a b x y ↔ q.swap ∈ nextP b a y x := by
 unfold nextP
 rw [List.mem_append, List.mem_append, swap_mem]
 have h := swap_mem (l := delivs b y a x) (q := q.swap)
 rw [Prod.swap_swap] at h
 rw [h]
 exact or_comm
/-- A pair of states that is reached. -/
inductive Reach (a b : Mac) : Int × Int → Prop
 | start : Reach a b (0, 0)
 | step {p q : Int × Int} : Reach a b p → q ∈ nextP a b p.1 p.2 → Reach a b q
theorem Reach.turn {a b : Mac} {p : Int × Int} (h : Reach a b p) : Reach b a p.swap := by
 induction h with
 | start => exact Reach.start
 | step _ hq ih => exact Reach.step ih (nextP_swap.1 hq)
theorem found_reach (a b : Mac) : ∀ i, ∀ p ∈ found a b i, Reach a b p
 | 0, p, hp => by
  have : p = (0, 0) := by simpa [found] using hp
  subst this
  exact Reach.start
 | i + 1, p, hp => by
  cases e : (found a b i)[i]? with
  | none =>
   have hf : found a b (i + 1) = found a b i := by
    show (match (found a b i)[i]? with
     | some p => growP (found a b i) (nextP a b p.1 p.2)
     | none => found a b i) = _
    rw [e]
   rw [hf] at hp
   exact found_reach a b i p hp
  | some r =>
   rw [found_step e] at hp
   rcases growP_mem.1 hp with h | h
   ·exact found_reach a b i p h
   ·exact Reach.step (found_reach a b i r (List.mem_of_getElem? e)) h
theorem found_pre1 (a b : Mac) (i : Nat) : ∃ r, found a b (i + 1) = found a b i ++ r := by
 cases e : (found a b i)[i]? with
 | none =>
  refine ⟨[], ?_⟩
  show (match (found a b i)[i]? with
   | some p => growP (found a b i) (nextP a b p.1 p.2)
   | none => found a b i) = _
  rw [e, List.append_nil]
 | some r =>
  rw [found_step e]
  exact growP_pre
theorem found_pre (a b : Mac) (i : Nat) : ∀ k, ∃ r, found a b (i + k) = found a b i ++ r
 | 0 => ⟨[], by simp⟩
 | k + 1 => by
  obtain ⟨r, e⟩ := found_pre a b i k
  obtain ⟨s, e2⟩ := found_pre1 a b (i + k)
  exact ⟨r ++ s, by rw [show i + (k + 1) = i + k + 1 by omega, e2, e, List.append_assoc]⟩
theorem found_zero (a b : Mac) (i : Nat) : (0, 0) ∈ found a b i := by
 obtain ⟨r, e⟩ := found_pre a b 0 i
 rw [Nat.zero_add] at e
 rw [e]
 exact List.mem_append_left _ (by simp [found])
theorem found_closed {a b : Mac} (ha : isMac a = true) (hb : isMac b = true) {p q : Int × Int} (hp : p ∈ found a b 36) (hq : q ∈ nextP a b p.1 p.2) : q ∈ found a b 36 := by
 obtain ⟨j, hj⟩ := List.mem_iff_getElem?.1 hp
 have hL := found_len ha hb 36
 have hjl := at_lt hj
 have hjl2 : j < (found a b j).length := by
  rcases Nat.lt_or_ge j (found a b j).length with h | h
  ·exact h
  ·have := found_stay h (36 - j)
   rw [show j + (36 - j) = 36 by omega] at this
   rw [this] at hjl
   omega
 obtain ⟨r, e⟩ := found_pre a b j (36 - j)
 rw [show j + (36 - j) = 36 by omega] at e
 have hj2 : (found a b j)[j]? = some p := by
  rw [e, List.getElem?_append_left hjl2] at hj
  exact hj
 have h1 : q ∈ found a b (j + 1) := by
  rw [found_step hj2]
  exact growP_mem.2 (Or.inr hq)
 obtain ⟨s, e2⟩ := found_pre a b (j + 1) (36 - (j + 1))
 rw [show j + 1 + (36 - (j + 1)) = 36 by omega] at e2
 rw [e2]
 exact List.mem_append_left _ h1
theorem reach_found {a b : Mac} (ha : isMac a = true) (hb : isMac b = true) {p : Int × Int} (h : Reach a b p) : p ∈ found a b 36 := by
 induction h with
 | start => exact found_zero a b 36
 | step _ hq ih => exact found_closed ha hb ih hq
theorem pairsP_mem {a b : Mac} (ha : isMac a = true) (hb : isMac b = true) {p : Int × Int} : p ∈ pairsP a b ↔ Reach a b p := by
 unfold pairsP
 rw [if_pos (by rw [ha, hb]; rfl)]
 exact ⟨found_reach a b 36 p, reach_found ha hb⟩
theorem pairsP_nodup (a b : Mac) : (pairsP a b).Nodup := by
 unfold pairsP
 split
 ·exact found_nodup a b 36
 ·simp
theorem pairsP_none {a b : Mac} (h : isMac a = false ∨ isMac b = false) : pairsP a b = [] := by
 unfold pairsP
 rw [if_neg (by rcases h with h | h <;> simp [h])]
theorem nodup_swap {l : List (Int × Int)} (h : l.Nodup) : (l.map Prod.swap).Nodup := by
 rw [List.Nodup, List.pairwise_map]
 exact h.imp fun hne e => hne (by have := congrArg Prod.swap e; simpa using this)
theorem pairsP_le (a b : Mac) : (pairsP a b).length ≤ (pairsP b a).length := by
 cases ha : isMac a with
 | false => rw [pairsP_none (Or.inl ha)]; simp
 | true =>
  cases hb : isMac b with
  | false => rw [pairsP_none (Or.inr hb)]; simp
  | true =>
   have := nodup_le (nodup_swap (pairsP_nodup a b)) (m := pairsP b a) fun p hp => by
    obtain ⟨q, hq, rfl⟩ := List.mem_map.1 hp
    exact (pairsP_mem hb ha).2 ((pairsP_mem ha hb).1 hq).turn
   simpa using this
theorem pairsP_turn (a b : Mac) : (pairsP a b).length = (pairsP b a).length := Nat.le_antisymm (pairsP_le a b) (pairsP_le b a)
theorem nextP_empty (a b : Mac) (x y : Int) : (nextP a b x y).isEmpty = (nextP b a y x).isEmpty := by
 unfold nextP
 cases delivs a x b y <;> cases delivs b y a x <;> rfl
theorem troubleP_turn (a b : Mac) (x y : Int) : troubleP a b x y = troubleP b a y x := by
 unfold troubleP
 rw [nextP_empty a b x y, Bool.or_comm (unreadP a b x y), Bool.and_comm (stopP a x)]
theorem firstP_none {a b : Mac} : (firstP a b).isNone = true ↔ ∀ p ∈ pairsP a b, troubleP a b p.1 p.2 = 0 := by
 unfold firstP
 rw [Option.isNone_iff_eq_none, List.find?_eq_none]
 constructor
 ·intro h p hp
  have := h p hp
  simpa using this
 ·intro h p hp
  simp [h p hp]
theorem safeP_iff {a b : Mac} : safeP a b = true ↔ isMac a = true ∧ isMac b = true ∧ ∀ p ∈ pairsP a b, troubleP a b p.1 p.2 = 0 := by
 unfold safeP
 rw [Bool.and_eq_true, Bool.and_eq_true, firstP_none]
theorem safeP_to {a b : Mac} (h : safeP a b = true) : safeP b a = true := by
 obtain ⟨ha, hb, hp⟩ := safeP_iff.1 h
 refine safeP_iff.2 ⟨hb, ha, fun p hm => ?_⟩
 have := hp p.swap ((pairsP_mem ha hb).2 ((pairsP_mem hb ha).1 hm).turn)
 rw [troubleP_turn]
 exact this
theorem safeP_turn (a b : Mac) : safeP a b = safeP b a := by
 cases h : safeP a b with
 | true => exact (safeP_to h).symm
 | false =>
  cases h2 : safeP b a with
  | true => rw [safeP_to h2] at h; cases h
  | false => rfl
/-- Whoever is safe has no trouble. -/
theorem safe_row {a b : Mac} (h : safeP a b = true) : (rowOf (firstP a b)).length = 0 := by
 unfold safeP at h
 rw [Bool.and_eq_true, Bool.and_eq_true, Option.isNone_iff_eq_none] at h
 rw [h.2.2]
 rfl
theorem unsafe_row {a b : Mac} (h : safeP a b = false) (ha : isMac a = true) (hb : isMac b = true) : (rowOf (firstP a b)).length = 2 := by
 unfold safeP at h
 rw [ha, hb, Bool.true_and, Bool.true_and] at h
 cases e : firstP a b with
 | none => rw [e] at h; cases h
 | some p => rfl
theorem toOf_neg (l : List Mv) (s : Int) (b : Bool) (k : Int) : toOf (l.map Mv.neg) s b k = toOf l s (!b) k := by
 unfold toOf
 rw [List.find?_map, Option.map_map]
 have e1 : (hitM s b k ∘ Mv.neg) = hitM s (!b) k := by
  funext x
  cases x with
  | mk f sd m t => cases sd <;> cases b <;> rfl
 rw [e1]
 rfl
theorem delivs_dual {a : Mac} {s : Int} {q : Int × Int} (h : q ∈ delivs a s (dualM a) s) : q.1 = q.2 := by
 obtain ⟨k, hk, h2⟩ := List.mem_filterMap.1 h
 unfold deliv at h2
 rw [Option.map_eq_some_iff] at h2
 obtain ⟨r, hr, e⟩ := h2
 change toOf (a.moves.map Mv.neg) s false k = some r at hr
 rw [toOf_neg] at hr
 change toOf a.moves s true k = some r at hr
 rw [hr] at e
 subst e
 rfl
theorem delivs_dual2 {a : Mac} {s : Int} {q : Int × Int} (h : q ∈ delivs (dualM a) s a s) : q.1 = q.2 := by
 obtain ⟨k, hk, h2⟩ := List.mem_filterMap.1 h
 unfold deliv at h2
 rw [Option.map_eq_some_iff] at h2
 obtain ⟨r, hr, e⟩ := h2
 have : toOf (dualM a).moves s true k = toOf a.moves s false k := toOf_neg a.moves s true k
 rw [this, hr] at e
 subst e
 rfl
theorem nextP_dual {a : Mac} {s : Int} {q : Int × Int} (h : q ∈ nextP a (dualM a) s s) : q.1 = q.2 := by
 rcases List.mem_append.1 h with h | h
 ·exact delivs_dual h
 ·obtain ⟨p, hp, rfl⟩ := List.mem_map.1 h
  exact (delivs_dual2 hp).symm
theorem reach_dual {a : Mac} {p : Int × Int} (h : Reach a (dualM a) p) : p.1 = p.2 := by
 induction h with
 | start => rfl
 | step _ hq ih =>
  rw [← ih] at hq
  exact nextP_dual hq
theorem unread_dual (a : Mac) (s : Int) : unreadP a (dualM a) s s = false ∧ unreadP (dualM a) a s s = false := by
 constructor
 ·unfold unreadP
  rw [List.any_eq_false]
  intro k hk
  obtain ⟨t, ht⟩ := sent_to hk
  have : toOf (dualM a).moves s false k = toOf a.moves s true k := toOf_neg a.moves s false k
  rw [this, ht]
  simp
 ·unfold unreadP
  rw [List.any_eq_false]
  intro k hk
  obtain ⟨t, ht⟩ := sent_to hk
  have : toOf (dualM a).moves s true k = toOf a.moves s false k := toOf_neg a.moves s true k
  rw [this] at ht
  rw [ht]
  simp
/-- What holds of every pair that a machine reaches with its dual. -/
theorem pairs_dual {a : Mac} {p : Int × Int} (h : p ∈ pairsP a (dualM a)) : p.1 = p.2 ∧ troubleP a (dualM a) p.1 p.2 ≠ 1 ∧ ∀ q ∈ nextP a (dualM a) p.1 p.2, 0 ≤ q.1 ∧ q.1 < a.st := by
 cases ha : isMac a with
 | false => rw [pairsP_none (Or.inl ha)] at h; simp at h
 | true =>
  cases hd : isMac (dualM a) with
  | false => rw [pairsP_none (Or.inr hd)] at h; simp at h
  | true =>
   have e := reach_dual ((pairsP_mem ha hd).1 h)
   refine ⟨e, ?_, fun q hq => ?_⟩
   ·rw [← e]
    unfold troubleP
    rw [(unread_dual a p.1).1, (unread_dual a p.1).2, Bool.or_false, if_neg (by decide)]
    split <;> decide
   ·obtain ⟨⟨m, hm, e2⟩, _⟩ := nextP_mem hq
    have := (isMac_to ha).2 m hm
    omega
end Go.Proofs.Ytckmgbobkffabaa
