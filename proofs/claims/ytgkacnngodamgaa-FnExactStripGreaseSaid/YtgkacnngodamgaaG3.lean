/- Lists of values that are being drawn: what a step of the cursor leaves. Lists that are being drawn: bounds on what they hold; a number below a bound that may be none. The helpers of the exact laws at lists of fields: copied, compared. The kinds of fields, and the greatest Max of each; being in a range. Being a format: by the program and by its model. -/
import Derived.Test.YtgkacnngodamgaaG2
import Derived.Deep.QuietTactic
import Derived.BigQuiet
import Derived.RegionTactic
import Derived.StillTailTactics
import Derived.Handy
import Derived.Deep.RegionHeld3
namespace Go.Proofs.Ytgkacnngodamgaa
open Go.ChangeShapes Go.WideShapes Go.ChangeAt Go.RowKit
set_option linter.unusedVariables false

section
variable {tO tI : TypeId} {w w' : World} {B S n c : Nat} {a : Option Addr} {l : List Vl} {hs : List Vh}
theorem OwnVB.only {b : Nat} (h : OwnVB S tO tI w B a n c l) (ho : Only b w w') (hb : b < B) : OwnVB S tO tI w' B a n c l := h.far (only_grown ho) fun r e => by cases e; exact Or.inl hb
theorem OwnV.only {b : Nat} (h : OwnV tO tI w B a n c l) (ho : Only b w w') (hb : b < B) : OwnV tO tI w' B a n c l := (h.lim.only ho hb).ownV
end
end Go.Proofs.Ytgkacnngodamgaa
namespace Go.Proofs.Ytgkacnngodamgaa
open Go.ChangeShapes Go.WideShapes Go.ChangeAt Go.RowKit
set_option linter.unusedVariables false

theorem Items.only {α : Type} {enc : α → List Value} {s : Nat} {w w' : World} {a : Option Addr} {n b : Nat} {l : List α} (h : Items enc s w a n l) (ho : Only b w w') (hne : ∀ ad, a = some ad → ad.block ≠ b) : Items enc s w' a n l :=
  ⟨h.len, h.fits, fun j x hj => by
    obtain ⟨bb, o, e, hx⟩ := h.cell j x hj
    have h1 : bb ≠ b := hne _ e
    exact ⟨bb, o, e, fun i v hv => by rw [ho.cell (cell_in (hx i v hv)) h1]; exact hx i v hv⟩⟩
theorem told_bool {P : Program} {f : FuncId} {args : Array Value} {w : World} {x y : Bool} (e : x = y) (h : Calls P f args w (Told (.bool x) w)) : Calls P f args w (Told (.bool y) w) := e ▸ h
/-- Every number is an integer of 64 bits, and no value has more than r integers. -/
def Vok (r : Nat) (v : List Vl) : Prop := ∀ x ∈ v, (I64 x.num ∧ ∀ z ∈ x.items, I64 z) ∧ x.items.length ≤ r
theorem Vok.mono {r r' : Nat} {v : List Vl} (h : Vok r v) (hr : r ≤ r') : Vok r' v := fun x hx => ⟨(h x hx).1, Nat.le_trans (h x hx).2 hr⟩
theorem Vok.app {r : Nat} {v : List Vl} {k : Int} {y : List Int} (h : Vok r v) (hk : I64 k) (hy : ∀ z ∈ y, I64 z) (hl : y.length ≤ r) : Vok r (v ++ [⟨k, y⟩]) := fun x hx => by
  rcases List.mem_append.1 hx with q | q
  · exact h x q
  · rw [List.mem_singleton.1 q]
    exact ⟨⟨hk, hy⟩, hl⟩
set_option maxRecDepth 100000 in
theorem belowAny (b : Nat) (a : Option Addr) (n c : Nat) (m : Int) (hm : m ≤ 9223372036854775807) (w : World) (hc : Curs w b a n c) :
    Calls Try.prog 51 #[.pointer (some ⟨b, 0, none⟩), .int .i64 m] w fun e w' => ∃ x : Int, 0 ≤ x ∧ x ≤ 9223372036854775807 ∧ (x = 0 ∨ x < m) ∧ e = .returned (.int .i64 x) ∧ Drawn b a n c w w' := by
  by_cases h : 1 ≤ m
  · refine (below_any b a n c m h hm w hc).mono ?_
    rintro e w' ⟨x, h0, h1, he, hd⟩
    exact ⟨x, h0, by omega, Or.inr h1, he, hd⟩
  · refine (belowNo_any b a n c m (by omega) w).mono ?_
    rintro e w' ⟨he, rfl⟩
    exact ⟨0, by omega, by omega, Or.inl rfl, he, Drawn.refl hc⟩
/-- The beginning of a slice of the call's own. -/
theorem Own.cut {k : IntKind} {t : TypeId} {w : World} {B n c : Nat} {a : Option Addr} {l : List Int} (h : Own k t w B a n c l) {m : Nat} (hm : m ≤ n) (hn : 0 < n) : Own k t w B a m c (l.take m) := by
  refine ⟨by rw [List.length_take, h.len]; omega, by simp [h.len]; omega, ?_⟩
  rcases h.2.2 with ⟨_, h2⟩ | ⟨g, cap, cur, h1, hB, hg, hle, hcap, hcs, htk⟩
  · omega
  · injection h1 with e1 e2 e3
    subst e1
    subst e3
    refine Or.inr ⟨g, c, cur, rfl, hB, hg, by omega, hcap, hcs, ?_⟩
    rw [List.map_take, ← htk, List.take_take]
    congr 1
    omega
/-- A list of integers that is drawn. -/
def DrewI (b : Nat) (a : Option Addr) (n c most : Nat) (w : World) (e : Ending) (w' : World) : Prop :=
  ∃ (a' : Option Addr) (n' c' : Nat) (y : List Int), e = .returned (.slice a' n' c') ∧ Own .i64 3 w' w.heap.size a' n' c' y ∧ n' ≤ most ∧ Drawn b a n c w w'
theorem Vok.set {r : Nat} {v : List Vl} {k : Int} {y : List Int} (h : Vok r v) (i : Nat) (hk : I64 k) (hy : ∀ z ∈ y, I64 z) (hl : y.length ≤ r) : Vok r (v.set i ⟨k, y⟩) := fun x hx => by
  obtain ⟨j, hj⟩ := List.getElem?_of_mem hx
  by_cases e : j = i
  · subst e
    have hlt := lt_of_some hj
    rw [List.length_set] at hlt
    rw [List.getElem?_set_self hlt] at hj
    cases hj
    exact ⟨⟨hk, hy⟩, hl⟩
  · rw [List.getElem?_set_ne (by omega)] at hj
    exact h x (List.mem_of_getElem? hj)
end Go.Proofs.Ytgkacnngodamgaa
namespace Go.Proofs.Ytgkacnngodamgaa
open Go.ChangeShapes Go.WideShapes Go.ChangeAt Go.RowKit
set_option linter.unusedVariables false

theorem infoFieldS : (Try.prog.info? 92).map (fun i => (i.zero, i.size, i.bytes)) = some (some (.agg #[.int .i64 0, .int .i64 0, .int .i64 0, .int .i64 0]), 4, 32) := by kernel_rfl

theorem set4 (A : List Value) (p : Nat) (hA : A.length = p) (a b c d : Value) (R : List Value) (v0 v1 v2 v3 : Value) :
    ((((A ++ a :: b :: c :: d :: R).set p v0).set (p + 1) v1).set (p + 2) v2).set (p + 3) v3 = A ++ v0 :: v1 :: v2 :: v3 :: R := by
  subst hA
  rw [List.set_append_right _ _ (Nat.le_refl _), Nat.sub_self, List.set_cons_zero, List.set_append_right _ _ (by omega), List.set_append_right _ _ (by omega), List.set_append_right _ _ (by omega)]
  simp [show A.length + 1 - A.length = 1 by omega, show A.length + 2 - A.length = 2 by omega, show A.length + 3 - A.length = 3 by omega]
def zeroCell : Value := .int .i64 0
def fillF (l : List Fd) (j n : Nat) : List Value := flatOf Fd.enc (l.take j) ++ List.replicate ((n - j) * 4) zeroCell
theorem fillF_zero (l : List Fd) (n : Nat) : fillF l 0 n = List.replicate (n * 4) zeroCell := by simp [fillF, flatOf]
theorem fillF_all (l : List Fd) (n : Nat) (h : l.length = n) : fillF l n n = flatOf Fd.enc l := by
  unfold fillF
  rw [List.take_of_length_le (by omega), Nat.sub_self]
  simp
theorem fillF_step {l : List Fd} {j n : Nat} {x : Fd} (hj : l[j]? = some x) (hn : l.length = n) :
    ((((fillF l j n).set (j * 4) (.int .i64 x.kind)).set (j * 4 + 1) (.int .i64 x.max)).set (j * 4 + 2) (.int .i64 x.cond)).set (j * 4 + 3) (.int .i64 x.is) = fillF l (j + 1) n := by
  have hlt : j < l.length := by
    rcases Nat.lt_or_ge j l.length with h | h
    · exact h
    · rw [List.getElem?_eq_none h] at hj; cases hj
  unfold fillF
  rw [show (n - j) * 4 = (n - (j + 1)) * 4 + 1 + 1 + 1 + 1 by omega, List.replicate_succ, List.replicate_succ, List.replicate_succ, List.replicate_succ, set4 _ (j * 4) (by rw [flatOf_len Fd.enc_len, List.length_take]; omega), List.take_add_one, hj]
  simp [flatOf, Fd.enc]
theorem fillF_len {l : List Fd} {j n : Nat} (hn : l.length = n) (hj : j ≤ n) : (fillF l j n).length = n * 4 := by
  unfold fillF
  rw [List.length_append, flatOf_len Fd.enc_len, List.length_take, List.length_replicate]
  omega
theorem made4 (n : Nat) : (madeCells (Value.agg #[.int .i64 0, .int .i64 0, .int .i64 0, .int .i64 0]).cells (n * 4)).toList = List.replicate (n * 4) zeroCell := by
  apply List.ext_getElem
  · simp [madeCells]
  · intro i h1 h2
    simp only [madeCells, Value.cells, List.getElem_replicate, Array.getElem_toList, Array.getElem_map, Array.getElem_range]
    have : i % 4 < 4 := Nat.mod_lt _ (by omega)
    show (#[zeroCell, zeroCell, zeroCell, zeroCell] : Array Value)[i % 4]! = zeroCell
    match i % 4, this with
    | 0, _ => rfl
    | 1, _ => rfl
    | 2, _ => rfl
    | 3, _ => rfl

/-- Cells in a row of the call's own are there, whatever they hold. -/
theorem row_cell {w : World} {B : Nat} {t : TypeId} {s g n cap : Nat} {xs : List Value} (h : w.ownsRow B t s (.slice (some ⟨g, 0, none⟩) n cap) n xs) {k : Nat} (hk : k < n * s) : ∃ u, w.cell? ⟨g, k, none⟩ = some u := by
  rw [h.cellAt k hk]
  have : k < xs.length := by rw [h.1]; exact hk
  exact ⟨_, List.getElem?_eq_getElem this⟩

end Go.Proofs.Ytgkacnngodamgaa
namespace Go.Proofs.Ytgkacnngodamgaa
open Go.ChangeShapes Go.WideShapes Go.ChangeAt Go.RowKit
set_option linter.unusedVariables false

theorem inR_any (n l h : Int) (w : World) :
    Calls Try.prog 64 #[.int .i64 n, .int .i64 l, .int .i64 h] w fun e w' => e = .returned (.bool (decide (l ≤ n ∧ n ≤ h))) ∧ w = w' := by
  by_cases h1 : l ≤ n <;> by_cases h2 : n ≤ h <;> (go_enter Try.func64, Try.ntmps64; go_wp2; go_ret; exact ⟨by simp [h1, h2], rfl⟩)
theorem l1R_any (n l h : Int) (w : World) :
    Calls Try.prog 91 #[.int .i64 n, .int .i64 l, .int .i64 h] w fun e w' => e = .returned (.bool (decide (l ≤ n ∧ n ≤ h))) ∧ w = w' := by
  by_cases h1 : l ≤ n <;> by_cases h2 : n ≤ h <;> (go_enter Try.func91, Try.ntmps91; go_wp2; go_ret; exact ⟨by simp [h1, h2], rfl⟩)

/-- A kind's name. -/
def nameOf (k : Int) : List UInt8 := if k = 1 then [110, 117, 109] else if k = 2 then [116, 101, 120, 116] else if k = 3 then [108, 105, 115, 116] else []
/-- A kind's greatest Max. -/
def mostOf (k : Int) : Int := if k = 1 then 99 else if k = 2 then 5 else if k = 3 then 5 else 0
/-- The value that stands for a kind. -/
def typeVal (k : Int) : Value := if k = 1 then .iface 112 (.agg #[]) else if k = 2 then .iface 113 (.agg #[]) else if k = 3 then .iface 115 (.agg #[]) else .iface 123 (.agg #[])

set_option maxRecDepth 100000 in
theorem typeOf_any (k : Int) (w : World) : Calls Try.prog 95 #[.int .i64 k] w fun e w' => e = .returned (typeVal k) ∧ w = w' := by
  by_cases h1 : k = 1
  · subst h1
    go_enter Try.func95, Try.ntmps95
    go_wp2
    go_ret
    exact ⟨rfl, rfl⟩
  · by_cases h2 : k = 2
    · subst h2
      go_enter Try.func95, Try.ntmps95
      go_wp2
      go_ret
      exact ⟨rfl, rfl⟩
    · by_cases h3 : k = 3
      · subst h3
        go_enter Try.func95, Try.ntmps95
        go_wp2
        go_ret
        exact ⟨rfl, rfl⟩
      · have e1 : (k == 1) = false := by simpa using h1
        have e2 : (k == 2) = false := by simpa using h2
        have e3 : (k == 3) = false := by simpa using h3
        go_enter Try.func95, Try.ntmps95
        go_wp2
        go_ret
        exact ⟨by simp [typeVal, h1, h2, h3], rfl⟩

end Go.Proofs.Ytgkacnngodamgaa
namespace Go.Proofs.Ytgkacnngodamgaa
open Go.ChangeShapes Go.WideShapes Go.ChangeAt Go.RowKit
set_option linter.unusedVariables false

theorem beq_dec (x y : Int) : (x == y) = decide (x = y) := by by_cases h : x = y <;> simp [h]
/-- The condition of a field behind the fields l looks back at a number that is there always, and at a value that it can have. -/
def condOk (l : List Fd) (x : Fd) : Bool :=
  if x.cond = -1 then decide (x.is = 0)
  else decide (0 ≤ x.cond ∧ x.cond ≤ (l.length : Int) - 1) && (match l[x.cond.toNat]? with
    | some g => decide (g.kind = 1) && decide (g.cond = -1) && decide (0 ≤ x.is ∧ x.is ≤ g.max)
    | none => false)
def fieldOk (l : List Fd) (x : Fd) : Bool := decide (1 ≤ x.max ∧ x.max ≤ mostOf x.kind) && condOk l x
/-- The first j fields are as they must be. -/
def okTo (l : List Fd) (j : Nat) : Prop := ∀ i x, i < j → l[i]? = some x → fieldOk (l.take i) x = true
def IsFmt (l : List Fd) : Prop := (1 ≤ l.length ∧ l.length ≤ 6) ∧ okTo l l.length
noncomputable def isFmt (l : List Fd) : Bool := @decide (IsFmt l) (Classical.propDecidable _)

end Go.Proofs.Ytgkacnngodamgaa
