/- A list of integers copied, by the program. An extension copied, by the program; the extensions whose tags are asked for. Ranges as facts, and which tags are reserved: by the program and by the model. The mathematics of the hash: a fold of numbers modulo a prime, one factor and two terms. No function of the program is spoken of. -/
import Derived.Test.YtcmjadfpifpknaaGreatG1
import Derived.Test.YtcmjadfpifpknaaGreatG5
import Derived.RegionTactic
import Derived.Test.YtcmjadfpifpknaaGreatG9
import Derived.Test.YtcmjadfpifpknaaGreatG6
import Derived.Test.YtcmjadfpifpknaaGreatG10
import Derived.Test.YtcmjadfpifpknaaGreatG8
import Derived.Deep.RegionHeld3
import Derived.Deep.QuietTactic
import Derived.BigQuiet
import Derived.StillTailTactics
import Derived.Handy
namespace Go.Proofs.YtcmjadfpifpknaaGreat
open Go.ChangeShapes Go.WideShapes Go.ChangeAt Go.RowKit
set_option linter.unusedVariables false

set_option maxRecDepth 100000 in
theorem copyList_any {a : Option Addr} {n c : Nat} {l : List Int} {w : World} (h : Nums .i64 w a n l) (hn : n ≤ 1000000000000) :
    Calls Tryz.prog 59 #[.slice a n c] w (Made .i64 3 w.heap.size l w) := by
  have H := Lib.hid h
  clear h
  obtain ⟨i0, hi, hz0, hz1, hz2⟩ := info_parts infoIntS
  have HI := Lib.hid (And.intro hi (And.intro hz0 (And.intro hz1 hz2)))
  clear hi hz0 hz1 hz2
  have KO := Lib.hid (Own.empty (k := .i64) (t := 3) (w := w) (B := w.heap.size) (Nat.le_refl _))
  unfold Made
  go_enter Tryz.func59, Tryz.ntmps59
  go_wp2_with (at_builtin; refine wpl_app _ rfl (.tmp 3) (.tmp 4) 24 rfl .i64 3 i0 (.int .i64 0) 8 Tryz.underlying24 HI.out.1 HI.out.2.1 HI.out.2.2.1 HI.out.2.2.2 rfl rfl KO.out rfl (H.out.same (alloc_same _ _)) (by omega) ?c1 ?c2 ?_)
  case c1 => omega
  case c2 => simp
  intro a1 c1 w1 ho1 hb1
  have HO1 := Lib.hid ho1
  have HB1 := Lib.hid ((alloc_same w (.cells #[] 3)).trans hb1)
  clear ho1 hb1
  go_wp2_with fail
  go_ret
  refine ⟨_, _, _, rfl, ?_, HB1.out⟩
  simpa using HO1.out
end Go.Proofs.YtcmjadfpifpknaaGreat
namespace Go.Proofs.YtcmjadfpifpknaaGreat
open Go.ChangeShapes Go.WideShapes Go.ChangeAt Go.RowKit
set_option linter.unusedVariables false
set_option linter.unusedSimpArgs false

/-- What a function leaves that makes an extension. -/
def MadeX (tI : TypeId) (k : Int) (y : List Int) (w : World) (e : Ending) (w' : World) : Prop :=
  ∃ q m d, e = .returned (.agg #[.int .i64 k, .slice q m d]) ∧ Own .i64 tI w' w.heap.size q m d y ∧ Below w.heap.size w w'
set_option maxHeartbeats 4000000 in
set_option maxRecDepth 100000 in
theorem copyExt_any (k : Int) (p : Option Addr) (m c : Nat) (y : List Int) (w : World) (h : Nums .i64 w p m y) (hm : m ≤ 1048576000) :
    Calls Tryz.prog 102 #[.agg #[.int .i64 k, .slice p m c]] w (MadeX 3 k y w) := by
  have HL := Lib.hid h.len
  obtain ⟨hsz, hX, hM, hB⟩ := two w #[.int .i64 k, .slice p m c] #[.int .i64 0, .slice none 0 0] 125 125
  have HN := Lib.hid (h.same hB)
  have HB := Lib.hid hB
  clear h hB
  go_enter Tryz.func102, Tryz.ntmps102
  go_wp2_with fail
  generalize (w.alloc (.cells #[.int .i64 k, .slice p m c] 125)).alloc (.cells #[.int .i64 0, .slice none 0 0] 125) = W0 at *
  have C0 := Lib.hid ((block_cell hX 0).trans rfl)
  have C1 := Lib.hid ((block_cell hX 1).trans rfl)
  have HM := Lib.hid hM
  have hszB := HB.out.size
  clear hX hM
  have HN2 : Hid (Nums .i64 W0.drew p m y) := Lib.hid (HN.out.same (Below.refl _ _).drew)
  go_region_held3 (fun w9 => w9.cell? ⟨w.heap.size, 0, none⟩ = some (.int .i64 k) ∧ w9.cell? ⟨w.heap.size, 1, none⟩ = some (.slice p m c)) (first | exact ⟨cell_stay C0.out HB3.out, cell_stay C1.out HB3.out⟩ | exact ⟨cell_off (cell_stay C0.out HB3.out) ((set_grown _ _ _ _).trans (set_grown _ _ _ _)) (by simp), cell_off (cell_stay C1.out HB3.out) ((set_grown _ _ _ _).trans (set_grown _ _ _ _)) (by simp)⟩ | exact ⟨cell_stay C0.out (Below.refl _ _).drew, cell_stay C1.out (Below.refl _ _).drew⟩) ((first | (go_at_call 59; refine (copyList_any HN2.out (by omega)).mono ?_; rintro e w3 ⟨a3, m3, c3, rfl, ho3, hb3⟩; obtain rfl : m = m3 := (by rw [← ho3.len]; exact HL.out.symm); have HO3 : Hid (Own .i64 3 w3 W0.heap.size a3 m c3 y) := Lib.hid ho3; have HB3 : Hid (Below W0.heap.size W0 w3) := Lib.hid ((Below.refl _ _).drew.trans hb3); have hM3 : w3.heap[w.heap.size + 1]? = some (.cells #[.int .i64 0, .slice none 0 0] 125 (0, 0)) := (HB3.out.block _ (by omega)).trans HM.out; obtain ⟨m0, m1, g0, g1⟩ := two_cells hM3; clear ho3 hb3)))
  obtain ⟨z0, z1, hZ⟩ := two_put hM3 (.int .i64 k) (.slice a3 m c3)
  have HS3 := Lib.hid HO3.out.span
  have HG3 : Hid (Below w.heap.size w w3) := Lib.hid (HB.out.trans (HB3.out.mono hszB))
  have hs3 := HB3.out.size
  clear hM3 m0 m1 g0 g1 hZ
  go_wp2_with fail
  (try simp only [Exit.inBlock, Exit.then])
  refine bodyPost_ret (by simp [results, Tryz.results102, go_sem, z0, z1]; try rfl) rfl ?_
  have hd : ∀ ad, a3 = some ad → ad.block ≠ w.heap.size + 1 := fun ad e => by
    have := (HS3.out ad e).1
    omega
  have h9 := ((HO3.out.lower hszB).set hd 0 (.int .i64 k)).set hd 1 (.slice a3 m c3)
  exact ⟨_, _, _, rfl, h9, (HG3.out.setCell (by dsimp only; omega) _).setCell (by dsimp only; omega) _⟩
/-- The extensions whose tags are asked for. -/
def whX (f : Int → Bool) (l : List Vl) : List Vl := l.filter fun x => f x.num
theorem knownOf_wh (l : List Vl) (ts : List Int) : knownOf l ts = whX (fun k => decide (k ∈ ts)) l := rfl
theorem wh_yes {f : Int → Bool} {l : List Vl} {j : Nat} {x : Vl} (hx : l[j]? = some x) (h : f x.num = true) : whX f (l.take (j + 1)) = whX f (l.take j) ++ [x] := by
  rw [List.take_add_one, hx]
  simp [whX, h]
theorem wh_no {f : Int → Bool} {l : List Vl} {j : Nat} {x : Vl} (hx : l[j]? = some x) (h : f x.num = false) : whX f (l.take (j + 1)) = whX f (l.take j) := by
  rw [List.take_add_one, hx]
  simp [whX, h]
theorem wh_few (f : Int → Bool) (l : List Vl) : (whX f l).length ≤ l.length := List.length_filter_le _ _
theorem wh_items (f : Int → Bool) : ∀ (l : List Vl), itemsOf (whX f l) ≤ itemsOf l
  | [] => Nat.le_refl _
  | x :: t => by
    have := wh_items f t
    unfold whX itemsOf at *
    rw [List.filter_cons]
    split <;> simp <;> omega
theorem known_yes {l : List Vl} {ts : List Int} {j : Nat} {x : Vl} (hx : l[j]? = some x) (h : x.num ∈ ts) : knownOf (l.take (j + 1)) ts = knownOf (l.take j) ts ++ [x] := by
  rw [List.take_add_one, hx]
  simp [knownOf, h]
theorem known_no {l : List Vl} {ts : List Int} {j : Nat} {x : Vl} (hx : l[j]? = some x) (h : ¬ x.num ∈ ts) : knownOf (l.take (j + 1)) ts = knownOf (l.take j) ts := by
  rw [List.take_add_one, hx]
  simp [knownOf, h]
theorem known_few (l : List Vl) (ts : List Int) : (knownOf l ts).length ≤ l.length := List.length_filter_le _ _
theorem known_items : ∀ (l : List Vl) (ts : List Int), itemsOf (knownOf l ts) ≤ itemsOf l
  | [], _ => Nat.le_refl _
  | x :: t, ts => by
    have := known_items t ts
    unfold knownOf itemsOf at *
    rw [List.filter_cons]
    split <;> simp <;> omega
end Go.Proofs.YtcmjadfpifpknaaGreat
namespace Go.Proofs.YtcmjadfpifpknaaGreat
open Go.ChangeShapes Go.WideShapes Go.ChangeAt Go.RowKit
set_option linter.unusedVariables false

def inBd (n l h : Int) : Bool := decide (l ≤ n ∧ n ≤ h)
theorem inBd_yes {n l h : Int} (h1 : l ≤ n) (h2 : n ≤ h) : inBd n l h = true := decide_eq_true ⟨h1, h2⟩
theorem inBd_no {n l h : Int} (h1 : ¬ (l ≤ n ∧ n ≤ h)) : inBd n l h = false := decide_eq_false h1
theorem inBd_iff {n l h : Int} : inBd n l h = true ↔ l ≤ n ∧ n ≤ h := by unfold inBd; exact decide_eq_true_iff
/-- A reserved tag. -/
def resv (t : Int) : Bool := inBd t 0 255 && (t % 16 == 10)
theorem resv_in {t : Int} (h : resv t = true) : 0 ≤ t ∧ t ≤ 255 := by
  unfold resv at h
  rw [Bool.and_eq_true] at h
  exact inBd_iff.1 h.1
theorem inR_b (n l h : Int) (w : World) : Calls Tryz.prog 55 #[.int .i64 n, .int .i64 l, .int .i64 h] w fun e w' => e = .returned (.bool (inBd n l h)) ∧ w' = w := (inR_any n l h w).mono fun e' w' ⟨h1, h2⟩ => ⟨h1, h2.symm⟩
theorem l1R_b (n l h : Int) (w : World) : Calls Tryz.prog 99 #[.int .i64 n, .int .i64 l, .int .i64 h] w fun e w' => e = .returned (.bool (inBd n l h)) ∧ w' = w := (l1R_any n l h w).mono fun e' w' ⟨h1, h2⟩ => ⟨h1, h2.symm⟩
set_option maxHeartbeats 1000000 in
set_option maxRecDepth 100000 in
theorem isReserved_any (t : Int) (w : World) : Calls Tryz.prog 130 #[.int .i64 t] w fun e w' => e = .returned (.bool (resv t)) ∧ w' = w := by
  have H := inR_b t 0 255
  by_cases h : 0 ≤ t ∧ t ≤ 255
  · have hb : inBd t 0 255 = true := inBd_yes h.1 h.2
    have hr : resv t = (t % 16 == 10) := by unfold resv; rw [hb]; rfl
    rw [hr]
    rw [hb] at H
    have h0 := h.1
    have h9 := h.2
    have hm : t.tmod 16 = t % 16 := Int.tmod_eq_emod_of_nonneg h0
    clear hb hr
    go_enter Tryz.func130, Tryz.ntmps130
    go_wp2_with (go_at_call 55; refine (H _).mono ?_; rintro e w' ⟨rfl, rfl⟩)
    go_ret
    simp
  · have hb : inBd t 0 255 = false := inBd_no h
    have hr : resv t = false := by unfold resv; rw [hb]; rfl
    rw [hr]
    rw [hb] at H
    clear hb hr
    go_enter Tryz.func130, Tryz.ntmps130
    go_wp2_with (go_at_call 55; refine (H _).mono ?_; rintro e w' ⟨rfl, rfl⟩)
    go_ret
    simp
set_option maxHeartbeats 1000000 in
set_option maxRecDepth 100000 in
theorem specIsReserved_any (t : Int) (w : World) : Calls Tryz.prog 124 #[.int .i64 t] w fun e w' => e = .returned (.bool (resv t)) ∧ w' = w := by
  have H := l1R_b t 0 255
  by_cases h : 0 ≤ t ∧ t ≤ 255
  · have hb : inBd t 0 255 = true := inBd_yes h.1 h.2
    have hr : resv t = (t % 16 == 10) := by unfold resv; rw [hb]; rfl
    rw [hr]
    rw [hb] at H
    have h0 := h.1
    have h9 := h.2
    have hm : t.tmod 16 = t % 16 := Int.tmod_eq_emod_of_nonneg h0
    clear hb hr
    go_enter Tryz.func124, Tryz.ntmps124
    go_wp2_with (go_at_call 99; refine (H _).mono ?_; rintro e w' ⟨rfl, rfl⟩)
    go_ret
    simp
  · have hb : inBd t 0 255 = false := inBd_no h
    have hr : resv t = false := by unfold resv; rw [hb]; rfl
    rw [hr]
    rw [hb] at H
    clear hb hr
    go_enter Tryz.func124, Tryz.ntmps124
    go_wp2_with (go_at_call 99; refine (H _).mono ?_; rintro e w' ⟨rfl, rfl⟩)
    go_ret
    simp
end Go.Proofs.YtcmjadfpifpknaaGreat
namespace Go.Proofs.YtcmjadfpifpknaaGreat
set_option linter.unusedVariables false

/-- One value is taken into the hash. -/
def hstep (a v : Int) : Int := (a * 1000003 + v % 2147483647 + 13) % 2147483647
def hashFrom (a : Int) (l : List Int) : Int := l.foldl hstep a
def hashOf (l : List Int) : Int := hashFrom 11 l
def khash (k : Int) (l : List Int) : Int := hstep (hashFrom (hstep 11 k) l) k
theorem hstep_bd (a v : Int) : 0 ≤ hstep a v ∧ hstep a v < 2147483647 := by unfold hstep; omega
theorem hashFrom_nil (a : Int) : hashFrom a [] = a := rfl
theorem hashFrom_snoc (a : Int) (l : List Int) (x : Int) : hashFrom a (l ++ [x]) = hstep (hashFrom a l) x := by unfold hashFrom; rw [List.foldl_append]; rfl
theorem hashFrom_bd (l : List Int) : ∀ a : Int, 0 ≤ a → a < 2147483647 → 0 ≤ hashFrom a l ∧ hashFrom a l < 2147483647 := by
  induction l with
  | nil => intro a h1 h2; exact ⟨h1, h2⟩
  | cons x r ih => intro a _ _; exact ih _ (hstep_bd a x).1 (hstep_bd a x).2
theorem hashOf_bd (l : List Int) : 0 ≤ hashOf l ∧ hashOf l < 2147483647 := hashFrom_bd l 11 (by omega) (by omega)
theorem khash_bd (k : Int) (l : List Int) : 0 ≤ khash k l ∧ khash k l < 2147483647 := hstep_bd _ _
theorem khash_eq (k : Int) (l : List Int) : hashOf (([k] ++ l) ++ [k]) = khash k l := by
  unfold hashOf khash
  rw [hashFrom_snoc]
  rfl
theorem take_step (l : List Int) (j : Nat) (x : Int) (h : l[j]? = some x) : l.take (j + 1) = l.take j ++ [x] := by rw [List.take_add_one, h]; rfl
theorem hashFrom_take (a : Int) (l : List Int) (j : Nat) (x : Int) (h : l[j]? = some x) : hashFrom a (l.take (j + 1)) = hstep (hashFrom a (l.take j)) x := by rw [take_step l j x h, hashFrom_snoc]

/-- What comes in differently goes out differently: the factor is no multiple of the modulus, which is prime. -/
theorem acc_dvd {a b r : Int} (h : (a * 1000003 + r + 13) % 2147483647 = (b * 1000003 + r + 13) % 2147483647) : (2147483647 : Int) ∣ (a - b) * 1000003 := by
  have h2 : (2147483647 : Int) ∣ (a * 1000003 + r + 13) - (b * 1000003 + r + 13) := Int.dvd_of_emod_eq_zero (Int.emod_eq_emod_iff_emod_sub_eq_zero.1 h)
  have e : (a - b) * 1000003 = a * 1000003 + r + 13 - (b * 1000003 + r + 13) := by rw [Int.sub_mul]; omega
  rw [e]
  exact h2
theorem acc_abs (d : Int) (h : (2147483647 : Int) ∣ d * 1000003) : (2147483647 : Nat) ∣ d.natAbs * 1000003 := by
  have h3 := Int.natAbs_dvd_natAbs.2 h
  rw [Int.natAbs_mul] at h3
  simpa using h3
theorem acc_apart : Nat.Coprime 2147483647 1000003 := by decide +kernel
theorem acc_zero (n : Nat) (h : (2147483647 : Nat) ∣ n * 1000003) (hn : n < 2147483647) : n = 0 := Nat.eq_zero_of_dvd_of_lt (Nat.Coprime.dvd_of_dvd_mul_right acc_apart h) hn
theorem hstep_acc {a b v : Int} (h : hstep a v = hstep b v) (ha : 0 ≤ a) (ha' : a < 2147483647) (hb : 0 ≤ b) (hb' : b < 2147483647) : a = b := by
  have h4 := acc_zero _ (acc_abs _ (acc_dvd h)) (by omega)
  omega
theorem hstep_val {a v v' : Int} (h : hstep a v = hstep a v') : v % 2147483647 = v' % 2147483647 := by
  unfold hstep at h
  generalize a * 1000003 = r at h
  omega
theorem hashFrom_acc (l : List Int) : ∀ {a b : Int}, hashFrom a l = hashFrom b l → 0 ≤ a → a < 2147483647 → 0 ≤ b → b < 2147483647 → a = b := by
  induction l with
  | nil => intro a b h _ _ _ _; exact h
  | cons x r ih =>
    intro a b h h1 h2 h3 h4
    exact hstep_acc (ih (a := hstep a x) (b := hstep b x) h (hstep_bd _ _).1 (hstep_bd _ _).2 (hstep_bd _ _).1 (hstep_bd _ _).2) h1 h2 h3 h4
theorem hashFrom_append (a : Int) (l r : List Int) : hashFrom a (l ++ r) = hashFrom (hashFrom a l) r := by unfold hashFrom; rw [List.foldl_append]
theorem khash_mid {k x y : Int} {l r : List Int} (h : khash k (l ++ y :: r) = khash k (l ++ x :: r)) : y % 2147483647 = x % 2147483647 := by
  have hs := hstep_bd 11 k
  have hl := hashFrom_bd l _ hs.1 hs.2
  unfold khash at h
  have e : ∀ z, hashFrom (hstep 11 k) (l ++ z :: r) = hashFrom (hstep (hashFrom (hstep 11 k) l) z) r := fun z => hashFrom_append _ _ _
  have hb : ∀ z, 0 ≤ hashFrom (hstep 11 k) (l ++ z :: r) ∧ hashFrom (hstep 11 k) (l ++ z :: r) < 2147483647 := fun z => hashFrom_bd _ _ hs.1 hs.2
  have h1 := hstep_acc h (hb y).1 (hb y).2 (hb x).1 (hb x).2
  rw [e, e] at h1
  exact hstep_val (hashFrom_acc r h1 (hstep_bd _ _).1 (hstep_bd _ _).2 (hstep_bd _ _).1 (hstep_bd _ _).2)
theorem khash_set {k : Int} {l : List Int} {i : Nat} {x y : Int} (hx : l[i]? = some x) (h : khash k (l.set i y) = khash k l) : y % 2147483647 = x % 2147483647 := by
  have hi : i < l.length := by
    rcases Nat.lt_or_ge i l.length with h1 | h1
    · exact h1
    · rw [List.getElem?_eq_none h1] at hx; cases hx
  have hxe : l[i] = x := by rw [List.getElem?_eq_getElem hi] at hx; exact Option.some.inj hx
  have e1 : l = l.take i ++ x :: l.drop (i + 1) := by
    rw [← hxe, ← List.drop_eq_getElem_cons hi, List.take_append_drop]
  have e2 : l.set i y = l.take i ++ y :: l.drop (i + 1) := by rw [List.set_eq_take_append_cons_drop, if_pos hi]
  rw [e2] at h
  exact khash_mid (h.trans (congrArg (khash k) e1))
end Go.Proofs.YtcmjadfpifpknaaGreat
