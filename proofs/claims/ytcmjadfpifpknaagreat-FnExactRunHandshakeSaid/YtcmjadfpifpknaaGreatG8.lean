/- Plain mathematics of varints: groups of seven bits, least significant first; what is written is read, and what is read is what is written. No condition beyond those written in each statement. How a slice of integers among the arguments is read. How a slice of structs of four integers among the arguments is read. How lists of values, and a field or a value handed over by itself, are read among the arguments. -/
import Derived.Below
import Derived.Test.YtcmjadfpifpknaaGreatG1
import Derived.Deep.Slices
import Derived.Deep.Fields
import Derived.ChangeSame
import Derived.Test.YtcmjadfpifpknaaGreatG2
import Derived.Lib.SmallJoins
namespace Go.Proofs.YtcmjadfpifpknaaGreat

/-- The groups of a number, as bytes. -/
def uv (n : Nat) : List Int := if n < 128 then [(n : Int)] else ((n % 128 + 128 : Nat) : Int) :: uv (n / 128)
termination_by n
decreasing_by omega
theorem uv_small {n : Nat} (h : n < 128) : uv n = [(n : Int)] := by rw [uv, if_pos h]
theorem uv_big {n : Nat} (h : 128 ≤ n) : uv n = ((n % 128 + 128 : Nat) : Int) :: uv (n / 128) := by rw [uv, if_neg (by omega)]
theorem uv_pos (n : Nat) : 1 ≤ (uv n).length := by
  by_cases h : n < 128
  · rw [uv_small h]; simp
  · rw [uv_big (by omega)]; simp
theorem uv_len : ∀ (j n : Nat), 1 ≤ j → n < 128 ^ j → (uv n).length ≤ j
  | 0, _, h, _ => absurd h (by omega)
  | 1, n, _, h => by rw [uv_small (by simpa using h)]; simp
  | j + 2, n, _, h => by
    by_cases h1 : n < 128
    · rw [uv_small h1]; simp
    · rw [uv_big (by omega), List.length_cons]
      have := uv_len (j + 1) (n / 128) (by omega) (by rw [Nat.pow_succ] at h; omega)
      omega
theorem uv_len6 (n : Nat) (h : n ≤ 1000000000000) : (uv n).length ≤ 6 := uv_len 6 n (by omega) (by omega)
/-- A list of bytes. -/
def Bs (l : List Int) : Prop := ∀ x ∈ l, 0 ≤ x ∧ x ≤ 255
theorem Bs.nil : Bs [] := fun _ h => by cases h
theorem Bs.cons {x : Int} {l : List Int} (h0 : 0 ≤ x) (h1 : x ≤ 255) (h : Bs l) : Bs (x :: l) := fun y hy => by
  rcases List.mem_cons.1 hy with rfl | hy
  · exact ⟨h0, h1⟩
  · exact h y hy
theorem Bs.append {l m : List Int} (h : Bs l) (k : Bs m) : Bs (l ++ m) := fun y hy => by
  rcases List.mem_append.1 hy with hy | hy
  · exact h y hy
  · exact k y hy
theorem Bs.drop {l : List Int} (h : Bs l) (k : Nat) : Bs (l.drop k) := fun y hy => h y (List.mem_of_mem_drop hy)
theorem Bs.take {l : List Int} (h : Bs l) (k : Nat) : Bs (l.take k) := fun y hy => h y (List.mem_of_mem_take hy)
theorem uv_bs (n : Nat) : Bs (uv n) := by
  induction n using Nat.strongRecOn with
  | _ n ih =>
    by_cases h : n < 128
    · rw [uv_small h]; exact Bs.cons (by omega) (by omega) Bs.nil
    · rw [uv_big (by omega)]; exact Bs.cons (by omega) (by omega) (ih (n / 128) (by omega))

/-- What is appended for a number: nothing where it is out of range. -/
def enc (n : Int) : List Int := if 0 ≤ n ∧ n ≤ 1000000000000 then uv n.toNat else []
theorem enc_in {n : Int} (h0 : 0 ≤ n) (h1 : n ≤ 1000000000000) : enc n = uv n.toNat := if_pos ⟨h0, h1⟩
theorem enc_out {n : Int} (h : ¬ (0 ≤ n ∧ n ≤ 1000000000000)) : enc n = [] := if_neg h
theorem enc_bs (n : Int) : Bs (enc n) := by
  unfold enc
  split
  · exact uv_bs _
  · exact Bs.nil
theorem enc_len (n : Int) : (enc n).length ≤ 6 := by
  unfold enc
  split
  · exact uv_len6 _ (by omega)
  · simp

/-- A varint is read: k groups have been read before, n is their number. -/
def rdv (k : Nat) (n : Int) : List Int → Option (Int × Nat)
  | [] => none
  | x :: t => if 6 ≤ k then none else if 128 ≤ x then rdv (k + 1) (n + (x - 128) * 128 ^ k) t
      else if (x = 0 ∧ 0 < k) ∨ 1000000000000 < n + x * 128 ^ k then none else some (n + x * 128 ^ k, k + 1)
theorem rdv_six (k : Nat) (n : Int) (l : List Int) (h : 6 ≤ k) : rdv k n l = none := by
  cases l with
  | nil => rfl
  | cons x t => rw [rdv, if_pos h]
theorem rdv_more {k : Nat} {n x : Int} {t : List Int} (h : k < 6) (hx : 128 ≤ x) : rdv k n (x :: t) = rdv (k + 1) (n + (x - 128) * 128 ^ k) t := by rw [rdv, if_neg (by omega), if_pos hx]
theorem rdv_bad {k : Nat} {n x : Int} {t : List Int} (h : k < 6) (hx : x < 128) (hb : (x = 0 ∧ 0 < k) ∨ 1000000000000 < n + x * 128 ^ k) : rdv k n (x :: t) = none := by rw [rdv, if_neg (by omega), if_neg (by omega), if_pos hb]
theorem rdv_good {k : Nat} {n x : Int} {t : List Int} (h : k < 6) (hx : x < 128) (hb : ¬ ((x = 0 ∧ 0 < k) ∨ 1000000000000 < n + x * 128 ^ k)) : rdv k n (x :: t) = some (n + x * 128 ^ k, k + 1) := by rw [rdv, if_neg (by omega), if_neg (by omega), if_neg hb]

theorem group_sum (n p : Int) (m : Nat) : n + (((m % 128 + 128 : Nat) : Int) - 128) * p + ((m / 128 : Nat) : Int) * (p * 128) = n + (m : Int) * p := by
  have h : (m : Int) = ((m % 128 : Nat) : Int) + 128 * ((m / 128 : Nat) : Int) := by omega
  have h2 : (((m % 128 + 128 : Nat) : Int) - 128) = ((m % 128 : Nat) : Int) := by omega
  rw [h2]
  generalize ((m % 128 : Nat) : Int) = r at *
  generalize ((m / 128 : Nat) : Int) = q at *
  rw [h, Int.add_mul, Int.mul_comm p 128, ← Int.mul_assoc q 128 p, Int.mul_comm q 128]
  omega

theorem rdv_uv (m : Nat) : ∀ (k : Nat) (n : Int) (t : List Int), (0 < k → 1 ≤ m) → k + (uv m).length ≤ 6 → n + (m : Int) * 128 ^ k ≤ 1000000000000 →
    rdv k n (uv m ++ t) = some (n + (m : Int) * 128 ^ k, k + (uv m).length) := by
  induction m using Nat.strongRecOn with
  | _ m ih =>
    intro k n t hk hl hn
    by_cases h : m < 128
    · rw [uv_small h] at hl ⊢
      simp only [List.length_singleton] at hl ⊢
      show rdv k n ((m : Int) :: t) = _
      exact rdv_good (by omega) (by omega) (by
        rintro (⟨h1, h2⟩ | h1)
        · have := hk h2; omega
        · omega)
    · rw [uv_big (by omega)] at hl ⊢
      simp only [List.length_cons] at hl ⊢
      have hs := group_sum n (128 ^ k) m
      rw [← Int.pow_succ] at hs
      show rdv k n (((m % 128 + 128 : Nat) : Int) :: (uv (m / 128) ++ t)) = _
      rw [rdv_more (by omega) (by omega), ih (m / 128) (by omega) (k + 1) _ t (fun _ => by omega) (by omega) (by rw [hs]; exact hn), hs]
      congr 2
      omega

theorem uv_of_rdv : ∀ (l : List Int) (k : Nat) (n m : Int) (j : Nat), Bs l → rdv k n l = some (m, j) →
    ∃ r : Nat, m = n + (r : Int) * 128 ^ k ∧ j = k + (uv r).length ∧ l.take (uv r).length = uv r ∧ (uv r).length ≤ l.length ∧ (0 < k → 1 ≤ r) ∧ m ≤ 1000000000000
  | [], k, n, m, j, _, h => by cases h
  | x :: t, k, n, m, j, hb, h => by
    have hx := hb x (by simp)
    by_cases h6 : 6 ≤ k
    · rw [rdv_six _ _ _ h6] at h; cases h
    · by_cases h1 : 128 ≤ x
      · rw [rdv_more (by omega) h1] at h
        obtain ⟨r, hm, hj, ht, hlen, hr, hmax⟩ := uv_of_rdv t (k + 1) _ m j (fun y hy => hb y (by simp [hy])) h
        have hr1 := hr (by omega)
        refine ⟨(x - 128).toNat + 128 * r, ?_, ?_, ?_, ?_, fun _ => by omega, hmax⟩
        · have hs := group_sum n (128 ^ k) ((x - 128).toNat + 128 * r)
          rw [show ((x - 128).toNat + 128 * r) / 128 = r by omega, show ((((x - 128).toNat + 128 * r) % 128 + 128 : Nat) : Int) - 128 = x - 128 by omega, ← Int.pow_succ] at hs
          rw [hm, hs]
        all_goals
          rw [uv_big (n := (x - 128).toNat + 128 * r) (by omega), show ((x - 128).toNat + 128 * r) / 128 = r by omega]
          simp only [List.length_cons]
        · omega
        · rw [List.take_succ_cons, ht]
          congr 1
          omega
        · omega
      · by_cases hbad : (x = 0 ∧ 0 < k) ∨ 1000000000000 < n + x * 128 ^ k
        · rw [rdv_bad (by omega) (by omega) hbad] at h; cases h
        · rw [rdv_good (by omega) (by omega) hbad] at h
          injection h with h
          injection h with h2 h3
          refine ⟨x.toNat, ?_, ?_, ?_, ?_, fun hk => ?_, by rw [← h2]; omega⟩
          · rw [show ((x.toNat : Nat) : Int) = x by omega, h2]
          all_goals try rw [uv_small (n := x.toNat) (by omega)]
          · rw [← h3]; rfl
          · show [x] = _
            congr 1
            omega
          · simp
          · omega

/-- The varint at a place: its number and the place behind it. -/
def rd (l : List Int) (off : Int) : Option (Int × Nat) := if 0 ≤ off ∧ off ≤ l.length then (rdv 0 0 (l.drop off.toNat)).map fun p => (p.1, off.toNat + p.2) else none
theorem rd_out {l : List Int} {off : Int} (h : ¬ (0 ≤ off ∧ off ≤ l.length)) : rd l off = none := if_neg h
theorem rd_end (l : List Int) : rd l l.length = none := by
  unfold rd
  rw [if_pos ⟨by omega, by omega⟩]
  simp [rdv]
theorem rd_none {l : List Int} {off : Nat} (h : rdv 0 0 (l.drop off) = none) : rd l off = none := by
  unfold rd
  split
  · rw [show ((off : Int)).toNat = off by omega, h]; rfl
  · rfl
theorem rd_some {l : List Int} {off : Nat} {m : Int} {j : Nat} (h0 : off ≤ l.length) (h : rdv 0 0 (l.drop off) = some (m, j)) : rd l off = some (m, off + j) := by
  unfold rd
  rw [if_pos ⟨by omega, by omega⟩, show ((off : Int)).toNat = off by omega, h]; rfl
/-- What is read is what is written. -/
theorem rd_facts {l : List Int} {off : Int} {m : Int} {j : Nat} (hb : Bs l) (h : rd l off = some (m, j)) :
    0 ≤ off ∧ off < j ∧ j ≤ l.length ∧ 0 ≤ m ∧ m ≤ 1000000000000 ∧ (l.drop off.toNat).take (j - off.toNat) = enc m ∧ (enc m).length = j - off.toNat := by
  unfold rd at h
  split at h
  · rename_i h0
    rw [Option.map_eq_some_iff] at h
    obtain ⟨⟨m', j'⟩, h1, h2⟩ := h
    injection h2 with h2 h3
    simp only at h2 h3
    subst h2
    obtain ⟨r, hm, hj, ht, hlen, _, hmax⟩ := uv_of_rdv _ 0 0 m' j' (hb.drop _) h1
    have hp := uv_pos r
    have hmr : m' = r := by rw [hm]; simp
    rw [List.length_drop] at hlen
    have he : enc m' = uv r := by rw [enc_in (by omega) hmax, show m'.toNat = r by omega]
    rw [he, show j - off.toNat = (uv r).length by omega]
    exact ⟨h0.1, by omega, by omega, by omega, hmax, ht, rfl⟩
  · cases h
/-- What is written is read. -/
theorem rd_enc (l t : List Int) (m : Int) (h0 : 0 ≤ m) (h1 : m ≤ 1000000000000) : rd (l ++ (enc m ++ t)) l.length = some (m, l.length + (enc m).length) := by
  rw [enc_in h0 h1]
  refine rd_some (by simp) ?_
  rw [List.drop_left]
  have h := rdv_uv m.toNat 0 0 t (fun h => by omega) (by have := uv_len6 m.toNat (by omega); omega) (by simp; omega)
  rw [h]
  simp
  omega

/-- A byte string at a place. -/
def rdBytes (l : List Int) (off most : Int) : Option (List Int × Nat) :=
  match rd l off with
  | none => none
  | some (n, j) => if n ≤ most ∧ n ≤ l.length - j then some ((l.drop j).take n.toNat, j + n.toNat) else none
theorem rdBytes_none {l : List Int} {off most : Int} (h : rd l off = none) : rdBytes l off most = none := by unfold rdBytes; rw [h]
theorem rdBytes_no {l : List Int} {off most n : Int} {j : Nat} (h : rd l off = some (n, j)) (hn : ¬ (n ≤ most ∧ n ≤ l.length - j)) : rdBytes l off most = none := by
  unfold rdBytes
  rw [h]
  exact if_neg hn
theorem rdBytes_yes {l : List Int} {off most n : Int} {j : Nat} (h : rd l off = some (n, j)) (hn : n ≤ most ∧ n ≤ l.length - j) : rdBytes l off most = some ((l.drop j).take n.toNat, j + n.toNat) := by
  unfold rdBytes
  rw [h]
  exact if_pos hn

/-- The varints of a list of numbers, one behind the other. -/
def encs (zs : List Int) : List Int := zs.flatMap enc
theorem encs_nil : encs [] = [] := rfl
theorem encs_snoc (zs : List Int) (z : Int) : encs (zs ++ [z]) = encs zs ++ enc z := by unfold encs; rw [List.flatMap_append]; simp
theorem encs_bs (zs : List Int) : Bs (encs zs) := by
  intro x hx
  unfold encs at hx
  rw [List.mem_flatMap] at hx
  obtain ⟨z, _, hz⟩ := hx
  exact enc_bs z x hz
theorem encs_len (zs : List Int) : (encs zs).length ≤ 6 * zs.length := by
  induction zs with
  | nil => simp [encs]
  | cons z zs ih =>
    have : encs (z :: zs) = enc z ++ encs zs := by unfold encs; simp
    rw [this, List.length_append, List.length_cons]
    have := enc_len z
    omega

/-- The numbers that are read in k rounds from a place on, and the place behind them. -/
def decK (l : List Int) (off : Int) : Nat → Option (List Int × Int)
  | 0 => some ([], off)
  | k + 1 => match decK l off k with
    | none => none
    | some (zs, o) => match rd l o with
      | none => none
      | some (n, j) => some (zs ++ [n], (j : Int))
theorem decK_zero (l : List Int) (off : Int) : decK l off 0 = some ([], off) := rfl
theorem decK_step {l : List Int} {off o : Int} {k : Nat} {zs : List Int} {n : Int} {j : Nat} (h : decK l off k = some (zs, o)) (hr : rd l o = some (n, j)) : decK l off (k + 1) = some (zs ++ [n], (j : Int)) := by
  rw [decK, h]; simp only; rw [hr]
theorem decK_stop {l : List Int} {off o : Int} {k : Nat} {zs : List Int} (h : decK l off k = some (zs, o)) (hr : rd l o = none) : decK l off (k + 1) = none := by
  rw [decK, h]; simp only; rw [hr]
theorem decK_none {l : List Int} {off : Int} {k m : Nat} (h : decK l off k = none) (hm : k ≤ m) : decK l off m = none := by
  obtain ⟨d, rfl⟩ : ∃ d, m = k + d := ⟨m - k, by omega⟩
  induction d with
  | zero => exact h
  | succ d ih => rw [show k + (d + 1) = (k + d) + 1 by omega, decK, ih (by omega)]
theorem decK_len {l : List Int} {off o : Int} {k : Nat} {zs : List Int} (h : decK l off k = some (zs, o)) : zs.length = k := by
  induction k generalizing zs o with
  | zero => rw [decK] at h; cases h; rfl
  | succ k ih =>
    rw [decK] at h
    split at h
    · cases h
    · rename_i zs' o' h'
      split at h
      · cases h
      · cases h
        simp [ih h']
theorem decK_at {l : List Int} {off o : Int} {k : Nat} {zs : List Int} (hb : Bs l) (h0 : 0 ≤ off) (h1 : off ≤ l.length) (h : decK l off k = some (zs, o)) : 0 ≤ o ∧ o ≤ l.length ∧ ∀ z ∈ zs, 0 ≤ z ∧ z ≤ 1000000000000 := by
  induction k generalizing zs o with
  | zero => rw [decK] at h; cases h; exact ⟨h0, h1, fun _ h => by cases h⟩
  | succ k ih =>
    rw [decK] at h
    split at h
    · cases h
    · rename_i zs' o' h'
      split at h
      · cases h
      · rename_i n j hr
        cases h
        have f := rd_facts hb hr
        refine ⟨by omega, by omega, fun z hz => ?_⟩
        rcases List.mem_append.1 hz with hz | hz
        · exact (ih h').2.2 z hz
        · simp at hz
          subst hz
          exact ⟨f.2.2.2.1, f.2.2.2.2.1⟩
/-- What is written is read, all of it; and nothing more is there. -/
theorem decK_encs (zs : List Int) (hz : ∀ z ∈ zs, 0 ≤ z ∧ z ≤ 1000000000000) : ∀ k, k ≤ zs.length → decK (encs zs) 0 k = some (zs.take k, ((encs (zs.take k)).length : Int)) := by
  intro k
  induction k with
  | zero => intro _; rfl
  | succ k ih =>
    intro hk
    have hlt : k < zs.length := by omega
    have hd : zs = zs.take k ++ (zs[k] :: zs.drop (k + 1)) := by rw [List.getElem_cons_drop, List.take_append_drop]
    have he : encs zs = encs (zs.take k) ++ (enc zs[k] ++ encs (zs.drop (k + 1))) := by
      conv => lhs; rw [hd]
      unfold encs
      rw [List.flatMap_append, List.flatMap_cons]
    have hzk := hz zs[k] (List.getElem_mem hlt)
    have hr := rd_enc (encs (zs.take k)) (encs (zs.drop (k + 1))) zs[k] hzk.1 hzk.2
    rw [← he] at hr
    rw [decK_step (ih (by omega)) hr, List.take_succ_eq_append_getElem hlt, encs_snoc, List.length_append]
theorem decK_all (zs : List Int) (hz : ∀ z ∈ zs, 0 ≤ z ∧ z ≤ 1000000000000) : decK (encs zs) 0 zs.length = some (zs, ((encs zs).length : Int)) := by
  have h := decK_encs zs hz zs.length (Nat.le_refl _)
  rwa [List.take_length] at h
theorem decK_more (zs : List Int) (hz : ∀ z ∈ zs, 0 ≤ z ∧ z ≤ 1000000000000) : decK (encs zs) 0 (zs.length + 1) = none := decK_stop (decK_all zs hz) (rd_end _)
end Go.Proofs.YtcmjadfpifpknaaGreat
namespace Go.Proofs.YtcmjadfpifpknaaGreat
open Go.ChangeShapes Go.WideShapes Go.ChangeAt Go.RowKit
set_option linter.unusedVariables false

theorem laidOut : laidOutB Tryz.prog = true := by kernel_rfl
set_option maxRecDepth 100000 in
theorem open_nums {k : IntKind} {T E : TypeId} (hT : Tryz.prog.underlying T = some (.slice E)) (hE : Tryz.prog.underlying E = some (.int k)) (hone : Tryz.prog.cellsOf E = 1) {H : Type} {enc : TypeId × Value → H} {W : World} {base : Nat} {v : Value} {d : DataW H} {p : List MemPlace}
    (hval : Value.okWide Tryz.prog W .any base T v) (h : DataW.Trod enc Tryz.prog W 0 (fun _ => true) true T v d p) :
    ∃ (a : Option Addr) (n c : Nat) (l : List Int), v = .slice a n c ∧ Nums k W a n l ∧ (∀ x ∈ l, (Lit.int k x).wf = true) ∧ n ≤ c ∧ (c : Int) ≤ 9223372036854775807 := by
  obtain ⟨a0, len, cap, rfl⟩ := okWide_slice hT hval
  obtain ⟨fuel, hf⟩ := h
  rcases open_ints hT hE hone hf with ⟨hcs, hx⟩ | ⟨a, len', cap', zs, hcs, _, hl, hm, hz, hx, hcell, hwz⟩
  · simp [Value.cells] at hcs
    obtain ⟨rfl, rfl, rfl⟩ := hcs
    exact ⟨none, 0, 0, [], rfl, Nums.none, (fun _ h => by cases h), Nat.le_refl _, by omega⟩
  · simp [Value.cells] at hcs
    obtain ⟨rfl, rfl, rfl⟩ := hcs
    have hlz : zs.length = cap := by simpa using hz
    unfold maxLen at hm
    refine ⟨some a, len, cap, zs.take len, rfl, ⟨by rw [List.length_take]; omega, by omega, fun j hj => ⟨a, rfl, ?_⟩⟩, fun x hx => hwz x (List.mem_of_mem_take hx), hl, by omega⟩
    rw [hcell j (by omega)]
    simp [List.getD, hj]
theorem bs_of_wf {l : List Int} (h : ∀ x ∈ l, (Lit.int .u8 x).wf = true) : Bs l := by
  intro x hx
  have := h x hx
  simp [Lit.wf, IntKind.min, IntKind.max, IntKind.signed, IntKind.bits] at this
  omega
theorem byte_cells : Tryz.prog.cellsOf 5 = 1 := by kernel_rfl
theorem int_cells : Tryz.prog.cellsOf 3 = 1 := by kernel_rfl
end Go.Proofs.YtcmjadfpifpknaaGreat
namespace Go.Proofs.YtcmjadfpifpknaaGreat
open Go.ChangeShapes Go.WideShapes Go.ChangeAt Go.RowKit
set_option linter.unusedVariables false

def Fd.wf (x : Fd) : Prop := (Lit.int .i64 x.kind).wf = true ∧ (Lit.int .i64 x.max).wf = true ∧ (Lit.int .i64 x.cond).wf = true ∧ (Lit.int .i64 x.is).wf = true

theorem one_cell {P : Program} {H : Type} {enc : TypeId × Value → H} {w : World} {base n : Nat} {spare : Nat → Bool} {held : Bool} {t : TypeId} {c : Value} {o : Option (DataW H × List MemPlace)} (ht : P.underlying t = some (.int .i64))
    (h : DataW.trod enc P w base spare held n t [c] = o) (ho : o.isSome = true) : ∃ x, c = .int .i64 x ∧ (Lit.int .i64 x).wf = true := by
  cases o with
  | none => cases ho
  | some y =>
    obtain ⟨x, h1, _, h2⟩ := DataW.trod_int ht h
    injection h1 with h3
    exact ⟨x, h3, h2⟩

set_option maxRecDepth 100000 in
theorem open_fds {T E : TypeId} {f0 f1 f2 f3 : Field} (hT : Tryz.prog.underlying T = some (.slice E)) (hE : Tryz.prog.underlying E = some (.struct #[f0, f1, f2, f3])) (hone : Go.Deep.oneCellFields Tryz.prog #[f0, f1, f2, f3] = true) (hC : Tryz.prog.cellsOf E = 4)
    (t0 : Tryz.prog.underlying f0.type = some (.int .i64)) (t1 : Tryz.prog.underlying f1.type = some (.int .i64)) (t2 : Tryz.prog.underlying f2.type = some (.int .i64)) (t3 : Tryz.prog.underlying f3.type = some (.int .i64))
    {H : Type} {enc : TypeId × Value → H} {W : World} {base : Nat} {v : Value} {d : DataW H} {p : List MemPlace}
    (hval : Value.okWide Tryz.prog W .any base T v) (h : DataW.Trod enc Tryz.prog W 0 (fun _ => true) true T v d p) :
    ∃ (a : Option Addr) (n c : Nat) (l : List Fd), v = .slice a n c ∧ Fds W a n l ∧ (∀ x ∈ l, x.wf) ∧ n ≤ c ∧ (c : Int) ≤ 9223372036854775807 := by
  obtain ⟨a0, len, cap, rfl⟩ := okWide_slice hT hval
  obtain ⟨fuel, hf⟩ := h
  rcases Go.Deep.open_slice hT hf with ⟨hcs, hx⟩ | ⟨a, len', cap', m, n, D, Pl, hcs, hb, hl, hm, hmm, hx, hi⟩
  · simp [Value.cells] at hcs
    obtain ⟨rfl, rfl, rfl⟩ := hcs
    exact ⟨none, 0, 0, [], rfl, Items.nothing, (fun _ h => by cases h), Nat.le_refl _, by omega⟩
  · simp [Value.cells] at hcs
    obtain ⟨rfl, rfl, rfl⟩ := hcs
    simp only [if_true] at hmm
    subst hmm
    have each : ∀ i, i < len → ∃ x : Fd, (∀ j u, x.enc[j]? = some u → W.cell? ((a.add (i * 4)).add j) = some u) ∧ x.wf := by
      intro i hil
      obtain ⟨cs', hc, ht'⟩ := hi i (by omega)
      rw [hC] at hc
      obtain ⟨ys, k, _, _, hlen, hyl, hfs⟩ := DataW.trod_struct hE ht'
      obtain ⟨_, hcl, hat⟩ := World.cells?_some hc
      obtain ⟨o0, k0⟩ := Go.Deep.hone_of hone 0 f0 rfl
      obtain ⟨o1, k1⟩ := Go.Deep.hone_of hone 1 f1 rfl
      obtain ⟨o2, k2⟩ := Go.Deep.hone_of hone 2 f2 rfl
      obtain ⟨o3, k3⟩ := Go.Deep.hone_of hone 3 f3 rfl
      match cs', hlen.trans hC with
      | [c0, c1, c2, c3], _ =>
        have g0 := hfs 0 f0 rfl
        have g1 := hfs 1 f1 rfl
        have g2 := hfs 2 f2 rfl
        have g3 := hfs 3 f3 rfl
        rw [o0, k0] at g0
        rw [o1, k1] at g1
        rw [o2, k2] at g2
        rw [o3, k3] at g3
        have hys : ys.length = 4 := hyl
        obtain ⟨x0, rfl, w0⟩ := one_cell t0 g0 (by rw [List.getElem?_eq_getElem (by omega)]; rfl)
        obtain ⟨x1, rfl, w1⟩ := one_cell t1 g1 (by rw [List.getElem?_eq_getElem (by omega)]; rfl)
        obtain ⟨x2, rfl, w2⟩ := one_cell t2 g2 (by rw [List.getElem?_eq_getElem (by omega)]; rfl)
        obtain ⟨x3, rfl, w3⟩ := one_cell t3 g3 (by rw [List.getElem?_eq_getElem (by omega)]; rfl)
        refine ⟨⟨x0, x1, x2, x3⟩, fun j u hu => ?_, w0, w1, w2, w3⟩
        have hj : j < 4 := by
          rcases Nat.lt_or_ge j 4 with h | h
          · exact h
          · rw [List.getElem?_eq_none (by exact h)] at hu; cases hu
        rw [hat j hj]
        exact hu
    have each' : ∀ i, ∃ x : Fd, i < len → (∀ j u, x.enc[j]? = some u → W.cell? ((a.add (i * 4)).add j) = some u) ∧ x.wf := fun i => by
      by_cases h : i < len
      · obtain ⟨x, hx⟩ := each i h
        exact ⟨x, fun _ => hx⟩
      · exact ⟨⟨0, 0, 0, 0⟩, fun h' => absurd h' h⟩
    obtain ⟨g, hg⟩ := Classical.axiomOfChoice each'
    unfold maxLen at hm
    refine ⟨some a, len, m, (List.range len).map g, rfl, ⟨by simp, by omega, fun j x hj => ?_⟩, ?_, hl, by omega⟩
    · have hjl : j < len := by
        rcases Nat.lt_or_ge j len with h | h
        · exact h
        · rw [List.getElem?_eq_none (by simpa using h)] at hj; cases hj
      rw [List.getElem?_map, List.getElem?_range hjl] at hj
      cases hj
      have hc := (hg j hjl).1
      have h0 := (hg 0 (by omega)).1 0 _ rfl
      obtain ⟨b, o, spot⟩ := a
      have hspot : spot = none := by
        rw [addr_add, show (0 * 4 + 0) = 0 from rfl, show (⟨b, o, spot⟩ : Addr).add 0 = ⟨b, o, spot⟩ from rfl] at h0
        exact World.cell?_spot h0
      subst hspot
      refine ⟨b, o, rfl, fun i v hv => ?_⟩
      have := hc i v hv
      rw [addr_add] at this
      have e : (⟨b, o, none⟩ : Addr).add (j * 4 + i) = ⟨b, o + j * 4 + i, none⟩ := by
        unfold Addr.add
        split <;> simp_all <;> omega
      rw [e] at this
      exact this
    · intro x hx
      obtain ⟨i, hi', rfl⟩ := List.mem_map.1 hx
      exact (hg i (List.mem_range.1 hi')).2
end Go.Proofs.YtcmjadfpifpknaaGreat
namespace Go.Proofs.YtcmjadfpifpknaaGreat
open Go.ChangeShapes Go.WideShapes Go.ChangeAt Go.RowKit
set_option linter.unusedVariables false

theorem trod_nums {k : IntKind} {P : Program} {T E : TypeId} (hT : P.underlying T = some (.slice E)) (hE : P.underlying E = some (.int k)) (hone : P.cellsOf E = 1) {H : Type} {enc : TypeId × Value → H} {W : World} {n : Nat} {cs : List Value} {x : DataW H × List MemPlace}
    (h : DataW.trod enc P W 0 (fun _ => true) true n T cs = some x) :
    ∃ (a : Option Addr) (m c : Nat) (l : List Int), cs = [.slice a m c] ∧ Nums k W a m l ∧ (∀ x ∈ l, (Lit.int k x).wf = true) ∧ m ≤ c ∧ (c : Int) ≤ 9223372036854775807 := by
  rcases open_ints hT hE hone h with ⟨hcs, hx⟩ | ⟨a, len', cap', zs, hcs, _, hl, hm, hz, hx, hcell, hwz⟩
  · exact ⟨none, 0, 0, [], hcs, Nums.none, (fun _ h => by cases h), Nat.le_refl _, by omega⟩
  · have hlz : zs.length = cap' := by simpa using hz
    unfold maxLen at hm
    refine ⟨some a, len', cap', zs.take len', hcs, ⟨by rw [List.length_take]; omega, by omega, fun j hj => ⟨a, rfl, ?_⟩⟩, fun x hx => hwz x (List.mem_of_mem_take hx), hl, by omega⟩
    rw [hcell j (by omega)]
    simp [List.getD, hj]
theorem trod_some {H : Type} {P : Program} {enc : TypeId × Value → H} {w : World} {base n : Nat} {spare : Nat → Bool} {held : Bool} {t : TypeId} {cs : List Value} {o : Option (DataW H × List MemPlace)}
    (h : DataW.trod enc P w base spare held n t cs = o) (ho : o.isSome = true) : ∃ x, DataW.trod enc P w base spare held n t cs = some x := by
  cases o with
  | none => cases ho
  | some y => exact ⟨y, h⟩

def Vl.wf (x : Vl) : Prop := (Lit.int .i64 x.num).wf = true ∧ ∀ y ∈ x.items, (Lit.int .i64 y).wf = true
set_option maxRecDepth 100000 in
theorem open_vals {T E I : TypeId} {f0 f1 : Field} (hT : Tryz.prog.underlying T = some (.slice E)) (hE : Tryz.prog.underlying E = some (.struct #[f0, f1])) (hone : Go.Deep.oneCellFields Tryz.prog #[f0, f1] = true) (hC : Tryz.prog.cellsOf E = 2)
    (t0 : Tryz.prog.underlying f0.type = some (.int .i64)) (t1 : Tryz.prog.underlying f1.type = some (.slice I)) (tI : Tryz.prog.underlying I = some (.int .i64)) (hI : Tryz.prog.cellsOf I = 1)
    {H : Type} {enc : TypeId × Value → H} {W : World} {base : Nat} {v : Value} {d : DataW H} {p : List MemPlace}
    (hval : Value.okWide Tryz.prog W .any base T v) (h : DataW.Trod enc Tryz.prog W 0 (fun _ => true) true T v d p) :
    ∃ (a : Option Addr) (n c : Nat) (l : List Vl), v = .slice a n c ∧ Vals W a n l ∧ (∀ x ∈ l, x.wf) ∧ n ≤ c ∧ (c : Int) ≤ 9223372036854775807 := by
  obtain ⟨a0, len, cap, rfl⟩ := okWide_slice hT hval
  obtain ⟨fuel, hf⟩ := h
  rcases Go.Deep.open_slice hT hf with ⟨hcs, hx⟩ | ⟨a, len', cap', m, n, D, Pl, hcs, hb, hl, hm, hmm, hx, hi⟩
  · simp [Value.cells] at hcs
    obtain ⟨rfl, rfl, rfl⟩ := hcs
    exact ⟨none, 0, 0, [], rfl, Vals.nothing, (fun _ h => by cases h), Nat.le_refl _, by omega⟩
  · simp [Value.cells] at hcs
    obtain ⟨rfl, rfl, rfl⟩ := hcs
    simp only [if_true] at hmm
    subst hmm
    have each : ∀ i, i < len → ∃ x : Vl, (∃ q k e, W.cell? ((a.add (i * 2)).add 0) = some (.int .i64 x.num) ∧ W.cell? ((a.add (i * 2)).add 1) = some (.slice q k e) ∧ Nums .i64 W q k x.items ∧ k ≤ e ∧ (e : Int) ≤ 9223372036854775807) ∧ x.wf := by
      intro i hil
      obtain ⟨cs', hc, ht'⟩ := hi i (by omega)
      rw [hC] at hc
      obtain ⟨ys, k, _, _, hlen, hyl, hfs⟩ := DataW.trod_struct hE ht'
      obtain ⟨_, hcl, hat⟩ := World.cells?_some hc
      obtain ⟨o0, k0⟩ := Go.Deep.hone_of hone 0 f0 rfl
      obtain ⟨o1, k1⟩ := Go.Deep.hone_of hone 1 f1 rfl
      match cs', hlen.trans hC with
      | [c0, c1], _ =>
        have g0 := hfs 0 f0 rfl
        have g1 := hfs 1 f1 rfl
        rw [o0, k0] at g0
        rw [o1, k1] at g1
        have hys : ys.length = 2 := hyl
        obtain ⟨x0, rfl, w0⟩ := one_cell t0 g0 (by rw [List.getElem?_eq_getElem (by omega)]; rfl)
        obtain ⟨y1, g1'⟩ := trod_some g1 (by rw [List.getElem?_eq_getElem (by omega)]; rfl)
        obtain ⟨q, kk, e, l, hq, hN, hw, hr⟩ := trod_nums t1 tI hI g1'
        have hc1 : c1 = .slice q kk e := by simpa using hq
        subst hc1
        exact ⟨⟨x0, l⟩, ⟨q, kk, e, by rw [hat 0 (by omega)]; rfl, by rw [hat 1 (by omega)]; rfl, hN, hr⟩, w0, hw⟩
    have each' : ∀ i, ∃ x : Vl, i < len → (∃ q k e, W.cell? ((a.add (i * 2)).add 0) = some (.int .i64 x.num) ∧ W.cell? ((a.add (i * 2)).add 1) = some (.slice q k e) ∧ Nums .i64 W q k x.items ∧ k ≤ e ∧ (e : Int) ≤ 9223372036854775807) ∧ x.wf := fun i => by
      by_cases h : i < len
      · obtain ⟨x, hx⟩ := each i h
        exact ⟨x, fun _ => hx⟩
      · exact ⟨⟨0, []⟩, fun h' => absurd h' h⟩
    obtain ⟨g, hg⟩ := Classical.axiomOfChoice each'
    unfold maxLen at hm
    refine ⟨some a, len, m, (List.range len).map g, rfl, ⟨by simp, by omega, fun j x hj => ?_⟩, ?_, hl, by omega⟩
    · have hjl : j < len := by
        rcases Nat.lt_or_ge j len with h | h
        · exact h
        · rw [List.getElem?_eq_none (by simpa using h)] at hj; cases hj
      rw [List.getElem?_map, List.getElem?_range hjl] at hj
      cases hj
      obtain ⟨q, k, e, h0, h1, hN, hr⟩ := (hg j hjl).1
      obtain ⟨q', k', e', z0, _⟩ := (hg 0 (by omega)).1
      obtain ⟨b, o, spot⟩ := a
      have hspot : spot = none := by
        rw [addr_add, show (0 * 2 + 0) = 0 from rfl, show (⟨b, o, spot⟩ : Addr).add 0 = ⟨b, o, spot⟩ from rfl] at z0
        exact World.cell?_spot z0
      subst hspot
      have e0 : ∀ i, ((⟨b, o, none⟩ : Addr).add (j * 2)).add i = ⟨b, o + j * 2 + i, none⟩ := fun i => by
        rw [addr_add]
        unfold Addr.add
        split <;> simp_all <;> omega
      rw [e0] at h0 h1
      exact ⟨b, o, q, k, e, rfl, h0, h1, hN, hr⟩
    · intro x hx
      obtain ⟨i, hi', rfl⟩ := List.mem_map.1 hx
      exact (hg i (List.mem_range.1 hi')).2
set_option maxRecDepth 100000 in
/-- A value by itself. -/
theorem open_val {E I : TypeId} {f0 f1 : Field} (hE : Tryz.prog.underlying E = some (.struct #[f0, f1])) (hone : Go.Deep.oneCellFields Tryz.prog #[f0, f1] = true) (hC : Tryz.prog.cellsOf E = 2)
    (t0 : Tryz.prog.underlying f0.type = some (.int .i64)) (t1 : Tryz.prog.underlying f1.type = some (.slice I)) (tI : Tryz.prog.underlying I = some (.int .i64)) (hI : Tryz.prog.cellsOf I = 1)
    {H : Type} {enc : TypeId × Value → H} {W : World} {base : Nat} {v : Value} {d : DataW H} {p : List MemPlace}
    (hval : Value.okWide Tryz.prog W .any base E v) (h : DataW.Trod enc Tryz.prog W 0 (fun _ => true) true E v d p) :
    ∃ (k : Int) (a : Option Addr) (n c : Nat) (l : List Int), v = .agg #[.int .i64 k, .slice a n c] ∧ Nums .i64 W a n l ∧ ((Lit.int .i64 k).wf = true ∧ ∀ x ∈ l, (Lit.int .i64 x).wf = true) ∧ n ≤ c ∧ (c : Int) ≤ 9223372036854775807 := by
  obtain ⟨v0, v1, y0, y1, n, rfl, _, _, h0, h1⟩ := Go.Joins.open_agg2 hE hone hC hval h
  obtain ⟨x0, rfl, w0⟩ := one_cell t0 h0 rfl
  obtain ⟨q, kk, e, l, hq, hN, hw, hr⟩ := trod_nums t1 tI hI h1
  have hc1 : v1 = .slice q kk e := by simpa using hq
  subst hc1
  exact ⟨x0, q, kk, e, l, rfl, hN, ⟨w0, hw⟩, hr⟩
set_option maxRecDepth 100000 in
/-- A field by itself. -/
theorem open_fd {E : TypeId} {f0 f1 f2 f3 : Field} (hE : Tryz.prog.underlying E = some (.struct #[f0, f1, f2, f3])) (hone : Go.Deep.oneCellFields Tryz.prog #[f0, f1, f2, f3] = true) (hC : Tryz.prog.cellsOf E = 4)
    (t0 : Tryz.prog.underlying f0.type = some (.int .i64)) (t1 : Tryz.prog.underlying f1.type = some (.int .i64)) (t2 : Tryz.prog.underlying f2.type = some (.int .i64)) (t3 : Tryz.prog.underlying f3.type = some (.int .i64))
    {H : Type} {enc : TypeId × Value → H} {W : World} {base : Nat} {v : Value} {d : DataW H} {p : List MemPlace}
    (hval : Value.okWide Tryz.prog W .any base E v) (h : DataW.Trod enc Tryz.prog W 0 (fun _ => true) true E v d p) : ∃ x : Fd, v = x.val ∧ x.wf := by
  obtain ⟨v0, v1, v2, v3, y0, y1, y2, y3, n, rfl, _, _, h0, h1, h2, h3⟩ := Go.Joins.open_agg4 hE hone hC hval h
  obtain ⟨x0, rfl, w0⟩ := one_cell t0 h0 rfl
  obtain ⟨x1, rfl, w1⟩ := one_cell t1 h1 rfl
  obtain ⟨x2, rfl, w2⟩ := one_cell t2 h2 rfl
  obtain ⟨x3, rfl, w3⟩ := one_cell t3 h3 rfl
  exact ⟨⟨x0, x1, x2, x3⟩, rfl, w0, w1, w2, w3⟩
end Go.Proofs.YtcmjadfpifpknaaGreat
