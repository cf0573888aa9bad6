/- The hash of the model; valid keys; bytes as integers, in the program and in its model. A number that is picked by a seed, a place and a bound, in the program and in its model. The message that is made of a format and a seed: what it is, and that it fits. No function of the program is spoken of. Elements of any kind are copied into a slice of the call's own. No function of the program is spoken of. The first elements of a list, by the program. -/
import Derived.Test.YtjkjnhkamieljaaG6
import Derived.Test.YtjkjnhkamieljaaG1
import Derived.Test.YtjkjnhkamieljaaG5
import Derived.Laws.CopyOwn
namespace Go.Proofs.Ytjkjnhkamieljaa
open Go.ChangeShapes Go.WideShapes Go.ChangeAt Go.RowKit
set_option linter.unusedVariables false

theorem specHash_same (a : Option Addr) (n c : Nat) (l : List Int) (w : World) (h : Nums .i64 w a n l) (hl : Fits64 l) :
    Calls Try.prog 93 #[.slice a n c] w fun e w' => e = .returned (.int .i64 (hashOf l)) ∧ w = w' := by
  have hn := h.fits
  have H := Lib.hid h
  have HL := Lib.hid hl
  clear h hl
  go_enter Try.func93, Try.ntmps93
  go_wp2
  go_loop [3, 4] (fun v i => ∃ j : Nat, j ≤ n ∧ i = .int .i64 j ∧ v = .int .i64 (hashFrom 11 (l.take j))) (fun _ i => n - (intOf i).toNat)
  case atStart => exact ⟨0, Nat.zero_le _, rfl, rfl⟩
  case round =>
    obtain ⟨j, hj, rfl, rfl⟩ := hrel
    obtain ⟨hb0, hb1⟩ := hashFrom_bd (l.take j) 11 (by omega) (by omega)
    by_cases hlt : j < n
    · obtain ⟨ad, x, rfl, hx, hc⟩ := H.out.at_ hlt
      have b1 : 0 ≤ x % 2147483647 := by omega
      have b2 : x % 2147483647 < 2147483647 := by omega
      have HX := Lib.hid hx
      clear hx
      go_wp2_with (go_at_call 92; refine (specMod_in _ _ (by omega) (by omega) (HL.out.get HX.out) _).mono ?_; rintro e w' ⟨rfl, rfl⟩)
      go_round
      case rel => exact ⟨j + 1, by omega, by go_num, by rw [hashFrom_take _ _ _ _ HX.out]; rfl⟩
      case measure => simp [intOf]; omega
    · obtain rfl : j = n := by omega
      go_wp2
      go_ret
      exact ⟨ret_i64 (by rw [List.take_of_length_le (by have := H.out.len; omega)]; rfl), rfl⟩
theorem specHash_any (a : Option Addr) (n c : Nat) (l : List Int) (w : World) (h : Nums .i64 w a n l) (hl : Fits64 l) :
    Calls Try.prog 93 #[.slice a n c] w (Told (.int .i64 (hashOf l)) w) :=
  (specHash_same a n c l w h hl).mono fun e w' ⟨he, hw⟩ => ⟨he, hw ▸ Below.refl _ _⟩

theorem fits_cons {x : Int} {l : List Int} (hx : Fit64 x) (hl : Fits64 l) : Fits64 ([x] ++ l) := by
  intro y hy
  rcases List.mem_append.1 hy with h | h
  · rw [List.mem_singleton.1 h]; exact hx
  · exact hl y h
theorem fits_snoc {x : Int} {l : List Int} (hl : Fits64 l) (hx : Fit64 x) : Fits64 (l ++ [x]) := by
  intro y hy
  rcases List.mem_append.1 hy with h | h
  · exact hl y h
  · rw [List.mem_singleton.1 h]; exact hx
theorem own_one (w : World) (x : Int) (B : Nat) (hB : B ≤ w.heap.size) : Own .i64 3 (w.alloc (.cells #[.int .i64 x] 3)) B (some ⟨w.heap.size, 0, none⟩) 1 1 [x] :=
  ⟨rfl, World.ownsRow_lit w #[.int .i64 x] 1 hB (by unfold maxLen; omega) rfl⟩

/-- The length, then each byte. -/
def b2i (l : List Int) : List Int := (l.length : Int) :: l
theorem b2i_len (l : List Int) : (b2i l).length = l.length + 1 := rfl
def b2iTo (l : List Int) (j : Nat) : List Int := [(l.length : Int)] ++ l.take j
theorem b2iTo_zero (l : List Int) : b2iTo l 0 = [(l.length : Int)] := by simp [b2iTo]
theorem b2iTo_step {l : List Int} {j : Nat} {x : Int} (h : l[j]? = some x) : b2iTo l j ++ [x] = b2iTo l (j + 1) := by unfold b2iTo; rw [take_step l j x h]; simp
theorem b2iTo_all (l : List Int) (n : Nat) (h : l.length ≤ n) : b2iTo l n = b2i l := by unfold b2iTo b2i; rw [List.take_of_length_le h]; rfl

end Go.Proofs.Ytjkjnhkamieljaa
namespace Go.Proofs.Ytjkjnhkamieljaa
open Go.ChangeShapes Go.WideShapes Go.ChangeAt Go.RowKit
set_option linter.unusedVariables false

/-- The remainder where the divisor is in range, else 0. -/
def modOf (p q : Int) : Int := if 1 ≤ q ∧ q ≤ 1000000000000 then p % q else 0
/-- The number that is picked. -/
def pickOf (s p n : Int) : Int := modOf (hashOf [s, p]) n
theorem pickOf_few {s p n : Int} (h : n < 1) : pickOf s p n = 0 := by unfold pickOf modOf; rw [if_neg (by omega)]
theorem pickOf_bd (s p n : Int) : 0 ≤ pickOf s p n ∧ pickOf s p n ≤ 1000000000000 ∧ (1 ≤ n → pickOf s p n < n) := by
  unfold pickOf modOf
  by_cases h : 1 ≤ n ∧ n ≤ 1000000000000
  · rw [if_pos h]
    have h1 := Int.emod_nonneg (hashOf [s, p]) (show n ≠ 0 by omega)
    have h2 := Int.emod_lt_of_pos (hashOf [s, p]) (show 0 < n by omega)
    omega
  · rw [if_neg h]; omega

theorem modI_any (p q : Int) (w0 : Fit64 p) (w1 : Fit64 q) (w : World) :
    Calls Try.prog 86 #[.int .i64 p, .int .i64 q] w fun e w' => e = .returned (.int .i64 (modOf p q)) ∧ w = w' := by
  have b1 := bounds_i64 w1
  by_cases h : 1 ≤ q ∧ q ≤ 1000000000000
  · rw [show modOf p q = p % q from if_pos h]
    exact mod_in p q h.1 h.2 w0 w
  · rw [show modOf p q = 0 from if_neg h]
    have b0 := bounds_i64 w0
    clear w0 w1
    by_cases h1 : 1 ≤ q
    · have h2 : ¬ q ≤ 1000000000000 := fun e => h ⟨h1, e⟩
      clear h
      go_enter Try.func86, Try.ntmps86
      go_wp2
      go_ret
      exact ⟨rfl, rfl⟩
    · go_enter Try.func86, Try.ntmps86
      go_wp2
      go_ret
      exact ⟨rfl, rfl⟩
theorem modS_any (p q : Int) (w0 : Fit64 p) (w1 : Fit64 q) (w : World) :
    Calls Try.prog 92 #[.int .i64 p, .int .i64 q] w fun e w' => e = .returned (.int .i64 (modOf p q)) ∧ w = w' := by
  have b1 := bounds_i64 w1
  by_cases h : 1 ≤ q ∧ q ≤ 1000000000000
  · rw [show modOf p q = p % q from if_pos h]
    exact specMod_in p q h.1 h.2 w0 w
  · rw [show modOf p q = 0 from if_neg h]
    have b0 := bounds_i64 w0
    clear w0 w1
    by_cases h1 : 1 ≤ q
    · have h2 : ¬ q ≤ 1000000000000 := fun e => h ⟨h1, e⟩
      clear h
      go_enter Try.func92, Try.ntmps92
      go_wp2
      go_ret
      exact ⟨rfl, rfl⟩
    · go_enter Try.func92, Try.ntmps92
      go_wp2
      go_ret
      exact ⟨rfl, rfl⟩

theorem nums_two (w : World) (k : IntKind) (x y : Int) (t : TypeId) : Nums k (w.alloc (.cells #[.int k x, .int k y] t)) (some ⟨w.heap.size, 0, none⟩) 2 [x, y] :=
  ⟨rfl, by omega, fun j hj => ⟨_, rfl, by
    have hb : (w.alloc (.cells #[.int k x, .int k y] t)).heap[w.heap.size]? = some (.cells #[.int k x, .int k y] t (0, 0)) := heap_alloc_new w _
    have hj' : j = 0 ∨ j = 1 := by omega
    rcases hj' with rfl | rfl
    · exact block_cell hb 0
    · exact block_cell hb 1⟩⟩
theorem fits_two {x y : Int} (hx : Fit64 x) (hy : Fit64 y) : Fits64 [x, y] := by
  intro z hz
  simp at hz
  rcases hz with rfl | rfl
  · exact hx
  · exact hy
theorem hash_fit (l : List Int) : Fit64 (hashOf l) := by have := hashOf_bd l; exact fit_mk (by omega) (by omega)

theorem pickOf_any (s p n : Int) (w : World) (hs : Fit64 s) (hp : Fit64 p) (hn : Fit64 n) :
    Calls Try.prog 66 #[.int .i64 s, .int .i64 p, .int .i64 n] w (Told (.int .i64 (pickOf s p n)) w) := by
  have HS := Lib.hid (fits_two hs hp)
  have HN := Lib.hid hn
  have KN := Lib.hid (nums_two w .i64 s p 3)
  have KB := Lib.hid (alloc_same w (.cells #[.int .i64 s, .int .i64 p] 3))
  clear hs hp hn
  go_enter Try.func66, Try.ntmps66
  go_wp2_with fail
  refine (hash_any _ _ _ _ _ KN.out HS.out).mono ?_
  rintro e w1 ⟨rfl, hb1⟩
  have HB := Lib.hid (KB.out.trans (hb1.mono KB.out.size))
  clear hb1
  go_wp2_with fail
  refine (modI_any _ _ (hash_fit _) HN.out _).mono ?_
  rintro e w2 ⟨rfl, rfl⟩
  go_wp2_with fail
  go_ret
  exact ⟨rfl, HB.out⟩
theorem specPickOf_any (s p n : Int) (w : World) (hs : Fit64 s) (hp : Fit64 p) (hn : Fit64 n) :
    Calls Try.prog 72 #[.int .i64 s, .int .i64 p, .int .i64 n] w (Told (.int .i64 (pickOf s p n)) w) := by
  by_cases h1 : n < 1
  · rw [pickOf_few h1]
    go_enter Try.func72, Try.ntmps72
    go_wp2_with fail
    go_ret
    exact ⟨rfl, Below.refl _ _⟩
  have HS := Lib.hid (fits_two hs hp)
  have HN := Lib.hid hn
  have KN := Lib.hid (nums_two w .i64 s p 3)
  have KB := Lib.hid (alloc_same w (.cells #[.int .i64 s, .int .i64 p] 3))
  clear hs hp hn
  go_enter Try.func72, Try.ntmps72
  go_wp2_with fail
  refine (specHash_any _ _ _ _ _ KN.out HS.out).mono ?_
  rintro e w1 ⟨rfl, hb1⟩
  have HB := Lib.hid (KB.out.trans (hb1.mono KB.out.size))
  clear hb1
  go_wp2_with fail
  refine (modS_any _ _ (hash_fit _) HN.out _).mono ?_
  rintro e w2 ⟨rfl, rfl⟩
  go_wp2_with fail
  go_ret
  exact ⟨rfl, HB.out⟩
end Go.Proofs.Ytjkjnhkamieljaa
namespace Go.Proofs.Ytjkjnhkamieljaa
open Go.ChangeShapes Go.WideShapes Go.ChangeAt Go.RowKit
set_option linter.unusedVariables false

/-- So many items are picked at as many places in a row. -/
def picks (s p : Int) : Nat → List Int
  | 0 => []
  | k + 1 => picks s p k ++ [pickOf s (p + k) 100]
theorem picks_len (s p : Int) : ∀ k, (picks s p k).length = k
  | 0 => rfl
  | k + 1 => by rw [picks, List.length_append, picks_len]; rfl
theorem picks_bd (s p : Int) : ∀ k, ∀ z ∈ picks s p k, 0 ≤ z ∧ z ≤ 99
  | 0 => fun z h => by simp [picks] at h
  | k + 1 => fun z h => by
    rw [picks, List.mem_append] at h
    rcases h with h | h
    · exact picks_bd s p k z h
    · rw [List.mem_singleton] at h
      have := pickOf_bd s (p + k) 100
      omega
/-- The value that is made of a field, from a place on. -/
def mkVal (x : Fd) (s p : Int) : Vl := if x.kind = 1 then ⟨pickOf s p (x.max + 1), []⟩ else ⟨0, picks s (p + 1) (pickOf s p (x.max + 1)).toNat⟩
theorem mkVal_num {x : Fd} {s p : Int} (h : x.kind = 1) : mkVal x s p = ⟨pickOf s p (x.max + 1), []⟩ := if_pos h
theorem mkVal_more {x : Fd} {s p : Int} (h : x.kind ≠ 1) : mkVal x s p = ⟨0, picks s (p + 1) (pickOf s p (x.max + 1)).toNat⟩ := if_neg h
/-- The values of the first fields. -/
def mkTo (l : List Fd) (s : Int) : Nat → List Vl
  | 0 => []
  | j + 1 => mkTo l s j ++ [match l[j]? with
    | some x => if isThere l (mkTo l s j) j = true then mkVal x s (16 * j) else ⟨0, []⟩
    | none => ⟨0, []⟩]
theorem mkTo_len (l : List Fd) (s : Int) : ∀ j, (mkTo l s j).length = j
  | 0 => rfl
  | j + 1 => by rw [mkTo, List.length_append, mkTo_len]; rfl
theorem mkTo_yes {l : List Fd} {s : Int} {j : Nat} {x : Fd} (hx : l[j]? = some x) (h : isThere l (mkTo l s j) j = true) : mkTo l s (j + 1) = mkTo l s j ++ [mkVal x s (16 * j)] := by rw [mkTo, hx]; dsimp only; rw [if_pos h]
theorem mkTo_no {l : List Fd} {s : Int} {j : Nat} {x : Fd} (hx : l[j]? = some x) (h : isThere l (mkTo l s j) j = false) : mkTo l s (j + 1) = mkTo l s j ++ [⟨0, []⟩] := by rw [mkTo, hx]; dsimp only; rw [if_neg (by rw [h]; decide)]
noncomputable def mkMsg (l : List Fd) (s : Int) : List Vl := if isFmt l = true then mkTo l s l.length else []
theorem mkMsg_yes {l : List Fd} (s : Int) (h : isFmt l = true) : mkMsg l s = mkTo l s l.length := if_pos h
theorem mkMsg_no {l : List Fd} (s : Int) (h : isFmt l = false) : mkMsg l s = [] := if_neg (by rw [h]; decide)

/-- What is made of a field fits it. -/
theorem allIn_of {y : List Int} {g : Int} (h : ∀ z ∈ y, 0 ≤ z ∧ z ≤ g) : allIn y g = true := by
  unfold allIn
  rw [List.all_eq_true]
  intro z hz
  exact decide_eq_true (h z hz)
theorem kind_of {x : Fd} (h1 : 1 ≤ x.max) (h2 : x.max ≤ mostOf x.kind) : x.kind = 1 ∨ x.kind = 2 ∨ x.kind = 3 := by
  unfold mostOf at h2
  by_cases a : x.kind = 1
  · exact .inl a
  by_cases b : x.kind = 2
  · exact .inr (.inl b)
  by_cases c : x.kind = 3
  · exact .inr (.inr c)
  rw [if_neg a, if_neg b, if_neg c] at h2
  omega
theorem mkVal_fits {x : Fd} {s p : Int} (h1 : 1 ≤ x.max) (h2 : x.max ≤ mostOf x.kind) : fitsField x (mkVal x s p).num (mkVal x s p).items = true := by
  have hb := pickOf_bd s p (x.max + 1)
  have hm := hb.2.2 (by omega)
  have hlen := picks_len s (p + 1) (pickOf s p (x.max + 1)).toNat
  have hin := picks_bd s (p + 1) (pickOf s p (x.max + 1)).toNat
  rcases kind_of h1 h2 with k | k | k
  · rw [mkVal_num k]
    unfold fitsField
    rw [k]
    simp [hb.1]
    omega
  · rw [mkVal_more (by omega)]
    have ha := allIn_of (g := 255) fun z hz => ⟨(hin z hz).1, by have := (hin z hz).2; omega⟩
    unfold fitsField fitIts
    rw [k]
    simp [hlen, ha]
    omega
  · rw [mkVal_more (by omega)]
    have ha := allIn_of (g := 99) fun z hz => ⟨(hin z hz).1, (hin z hz).2⟩
    unfold fitsField fitIts
    rw [k]
    simp [hlen, ha]
    omega
theorem okTo_max {l : List Fd} {n j : Nat} {x : Fd} (h : okTo l n) (hj : j < n) (hx : l[j]? = some x) : 1 ≤ x.max ∧ x.max ≤ mostOf x.kind := by
  have := h j x hj hx
  unfold fieldOk at this
  rw [Bool.and_eq_true] at this
  exact of_decide_eq_true this.1
/-- The first values of a made message are those of its beginning. -/
theorem mkTo_get (l : List Fd) (s : Int) {i : Nat} : ∀ {j : Nat}, i < j → (mkTo l s j)[i]? = (mkTo l s (i + 1))[i]?
  | 0, h => absurd h (by omega)
  | j + 1, h => by
    by_cases e : i = j
    · rw [e]
    · rw [mkTo, List.getElem?_append_left (by rw [mkTo_len]; omega)]
      exact mkTo_get l s (by omega)
theorem mkTo_pre (l : List Fd) (s : Int) {q i j : Nat} (hq : q < i) (hi : i ≤ j) : (mkTo l s j)[q]? = (mkTo l s i)[q]? := by
  rw [mkTo_get l s (show q < j by omega), mkTo_get l s hq]
theorem mkTo_fits {l : List Fd} (s : Int) (hok : okTo l l.length) : ∀ j, j ≤ l.length → fitsTo l (mkTo l s j) j
  | 0, _ => fitsTo_zero _ _
  | j + 1, hj => by
    have hx : l[j]? = some l[j] := List.getElem?_eq_getElem (by omega)
    generalize l[j] = x at hx
    have hc := okTo_cond hok (by omega) hx
    obtain ⟨h1, h2⟩ := okTo_max hok (by omega) hx
    have hprev := fitsTo_part hok (by omega) (fun q hq => (mkTo_pre l s hq (Nat.le_succ j)).symm) (mkTo_fits s hok j (by omega))
    have hth : isThere l (mkTo l s (j + 1)) j = isThere l (mkTo l s j) j := isThere_part hx hc fun q hq => mkTo_pre l s hq (Nat.le_succ j)
    have hlast : ∀ y, (mkTo l s j ++ [y])[j]? = some y := fun y => by rw [List.getElem?_append_right (by rw [mkTo_len]; omega), mkTo_len, Nat.sub_self]; rfl
    cases ht : isThere l (mkTo l s j) j with
    | true =>
      have e := mkTo_yes hx ht
      have hy : (mkTo l s (j + 1))[j]? = some (mkVal x s (16 * j)) := by rw [e]; exact hlast _
      exact fitsTo_step hprev hx hy (by rw [fitsAt_there (hth.trans ht)]; exact mkVal_fits h1 h2)
    | false =>
      have e := mkTo_no hx ht
      have hy : (mkTo l s (j + 1))[j]? = some ⟨0, []⟩ := by rw [e]; exact hlast _
      exact fitsTo_step hprev hx hy (by rw [fitsAt_not (hth.trans ht)]; rfl)
theorem mkMsg_fits {l : List Fd} (s : Int) (h : isFmt l = true) : fitsFmt l (mkMsg l s) = true := by
  rw [mkMsg_yes s h]
  exact fitsFmt_yes h (mkTo_len _ _ _) (mkTo_fits s (isFmt_iff.1 h).2 _ (Nat.le_refl _))
theorem mkTo_items {l : List Fd} (s : Int) (hok : okTo l l.length) : ∀ j, j ≤ l.length → itemsOf (mkTo l s j) ≤ 5 * j
  | 0, _ => by simp [mkTo, itemsOf]
  | j + 1, hj => by
    have hx : l[j]? = some l[j] := List.getElem?_eq_getElem (by omega)
    generalize l[j] = x at hx
    obtain ⟨h1, h2⟩ := okTo_max hok (by omega) hx
    have ih := mkTo_items s hok j (by omega)
    have happ : ∀ y : Vl, itemsOf (mkTo l s j ++ [y]) = itemsOf (mkTo l s j) + y.items.length := fun y => by simp [itemsOf]
    cases ht : isThere l (mkTo l s j) j with
    | true =>
      rw [mkTo_yes hx ht, happ]
      have hv : (mkVal x s (16 * j)).items.length ≤ 5 := by
        by_cases k : x.kind = 1
        · rw [mkVal_num k]; simp
        · rw [mkVal_more k]
          have hb := (pickOf_bd s (16 * j) (x.max + 1)).2.2 (by omega)
          have hm : x.max ≤ 5 := by
            rcases kind_of h1 h2 with k' | k' | k'
            · exact absurd k' k
            · rw [k'] at h2; exact h2
            · rw [k'] at h2; exact h2
          rw [picks_len]
          omega
      omega
    | false =>
      rw [mkTo_no hx ht, happ]
      have : (⟨0, []⟩ : Vl).items.length = 0 := rfl
      omega
theorem mkMsg_few (l : List Fd) (s : Int) : (mkMsg l s).length ≤ 6 ∧ itemsOf (mkMsg l s) ≤ 30 := by
  cases h : isFmt l with
  | true =>
    rw [mkMsg_yes s h]
    have h0 := isFmt_iff.1 h
    have := mkTo_items s h0.2 l.length (Nat.le_refl _)
    have := mkTo_len l s l.length
    have := h0.1
    omega
  | false => rw [mkMsg_no s h]; simp [itemsOf]
end Go.Proofs.Ytjkjnhkamieljaa
namespace Go.Proofs.Ytjkjnhkamieljaa
open Go.ChangeShapes Go.WideShapes Go.ChangeAt Go.RowKit
set_option linter.unusedVariables false

section
variable {P : Program} {α : Type} {enc : α → List Value} {s : Nat}
theorem flat_one (h1 : ∀ x, ∀ u ∈ enc x, u.oneCell' = true) (l : List α) : ∀ v ∈ flatOf enc l, v.oneCell' = true := by
  intro v hv
  obtain ⟨x, _, hx⟩ := List.mem_flatMap.1 hv
  exact h1 x v hx
/-- The run of a copy of the first elements into a row that is known. -/
theorem run_copyI (hs : ∀ x, (enc x).length = s) (h0 : 0 < s) (h1 : ∀ x, ∀ u ∈ enc x, u.oneCell' = true) (w : World) (dT sT ty e : TypeId) (i : TypeInfo) (hu : P.underlying dT = some (.slice e)) (hi : P.info? e = some i) (hsize : i.size = s)
    {B g n k d : Nat} {a : Option Addr} {l : List α} {zs : List Value} (hown : w.ownsRow B e s (.slice (some ⟨g, 0, none⟩) n n) n zs) (hsrc : Items enc s w a k l) :
    ∃ w', (Builtin.copy_ #[dT, sT] ty #[.slice (some ⟨g, 0, none⟩) n n, .slice a k d]).run P w = .ok (goInt (Nat.min k n : Nat)) w' ∧ OwnI enc s e w' B (some ⟨g, 0, none⟩) (Nat.min k n) n (l.take n) ∧ Below B w w' := by
  obtain ⟨hl0, hz⟩ := hown
  rcases hz with ⟨hz, _⟩ | ⟨g', cap, cur, hv, hB, hg, hn, hcap, hcur, htake⟩
  · cases hz
  cases hv
  have hlen : (l.take n).length = Nat.min k n := by
    rw [List.length_take, hsrc.len]
    exact Nat.min_comm _ _
  have htk : l.take (Nat.min k n) = l.take n := by
    rcases Nat.le_total n k with h2 | h2
    · rw [show Nat.min k n = n from Nat.min_eq_right h2]
    · rw [show Nat.min k n = k from Nat.min_eq_left h2, List.take_of_length_le (by rw [hsrc.len]; exact Nat.le_refl _), List.take_of_length_le (by rw [hsrc.len]; exact h2)]
  have hcl : (flatOf enc (l.take n)).length = Nat.min k n * s := by rw [flatOf_len hs, hlen]
  have hfit : 0 + 0 + (flatOf enc (l.take n)).length ≤ cur.size := by
    rw [hcl, hcur]
    have : Nat.min k n * s ≤ n * s := Nat.mul_le_mul_right _ (Nat.min_le_right _ _)
    omega
  have hst := run_storeCells_at P g 0 e (flatOf enc (l.take n)) 0 cur w hg hfit (flat_one h1 _)
  refine ⟨w.setRow g (cur.toList.take (0 + 0) ++ flatOf enc (l.take n) ++ cur.toList.drop (0 + 0 + (flatOf enc (l.take n)).length)).toArray, ?_, ?_, ?_⟩
  · have hsz : (sizeOf e).run P w = .ok s w := by simp [sizeOf, typeInfo, hi, hsize]
    cases a with
    | none =>
      have hk : k = 0 := by
        cases l with
        | nil => simpa using hsrc.len.symm
        | cons x r => obtain ⟨b, o, e0, _⟩ := hsrc.cell 0 x rfl; cases e0
      subst hk
      have hl : l = [] := List.eq_nil_of_length_eq_zero hsrc.len
      subst hl
      have hm : Nat.min 0 n = 0 := Nat.min_eq_left (Nat.zero_le _)
      simp [Builtin.copy_, run_underlying hu, Builtin.lenOf, Builtin.firstCells, sizeOf, typeInfo, hi, hm, flatOf, storeCells]
      exact (setRow_self w g cur e _ hg).symm
    | some ad =>
      have hld : (loadCells ad (Nat.min k n * s)).run P w = .ok (flatOf enc (l.take n)).toArray w := by
        rw [← hcl]
        refine run_loadCells_list (P := P) w ad _ ?_
        intro j v hj
        have hk : Items enc s w (some ad) (Nat.min k n) (l.take n) := by rw [← htk]; exact hsrc.take _ (Nat.min_le_left _ _)
        cases hl : l.take n with
        | nil => rw [hl] at hj; simp [flatOf] at hj
        | cons x r =>
          obtain ⟨b, o, e0, _⟩ := hk.cell 0 x (by rw [hl]; rfl)
          cases e0
          have := items_flat hs h0 hk j v hj
          exact this
      simp [Builtin.copy_, run_underlying hu, Builtin.lenOf, Builtin.firstCells, sizeOf, typeInfo, hi, hsize, hld, hst]
  · refine ⟨hlen, hcl, Or.inr ⟨g, n, _, rfl, hB, setRow_heap w g cur _ e _ hg, Nat.min_le_right _ _, hcap, ?_, ?_⟩⟩
    · simp
      rw [hcur]
      omega
    · rw [← hcl]
      simp
  · exact below_setRow (Below.refl _ _) hB _
theorem wpl_copyI (hs : ∀ x, (enc x).length = s) (h0 : 0 < s) (h1 : ∀ x, ∀ u ∈ enc x, u.oneCell' = true) {w : World} {ops : Array Oper} {rest : List Oper} {o : Oper} {act : Act} {Q : Exit → Act → World → Prop} (hgd : o.guard = none) (q x : Operand) (t t' : TypeId)
    (ho : o.op = .call { callee := .builtin .copy, args := #[q, x], argTypes := #[t, t'] })
    (e : TypeId) (i : TypeInfo) (ht : P.underlying t = some (.slice e)) (hi : P.info? e = some i) (hsize : i.size = s)
    {B g n k d : Nat} {a : Option Addr} {l : List α} {zs : List Value} (hq : act.eval q = .slice (some ⟨g, 0, none⟩) n n) (hown : w.ownsRow B e s (.slice (some ⟨g, 0, none⟩) n n) n zs) (hx : act.eval x = .slice a k d) (hsrc : Items enc s w a k l)
    (h : ∀ m w', m = Nat.min k n → OwnI enc s e w' B (some ⟨g, 0, none⟩) m n (l.take n) → Below B w w' → wpList P ops Q rest (act.put o.dst (.int .i64 (m : Nat))) w') : wpList P ops Q (o :: rest) act w := by
  refine wpList_plain hgd fun K hK => ?_
  obtain ⟨w', hr, h2, h3⟩ := run_copyI (P := P) (d := d) hs h0 h1 w t t' o.type e i ht hi hsize hown hsrc
  unfold Oper.wp
  simp [execOp, ho, resolve, invoke, builtin, hq, hx, hr, Result.andThen]
  exact hK _ _ (h _ _ rfl h2 h3)
end
end Go.Proofs.Ytjkjnhkamieljaa
namespace Go.Proofs.Ytjkjnhkamieljaa
open Go.ChangeShapes Go.WideShapes Go.ChangeAt Go.RowKit
set_option linter.unusedVariables false

theorem Fd.cells (x : Fd) : ∀ u ∈ x.enc, u.oneCell' = true := by
  intro u hu
  simp only [Fd.enc, List.mem_cons, List.not_mem_nil, or_false] at hu
  rcases hu with rfl | rfl | rfl | rfl <;> rfl
set_option maxHeartbeats 1000000 in
set_option maxRecDepth 100000 in
theorem firstF_any (a : Option Addr) (k c n : Nat) (l : List Fd) (w : World) (h : Items Fd.enc 4 w a k l) (hn : n ≤ 1048576000) :
    Calls Try.prog 61 #[.slice a k c, .int .i64 n] w (fun e w' => ∃ b d, e = .returned (.slice b (Nat.min k n) d) ∧ OwnI Fd.enc 4 50 w' w.heap.size b (Nat.min k n) d (l.take n) ∧ Below w.heap.size w w') := by
  have H := Lib.hid h
  clear h
  have hk := H.out.fits
  obtain ⟨i0, hi, hz0, hz1, hz2⟩ := info_parts infoFieldS
  go_enter Try.func61, Try.ntmps61
  go_wp2_with (with_reducible refine wpList_make_full _ rfl _ _ 24 rfl w.heap.size 50 i0 (.agg #[.int .i64 0, .int .i64 0, .int .i64 0, .int .i64 0]) 4 Try.underlying24 hi hz0 hz1 .i64 .i64 _ _ n rfl rfl (by omega) (by omega) ?c1 ?c2 ?c3 ?_)
  case c1 => rw [hz2]; omega
  case c2 => unfold maxLen; omega
  case c3 => omega
  intro w1 hown hgrow
  have HO := Lib.hid hown
  have HB := Lib.hid ((Below.refl _ w).grown hgrow (Nat.le_refl _) (fun _ e => by cases e))
  have HI := Lib.hid hi
  have HZ := Lib.hid hz1
  clear hown hgrow hi hz0 hz1 hz2
  go_wp2_with (with_reducible refine wpl_copyI Fd.enc_len (by omega) Fd.cells rfl _ _ 24 24 rfl 50 i0 Try.underlying24 HI.out HZ.out rfl HO.out rfl (H.out.same HB.out) ?_)
  intro m w2 hm hown2 hb2
  have HO2 := Lib.hid hown2
  have HB2 := Lib.hid (HB.out.trans hb2)
  have hmn : m ≤ n := by rw [hm]; exact Nat.min_le_right _ _
  have HM := Lib.hid hm
  clear hown2 hb2 hm
  go_wp2_with fail
  go_ret
  rw [HM.out] at HO2
  exact ⟨_, _, by rw [HM.out]; rfl, HO2.out, HB2.out⟩
set_option maxHeartbeats 1000000 in
set_option maxRecDepth 100000 in
theorem firstH_any (a : Option Addr) (k c n : Nat) (l : List Vh) (w : World) (h : Items Vh.enc 2 w a k l) (hn : n ≤ 1048576000) :
    Calls Try.prog 45 #[.slice a k c, .int .i64 n] w (fun e w' => ∃ b d, e = .returned (.slice b (Nat.min k n) d) ∧ OwnI Vh.enc 2 64 w' w.heap.size b (Nat.min k n) d (l.take n) ∧ Below w.heap.size w w') := by
  have H := Lib.hid h
  clear h
  have hk := H.out.fits
  obtain ⟨i0, hi, hz0, hz1, hz2⟩ := info_parts infoValueS
  go_enter Try.func45, Try.ntmps45
  go_wp2_with (with_reducible refine wpList_make_full _ rfl _ _ 34 rfl w.heap.size 64 i0 (.agg #[.int .i64 0, .slice none 0 0]) 2 Try.underlying34 hi hz0 hz1 .i64 .i64 _ _ n rfl rfl (by omega) (by omega) ?c1 ?c2 ?c3 ?_)
  case c1 => rw [hz2]; omega
  case c2 => unfold maxLen; omega
  case c3 => omega
  intro w1 hown hgrow
  have HO := Lib.hid hown
  have HB := Lib.hid ((Below.refl _ w).grown hgrow (Nat.le_refl _) (fun _ e => by cases e))
  have HI := Lib.hid hi
  have HZ := Lib.hid hz1
  clear hown hgrow hi hz0 hz1 hz2
  go_wp2_with (with_reducible refine wpl_copyI Vh.enc_len (by omega) Vh.cells rfl _ _ 34 34 rfl 64 i0 Try.underlying34 HI.out HZ.out rfl HO.out rfl (H.out.same HB.out) ?_)
  intro m w2 hm hown2 hb2
  have HO2 := Lib.hid hown2
  have HB2 := Lib.hid (HB.out.trans hb2)
  have hmn : m ≤ n := by rw [hm]; exact Nat.min_le_right _ _
  have HM := Lib.hid hm
  clear hown2 hb2 hm
  go_wp2_with fail
  go_ret
  rw [HM.out] at HO2
  exact ⟨_, _, by rw [HM.out]; rfl, HO2.out, HB2.out⟩
set_option maxRecDepth 100000 in
theorem firstV_any (a : Option Addr) (k c n : Nat) (l : List Vl) (tI : TypeId) (B : Nat) (w : World) (h : OwnV 64 tI w B a k c l) (hn : n ≤ 1048576000) :
    Calls Try.prog 45 #[.slice a k c, .int .i64 n] w (fun e w' => ∃ b m d, e = .returned (.slice b m d) ∧ Vals w' b m (l.take n) ∧ m ≤ d ∧ (d : Int) ≤ 9223372036854775807 ∧ Below w.heap.size w w') := by
  obtain ⟨hs, h1, h2⟩ := h
  refine (firstH_any a k c n hs w (h1.items Vh.enc_len) hn).mono ?_
  rintro e w' ⟨b, d, rfl, ho, hb⟩
  refine ⟨b, _, d, rfl, ?_, ho.room.1, ho.room.2, hb⟩
  refine ⟨by rw [← ho.len, List.length_take, List.length_take, h2.1], by have := ho.room; omega, fun j x hx => ?_⟩
  have hjn : j < n ∧ l[j]? = some x := by
    rw [List.getElem?_take] at hx
    split at hx
    · exact ⟨by assumption, hx⟩
    · cases hx
  have hj : j < hs.length := by rw [h2.1]; exact lt_of_some hjn.2
  have hg := List.getElem?_eq_getElem hj
  obtain ⟨b1, o, g, e1, hg1, hc⟩ := (ho.items Vh.enc_len).at_ (j := j) (by rw [← ho.len, List.length_take]; omega)
  rw [List.getElem?_take, if_pos hjn.1] at hg1
  obtain ⟨en, hO, _⟩ := h2.2.1 j g x hg1 hjn.2
  refine ⟨b1, o, g.p, g.m, g.c, e1, ?_, hc 1 _ rfl, (hO.same hb).nums, (hO.same hb).room⟩
  rw [en]
  simpa using hc 0 _ rfl
end Go.Proofs.Ytjkjnhkamieljaa
