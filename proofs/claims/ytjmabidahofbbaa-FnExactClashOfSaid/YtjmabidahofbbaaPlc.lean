/- Places in lists of entries with ascending tags: found by the library's binary search. -/
import Derived.Test.YtjmabidahofbbaaSrt1
import Derived.Test.YtjmabidahofbbaaRgM
namespace Go.Proofs.Ytjmabidahofbbaa
open Go.ChangeShapes Go.WideShapes Go.ChangeAt Go.RowKit
set_option linter.unusedVariables false

/-- Tags ascend. -/
def Asc (l : List En) : Prop := ∀ (i j : Nat) (x y : En), l[i]? = some x → l[j]? = some y → i < j → x.tag ≤ y.tag
/-- The first place at which a tag is or would be, and whether it is there. -/
structure Plc (l : List En) (t : Int) (k : Nat) (f : Bool) : Prop where
  le : k ≤ l.length
  lo : ∀ (i : Nat) (x : En), l[i]? = some x → i < k → x.tag < t
  hi : ∀ (i : Nat) (x : En), l[i]? = some x → k ≤ i → t ≤ x.tag
  yes : f = true → ∃ x, l[k]? = some x ∧ x.tag = t
  no : f = false → ∀ (i : Nat) (x : En), l[i]? = some x → x.tag ≠ t
set_option maxRecDepth 100000 in
theorem toTag_told (x : En) (t : Int) (W : World) : Calls Try.prog 96 #[.agg #[.int .i64 x.tag, .int .i64 x.vend, .bool x.old], .int .i64 t] W (Told (.int .i64 (cmpZ x.tag t)) W) := by
  have H := cmp_any x.tag t
  generalize cmpZ x.tag t = r at H ⊢
  go_enter Try.func96, Try.ntmps96
  go_wp2_with (go_at_call 93; refine (H _).mono ?_; rintro e w' ⟨rfl, rfl⟩)
  go_ret
  exact ⟨rfl, (Below.refl _ _).alloc (Nat.le_refl _) _⟩
set_option maxHeartbeats 2000000 in
set_option maxRecDepth 100000 in
theorem search_any {a : Option Addr} {n c : Nat} {l : List En} {w : World} (t : Int) (h : Ens w a n l) (hasc : Asc l) (hn : n ≤ 1048576000) :
    Calls Try.prog 95 #[.slice a n c, .int .i64 t, .func (.func 96) #[] #[]] w (fun e w' => ∃ k f, e = .returned (.tuple #[.int .i64 (k : Nat), .bool f]) ∧ Plc l t k f ∧ Below w.heap.size w w') := by
  have H := Lib.hid h
  have HL := Lib.hid h.len
  have HA := Lib.hid hasc
  clear h hasc
  go_enter Try.func95, Try.ntmps95
  go_wp2
  go_loopw [9, 10, 11] (fun vi vj vh wr => ∃ (i j : Nat), vi = .int .i64 i ∧ vj = .int .i64 j ∧ i ≤ j ∧ j ≤ n ∧ Hid ((∀ (p : Nat) (x : En), l[p]? = some x → p < i → x.tag < t) ∧ (∀ (p : Nat) (x : En), l[p]? = some x → j ≤ p → t ≤ x.tag)) ∧ Hid (Below w.heap.size w wr)) (fun vi vj _ _ => (intOf vj - intOf vi).toNat)
  case atStart => exact ⟨0, n, rfl, rfl, Nat.zero_le _, Nat.le_refl _, ⟨fun p x _ hp => by omega, fun p x hx hp => by
    rw [List.getElem?_eq_none (by rw [HL.out]; exact hp)] at hx; cases hx⟩, Below.refl _ _⟩
  case round =>
    obtain ⟨i, j, rfl, rfl, hij, hjn, HS, HB⟩ := hrel
    by_cases hlt : i < j
    · have hltz : (i : Int) < (j : Int) := by omega
      obtain ⟨h, hh⟩ : ∃ h, (i + j) / 2 = h := ⟨_, rfl⟩
      have hz : ((i : Int) + (j : Int)) / 2 = (h : Int) := by omega
      have hb1 : i ≤ h := by omega
      have hb2 : h < j := by omega
      clear hh
      have hwz : IntKind.i64.wrap ((i : Int) + (j : Int)) = (i : Int) + (j : Int) := by rw [IntKind.wrap_i64]; omega
      obtain ⟨b, o, x, rfl, hx, hc0, hc1, hc2⟩ := ens_at (H.out.same HB.out) (show h < n by omega)
      have HX := Lib.hid hx
      obtain ⟨r, hr⟩ : ∃ r, cmpZ x.tag t = r := ⟨_, rfl⟩
      have HC := toTag_told x t wr
      have HR : Hid (r < 0 ↔ x.tag < t) := hr ▸ cmpZ_lt _ _
      rw [hr] at HC
      clear hx hr
      by_cases hlv : r < 0
      · have hq9 : decide (r < 0) = true := decide_eq_true hlv
        go_wp2_with (go_at_call 96; refine HC.mono ?_; rintro e w2 ⟨rfl, hb2⟩)
        go_roundw
        case rel =>
          refine ⟨h + 1, j, by go_num, rfl, by omega, hjn, ⟨fun p y hy hp => ?_, HS.out.2⟩, HB.out.trans (hb2.mono HB.out.size)⟩
          have hl := HR.out.1 hlv
          by_cases e : p = h
          · subst e
            have h0 := HX.out
            rw [hy] at h0
            cases h0
            exact hl
          · have := HA.out p h y x hy HX.out (by omega)
            omega
        case measure => simp [intOf]; omega
      · have hq9 : decide (r < 0) = false := decide_eq_false hlv
        go_wp2_with (go_at_call 96; refine HC.mono ?_; rintro e w2 ⟨rfl, hb2⟩)
        go_roundw
        case rel =>
          refine ⟨i, h, rfl, rfl, hb1, by omega, ⟨HS.out.1, fun p y hy hp => ?_⟩, HB.out.trans (hb2.mono HB.out.size)⟩
          have hl : ¬ x.tag < t := fun hl => by have := HR.out.2 hl; omega
          by_cases e : p = h
          · subst e
            have h0 := HX.out
            rw [hy] at h0
            cases h0
            omega
          · have := HA.out h p x y HX.out hy (by omega)
            omega
        case measure => simp [intOf]; omega
    · have hltz : ¬ (i : Int) < (j : Int) := by omega
      obtain rfl : j = i := by omega
      by_cases hjl : j < n
      · have hjz : (j : Int) < (n : Int) := by omega
        obtain ⟨b, o, x, rfl, hx, hc0, hc1, hc2⟩ := ens_at (H.out.same HB.out) hjl
        have HX := Lib.hid hx
        obtain ⟨r, hr⟩ : ∃ r, cmpZ x.tag t = r := ⟨_, rfl⟩
        have HC := toTag_told x t wr
        have HR : Hid (r = 0 ↔ x.tag = t) := hr ▸ cmpZ_eq _ _
        rw [hr] at HC
        clear hx hr
        by_cases hlv : r = 0
        · have hq9 : (r == 0) = true := by simp [hlv]
          have HP : Hid (Plc l t j true) := ⟨by rw [HL.out]; omega, HS.out.1, HS.out.2, fun _ => ⟨x, HX.out, HR.out.1 hlv⟩, (fun e => by cases e)⟩
          go_wp2_with (go_at_call 96; refine HC.mono ?_; rintro e w2 ⟨rfl, hb2⟩)
          go_ret2
          exact ⟨j, true, by first | rfl | simp [hlv], HP.out, HB.out.trans (hb2.mono HB.out.size)⟩
        · have hq9 : (r == 0) = false := by simp [hlv]
          have HP : Hid (Plc l t j false) := ⟨by rw [HL.out]; omega, HS.out.1, HS.out.2, (fun e => by cases e), fun _ p y hy => by
            by_cases hp : p < j
            · have := HS.out.1 p y hy hp; omega
            · have h2 := HS.out.2 p y hy (by omega)
              intro e
              by_cases e2 : p = j
              · subst e2
                have h0 := HX.out
                rw [hy] at h0
                cases h0
                exact hlv (HR.out.2 e)
              · have h3 := HA.out j p x y HX.out hy (by omega)
                have h4 := HS.out.2 j x HX.out (Nat.le_refl _)
                exact hlv (HR.out.2 (by omega))⟩
          go_wp2_with (go_at_call 96; refine HC.mono ?_; rintro e w2 ⟨rfl, hb2⟩)
          go_ret2
          exact ⟨j, false, by first | rfl | simp [hlv], HP.out, HB.out.trans (hb2.mono HB.out.size)⟩
      · have hjz : ¬ (j : Int) < (n : Int) := by omega
        have HP : Hid (Plc l t j false) := ⟨by rw [HL.out]; omega, HS.out.1, HS.out.2, (fun e => by cases e), fun _ p y hy => by
          have hp : p < j := by
            rcases Nat.lt_or_ge p l.length with h | h
            · have := HL.out; omega
            · rw [List.getElem?_eq_none h] at hy; cases hy
          have := HS.out.1 p y hy hp; omega⟩
        go_wp2
        go_ret2
        first | exact ⟨j, false, by first | rfl | simp, HP.out, HB.out⟩ | exact ⟨j, Or.inl ⟨rfl, HP.out, HB.out⟩⟩
set_option maxHeartbeats 1000000 in
set_option maxRecDepth 100000 in
theorem placeOf_any {a : Option Addr} {n c : Nat} {l : List En} {w : World} (t : Int) (h : Ens w a n l) (hasc : Asc l) (hn : n ≤ 1048576000) :
    Calls Try.prog 72 #[.slice a n c, .int .i64 t] w (fun e w' => ∃ k f, e = .returned (.tuple #[.int .i64 (k : Nat), .bool f]) ∧ Plc l t k f ∧ Below w.heap.size w w') := by
  have hc := search_any (c := c) t h hasc hn
  clear h hasc
  go_enter Try.func72, Try.ntmps72
  go_wp2_with (go_at_call 95; refine hc.mono ?_; rintro e w2 ⟨k, f, rfl, hp, hb2⟩)
  go_ret2
  exact ⟨k, f, rfl, hp, hb2⟩
end Go.Proofs.Ytjmabidahofbbaa
