/- A varint is read as the mathematics says, by the program and by its model. -/
import Derived.Test.YthdfdniidldkdaaEnc2
import Derived.Outline
namespace Go.Proofs.Ythdfdniidldkdaa
open Go.ChangeShapes Go.WideShapes Go.ChangeAt Go.RowKit
set_option linter.unusedVariables false

def low2 (a b : Int) : Int := if b < a then b else a
def high2 (a b : Int) : Int := if a < b then b else a
set_option maxRecDepth 100000 in
theorem extremes_any (a b : Int) (blk : Nat) (w : World) (hc : w.cell? ⟨blk, 0, none⟩ = some (.int .i64 b)) :
    Calls Try.prog 55 #[.int .i64 a, .slice (some ⟨blk, 0, none⟩) 1 1] w fun e w' => e = .returned (.tuple #[.int .i64 (low2 a b), .int .i64 (high2 a b)]) ∧ w' = w := by
  go_enter Try.func55, Try.ntmps55
  go_wp2
  go_loop [6, 7, 14] (fun l h i => (i = .int .i64 0 ∧ l = .int .i64 a ∧ h = .int .i64 a) ∨ (i = .int .i64 1 ∧ l = .int .i64 (low2 a b) ∧ h = .int .i64 (high2 a b))) (fun _ _ i => 1 - (intOf i).toNat)
  case atStart => exact Or.inl ⟨rfl, rfl, rfl⟩
  case round =>
    rcases hrel with ⟨rfl, rfl, rfl⟩ | ⟨rfl, rfl, rfl⟩
    · by_cases h1 : b < a
      · have hl : low2 a b = b := if_pos h1
        have hh : high2 a b = a := if_neg (by omega)
        go_wp2
        go_round
        case rel => exact Or.inr ⟨rfl, by rw [hl], by rw [hh]⟩
        case measure => simp [intOf]
      · have hl : low2 a b = a := if_neg h1
        by_cases h2 : a < b
        · have hh : high2 a b = b := if_pos h2
          go_wp2
          go_round
          case rel => exact Or.inr ⟨rfl, by rw [hl], by rw [hh]⟩
          case measure => simp [intOf]
        · have hh : high2 a b = a := if_neg h2
          go_wp2
          go_round
          case rel => exact Or.inr ⟨rfl, by rw [hl], by rw [hh]⟩
          case measure => simp [intOf]
    · go_wp2
      go_ret2
      exact ⟨rfl, rfl⟩
set_option maxRecDepth 100000 in
theorem min_any (a b : Int) (w : World) :
    Calls Try.prog 44 #[.int .i64 a, .int .i64 b] w (Told (.int .i64 (low2 a b)) w) := by
  go_enter Try.func44, Try.ntmps44
  go_wp2_with (go_at_call 55; refine (extremes_any a b w.heap.size _ (by simp)).mono ?_; rintro e w' ⟨rfl, rfl⟩)
  go_ret
  exact ⟨rfl, alloc_same _ _⟩

theorem min_val {a b : Int} {q : Nat} (h : low2 a b = q) (w : World) : Calls Try.prog 44 #[.int .i64 a, .int .i64 b] w (Told (.int .i64 q) w) := by
  rw [← h]; exact min_any a b w
theorem low2_six (n : Nat) : ∃ m : Nat, low2 n 6 = m ∧ m ≤ n ∧ m ≤ 6 ∧ (m = n ∨ m = 6) := by
  unfold low2
  by_cases h : (6 : Int) < n
  · exact ⟨6, by rw [if_pos h]; rfl, by omega, by omega, Or.inr rfl⟩
  · exact ⟨n, by rw [if_neg h], by omega, by omega, Or.inl rfl⟩

theorem pow7 (k : Nat) : (2 : Nat) ^ (k * 7) = 128 ^ k := by rw [Nat.mul_comm, Nat.pow_mul]
theorem pow128 {k : Nat} (hk : k < 6) : 128 ^ k ≤ 34359738368 := Nat.pow_le_pow_right (show 128 > 0 by omega) (show k ≤ 5 by omega)
theorem group_or (x g k : Nat) (hx : x < 128 ^ k) (hg : g < 128) (hk : k < 6) : bits .or .i64 (x : Int) (wrap64 ((g : Int) * 2 ^ (k * 7))) = ((x + g * 128 ^ k : Nat) : Int) := by
  have hp := pow128 hk
  have hm : g * 128 ^ k ≤ 127 * 34359738368 := Nat.mul_le_mul (by omega) hp
  have e1 : (g : Int) * 2 ^ (k * 7) = ((g * 128 ^ k : Nat) : Int) := by
    rw [← pow7 k]
    push_cast
    rfl
  rw [e1, IntWalk.wrap64_in _ (by omega)]
  have e2 : x ||| g * 128 ^ k = x + g * 128 ^ k := by
    rw [Nat.or_comm, Nat.mul_comm, ← pow7 k, or_add g x (k * 7) (by rw [pow7]; exact hx), Nat.add_comm]
  show IntKind.i64.wrap ((BitVec.ofInt 64 (x : Int) ||| BitVec.ofInt 64 ((g * 128 ^ k : Nat) : Int)).toNat : Int) = _
  rw [BitVec.toNat_or, ofInt_nat x (by omega), ofInt_nat _ (by omega), e2, IntKind.wrap_i64]
  omega
theorem byte_low (y : Nat) (hy : y < 256) : bits .and .u8 (y : Int) 127 = ((y % 128 : Nat) : Int) := by
  have : ∀ z : Fin 256, bits .and .u8 (z.val : Int) 127 = ((z.val % 128 : Nat) : Int) := by decide +kernel
  exact this ⟨y, hy⟩
theorem byte_flag (y : Nat) (hy : y < 256) : (bits .and .u8 (y : Int) 128 != 0) = decide (128 ≤ y) := by
  have : ∀ z : Fin 256, (bits .and .u8 (z.val : Int) 128 != 0) = decide (128 ≤ z.val) := by decide +kernel
  exact this ⟨y, hy⟩

/-- What has been read in k rounds. -/
def Sofar (l : List Int) (k : Nat) (x : Nat) : Prop := x < 128 ^ k ∧ rdv k x (l.drop k) = rdv 0 0 l
theorem drop_at {l : List Int} {k : Nat} {y : Int} (h : l[k]? = some y) : l.drop k = y :: l.drop (k + 1) := by
  have hk : k < l.length := by
    rcases Nat.lt_or_ge k l.length with h1 | h1
    · exact h1
    · rw [List.getElem?_eq_none h1] at h; cases h
  rw [List.drop_eq_getElem_cons hk]
  rw [List.getElem?_eq_getElem hk] at h
  injection h with h
  rw [h]
theorem Sofar.more {l : List Int} {k x y : Nat} (h : Sofar l k x) (hk : k < 6) (hy : l[k]? = some (y : Int)) (h1 : 128 ≤ y) (h2 : y < 256) : Sofar l (k + 1) (x + y % 128 * 128 ^ k) := by
  refine ⟨?_, ?_⟩
  · have h3 := h.1
    have h4 : y % 128 * 128 ^ k ≤ 127 * 128 ^ k := Nat.mul_le_mul_right _ (by omega)
    rw [Nat.pow_succ]
    omega
  · rw [← h.2, drop_at hy, rdv_more hk (by omega), show (y : Int) - 128 = ((y % 128 : Nat) : Int) by omega]
    congr 1
theorem Sofar.good {l : List Int} {k x y : Nat} (h : Sofar l k x) (hk : k < 6) (hy : l[k]? = some (y : Int)) (h1 : y < 128) (h2 : 0 < k → 1 ≤ y) (h3 : x + y % 128 * 128 ^ k ≤ 1000000000000) : rdv 0 0 l = some (((x + y % 128 * 128 ^ k : Nat) : Int), k + 1) := by
  have e : ((x + y % 128 * 128 ^ k : Nat) : Int) = (x : Int) + (y : Int) * 128 ^ k := by rw [Nat.mod_eq_of_lt h1]; push_cast; rfl
  have hno : ¬ (((y : Int) = 0 ∧ 0 < k) ∨ 1000000000000 < (x : Int) + (y : Int) * 128 ^ k) := by
    rw [← e]
    rintro (⟨h4, h5⟩ | h4)
    · have := h2 h5; omega
    · omega
  rw [← h.2, drop_at hy, rdv_good hk (by omega) hno, e]
theorem Sofar.bad {l : List Int} {k x y : Nat} (h : Sofar l k x) (hk : k < 6) (hy : l[k]? = some (y : Int)) (h1 : y < 128) (h2 : (y = 0 ∧ 0 < k) ∨ 1000000000000 < x + y % 128 * 128 ^ k) : rdv 0 0 l = none := by
  have e : ((x + y % 128 * 128 ^ k : Nat) : Int) = (x : Int) + (y : Int) * 128 ^ k := by rw [Nat.mod_eq_of_lt h1]; push_cast; rfl
  rw [← h.2, drop_at hy]
  refine rdv_bad hk (by omega) ?_
  rw [← e]
  omega
theorem Sofar.stop {l : List Int} {k x : Nat} (h : Sofar l k x) (hk : l.length ≤ k ∨ 6 ≤ k) : rdv 0 0 l = none := by
  rw [← h.2]
  rcases hk with hk | hk
  · rw [List.drop_eq_nil_of_le hk]; rfl
  · exact rdv_six _ _ _ hk

/-- What a reading leaves. -/
def ReadsAs (r : Option (Int × Nat)) (w : World) (e : Ending) (w' : World) : Prop :=
  Told (match r with | some (m, j) => .tuple #[.int .i64 m, .int .i64 j, .bool true] | none => .tuple #[.int .i64 0, .int .i64 0, .bool false]) w e w'
theorem reads_none {r : Option (Int × Nat)} (hr : r = none) {w w' : World} (hb : Below w.heap.size w w') : ReadsAs r w (.returned (.tuple #[.int .i64 0, .int .i64 0, .bool false])) w' := by
  subst hr; exact ⟨rfl, hb⟩
theorem reads_some {r : Option (Int × Nat)} {m : Int} {j : Nat} {p q : Int} (hr : r = some (m, j)) (hp : p = m) (hq : q = j) {w w' : World} (hb : Below w.heap.size w w') : ReadsAs r w (.returned (.tuple #[.int .i64 p, .int .i64 q, .bool true])) w' := by
  subst hr hp hq; exact ⟨rfl, hb⟩
set_option maxRecDepth 100000 in
set_option maxHeartbeats 1000000 in
theorem readIn_any (a : Option Addr) (n c off : Nat) (l : List Int) (w : World) (h : Nums .u8 w a n l) (hB : Bs l) (hoff : off ≤ n) (hc : n ≤ c) (hc2 : (c : Int) ≤ 9223372036854775807) (hcap : c ≠ off) :
    Calls Try.prog 14 #[.slice a n c, .int .i64 off] w (ReadsAs (rd l off) w) := by
  have H := Lib.hid h
  have hfit := h.fits
  have hlen := h.len
  have HL := Lib.hid hlen
  clear h hlen
  obtain ⟨M, hM, hM1, hM2, hM3⟩ := low2_six (n - off)
  have HM := Lib.hid hM
  clear hM
  go_enter Try.func14, Try.ntmps14
  go_wp2_with fail
  refine (in_yes (by omega) (by omega) _).mono ?_
  rintro e w' ⟨rfl, rfl⟩
  go_wp2_with fail
  refine (min_val HM.out _).mono ?_
  rintro e w1 ⟨rfl, hb1⟩
  have HB1 := Lib.hid hb1
  clear hb1
  go_wp2
  go_loop [8, 22] (fun v i => ∃ k x : Nat, i = .int .i64 k ∧ v = .int .i64 x ∧ k ≤ M ∧ Sofar (l.drop off) k x) (fun _ i => M - (intOf i).toNat)
  case atStart => exact ⟨0, 0, rfl, rfl, Nat.zero_le _, by unfold Sofar; simp⟩
  case round =>
    obtain ⟨k, x, rfl, rfl, hk, hs⟩ := hrel
    have HS := Lib.hid hs
    clear hs
    by_cases hlt : k < M
    · have hnum : Nums .u8 w1 (a.map (·.add off)) (n - off) ((l.drop off).take (n - off)) := (H.out.same HB1.out).sub off (n - off) (by omega) (fun _ ad e => by rw [e]; rfl)
      rw [List.take_of_length_le (by rw [List.length_drop, HL.out]; omega)] at hnum
      obtain ⟨ad, y', hae, hy', hcell⟩ := hnum.at_ (show k < n - off by omega)
      have hyb := (hB.drop off) y' (List.mem_of_getElem? hy')
      obtain ⟨y, rfl⟩ : ∃ y : Nat, y' = y := ⟨y'.toNat, by omega⟩
      have HY := Lib.hid hy'
      have hy2 : y < 256 := by omega
      have hx := HS.out.1
      have h1 := byte_low y hy2
      have h2 := byte_flag y hy2
      have h3 := group_or x (y % 128) k hx (by omega) (by omega)
      have h4 : y % 128 < 128 := by omega
      obtain ⟨g, hg⟩ : ∃ g, g = y % 128 := ⟨_, rfl⟩
      obtain ⟨z, hz⟩ : ∃ z, z = x + y % 128 * 128 ^ k := ⟨_, rfl⟩
      rw [← hz, ← hg] at h3
      rw [← hg] at h1 h4
      have HZ := Lib.hid hz
      have HG := Lib.hid hg
      clear hy' hnum hx hz hg
      by_cases hf : 128 ≤ y
      · rw [decide_eq_true hf] at h2
        go_wp2
        go_round
        case rel =>
          have := HS.out.more (by omega) HY.out hf hy2
          rw [← HZ.out] at this
          exact ⟨k + 1, z, by go_num, rfl, by omega, this⟩
        case measure => simp [intOf]; omega
      · rw [decide_eq_false hf] at h2
        have hgy : g = y := by have := HG.out; omega
        by_cases hz1 : 1000000000000 < z
        · have hno : rd l off = none := rd_none (HS.out.bad (by omega) HY.out (by omega) (Or.inr (by rw [← HZ.out]; exact hz1)))
          have HN := Lib.hid hno
          clear hno hgy
          by_cases h0 : 0 < k
          · by_cases hg0 : g = 0
            · subst hg0
              go_wp2
              go_ret3
              exact reads_none HN.out HB1.out
            · go_wp2
              go_ret3
              exact reads_none HN.out HB1.out
          · go_wp2
            go_ret3
            exact reads_none HN.out HB1.out
        · by_cases hbad : g = 0 ∧ 0 < k
          · have hno : rd l off = none := rd_none (HS.out.bad (by omega) HY.out (by omega) (Or.inl (by omega)))
            have HN := Lib.hid hno
            obtain ⟨hg0, h0⟩ := hbad
            clear hno hgy
            subst hg0
            go_wp2
            go_ret3
            exact reads_none HN.out HB1.out
          · have hyes : rd l off = some ((z : Int), off + (k + 1)) := by
              rw [HZ.out]
              exact rd_some (by have := HL.out; omega) (HS.out.good (by omega) HY.out (by omega) (by omega) (by rw [← HZ.out]; omega))
            have HN := Lib.hid hyes
            clear hyes hgy
            by_cases h0 : 0 < k
            · have hg0 : ((g : Int) == 0) = false := by simp; omega
              have hz2 : z ≤ 1000000000000 := by omega
              clear hbad
              go_wp2
              go_ret3
              exact reads_some HN.out rfl (show (off : Int) + (k : Int) + 1 = ((off + (k + 1) : Nat) : Int) by omega) HB1.out
            · have hz2 : z ≤ 1000000000000 := by omega
              clear hbad
              go_wp2
              go_ret3
              exact reads_some HN.out rfl (show (off : Int) + (k : Int) + 1 = ((off + (k + 1) : Nat) : Int) by omega) HB1.out
    · have hnone : rd l off = none := rd_none (HS.out.stop (by rw [List.length_drop, HL.out]; omega))
      have HN := Lib.hid hnone
      clear hnone
      go_wp2
      go_ret3
      exact reads_none HN.out HB1.out

set_option maxRecDepth 100000 in
theorem readEnd_any (a : Option Addr) (n : Nat) (l : List Int) (w : World) (h : Nums .u8 w a n l) :
    Calls Try.prog 14 #[.slice a n n, .int .i64 n] w (ReadsAs (rd l n) w) := by
  have hfit := h.fits
  have hnone : rd l n = none := by rw [← h.len]; exact rd_end l
  have HN := Lib.hid hnone
  clear h hnone
  have hM : low2 ((n - n : Nat) : Int) 6 = (0 : Nat) := by rw [Nat.sub_self]; rfl
  have HM := Lib.hid hM
  clear hM
  go_enter Try.func14, Try.ntmps14
  go_wp2_with fail
  refine (in_yes (by omega) (by omega) _).mono ?_
  rintro e w' ⟨rfl, rfl⟩
  go_wp2_with fail
  refine (min_val (q := 0) (by simpa using HM.out) _).mono ?_
  rintro e w1 ⟨rfl, hb1⟩
  have HB1 := Lib.hid hb1
  clear hb1
  go_wp2
  refine wp_loop_rounds 1 ?_
  rw [rounds_succ]
  go_wp2
  go_ret3
  exact reads_none HN.out HB1.out
set_option maxRecDepth 100000 in
theorem readOut_any (a : Option Addr) (n c : Nat) (off : Int) (l : List Int) (w : World) (h : Nums .u8 w a n l) (hoff : ¬ (0 ≤ off ∧ off ≤ n)) :
    Calls Try.prog 14 #[.slice a n c, .int .i64 off] w (ReadsAs (rd l off) w) := by
  have hfit := h.fits
  have hnone : rd l off = none := rd_out (by rw [h.len]; exact hoff)
  have HN := Lib.hid hnone
  have HO := Lib.hid hoff
  clear h hnone hoff
  go_enter Try.func14, Try.ntmps14
  go_wp2_with fail
  refine (in_no HO.out _).mono ?_
  rintro e w' ⟨rfl, rfl⟩
  go_wp2
  go_ret3
  exact reads_none HN.out (Below.refl _ _)
theorem read_any (a : Option Addr) (n c : Nat) (off : Int) (l : List Int) (w : World) (h : Nums .u8 w a n l) (hB : Bs l) (hc : n ≤ c) (hc2 : (c : Int) ≤ 9223372036854775807) :
    Calls Try.prog 14 #[.slice a n c, .int .i64 off] w (ReadsAs (rd l off) w) := by
  by_cases hoff : 0 ≤ off ∧ off ≤ n
  · obtain ⟨o, rfl⟩ : ∃ o : Nat, off = o := ⟨off.toNat, by omega⟩
    by_cases hcap : c = o
    · obtain rfl : n = c := by omega
      obtain rfl : n = o := by omega
      exact readEnd_any a n l w h
    · exact readIn_any a n c o l w h hB (by omega) hc hc2 hcap
  · exact readOut_any a n c off l w h hoff
theorem read_some {a : Option Addr} {n c : Nat} {off m : Int} {j : Nat} {l : List Int} (hr : rd l off = some (m, j)) {w : World} (h : Nums .u8 w a n l) (hB : Bs l) (hc : n ≤ c ∧ (c : Int) ≤ 9223372036854775807) :
    Calls Try.prog 14 #[.slice a n c, .int .i64 off] w (Told (.tuple #[.int .i64 m, .int .i64 j, .bool true]) w) := by
  have := read_any a n c off l w h hB hc.1 hc.2
  rw [hr] at this
  exact this
theorem read_none {a : Option Addr} {n c : Nat} {off : Int} {l : List Int} (hr : rd l off = none) {w : World} (h : Nums .u8 w a n l) (hB : Bs l) (hc : n ≤ c ∧ (c : Int) ≤ 9223372036854775807) :
    Calls Try.prog 14 #[.slice a n c, .int .i64 off] w (Told (.tuple #[.int .i64 0, .int .i64 0, .bool false]) w) := by
  have := read_any a n c off l w h hB hc.1 hc.2
  rw [hr] at this
  exact this
end Go.Proofs.Ythdfdniidldkdaa
