/- The model's reading of a varint. -/
import Derived.Test.YthdfdniidldkdaaRead
namespace Go.Proofs.Ythdfdniidldkdaa
open Go.ChangeShapes Go.WideShapes Go.ChangeAt Go.RowKit
set_option linter.unusedVariables false

theorem byte_low64 (y : Nat) (hy : y < 256) : bits .and .i64 (y : Int) 127 = ((y % 128 : Nat) : Int) := by
  rw [and127 y (by omega)]; omega
theorem group_or' (x g k : Nat) (hx : x < 128 ^ k) (hg : g < 128) (hk : k < 6) : bits .or .i64 (x : Int) (wrap64 ((g : Int) * 2 ^ (7 * k))) = ((x + g * 128 ^ k : Nat) : Int) := by
  rw [Nat.mul_comm 7 k]; exact group_or x g k hx hg hk
set_option maxRecDepth 100000 in
set_option maxHeartbeats 1000000 in
theorem specReadIn_any (a : Option Addr) (n c off : Nat) (l : List Int) (w : World) (h : Nums .u8 w a n l) (hB : Bs l) (hoff : off ≤ n) :
    Calls Try.prog 17 #[.slice a n c, .int .i64 off] w (ReadsAs (rd l off) w) := by
  have H := Lib.hid h
  have hfit := h.fits
  have hlen := h.len
  have HL := Lib.hid hlen
  clear h hlen
  go_enter Try.func17, Try.ntmps17
  go_wp2
  go_loop [7, 8] (fun v i => ∃ k x : Nat, i = .int .i64 k ∧ v = .int .i64 x ∧ k ≤ 6 ∧ Sofar (l.drop off) k x) (fun _ i => 6 - (intOf i).toNat)
  case atStart => exact ⟨0, 0, rfl, rfl, Nat.zero_le _, by unfold Sofar; simp⟩
  case round =>
    obtain ⟨k, x, rfl, rfl, hk, hs⟩ := hrel
    have HS := Lib.hid hs
    clear hs
    by_cases hlt : k < 6
    · by_cases hin : (off : Int) < (n : Int) - (k : Int)
      · obtain ⟨ad, y', hae, hy', hcell⟩ := H.out.at_ (show off + k < n by omega)
        have hyb := hB y' (List.mem_of_getElem? hy')
        obtain ⟨y, rfl⟩ : ∃ y : Nat, y' = y := ⟨y'.toNat, by omega⟩
        have hy3 : (l.drop off)[k]? = some (y : Int) := by rw [List.getElem?_drop]; exact hy'
        have HY := Lib.hid hy3
        have hy2 : y < 256 := by omega
        have hx := HS.out.1
        have h1 := byte_low64 y hy2
        have h3 := group_or' x (y % 128) k hx (by omega) (by omega)
        have h4 : y % 128 < 128 := by omega
        obtain ⟨g, hg⟩ : ∃ g, g = y % 128 := ⟨_, rfl⟩
        obtain ⟨z, hz⟩ : ∃ z, z = x + y % 128 * 128 ^ k := ⟨_, rfl⟩
        rw [← hz, ← hg] at h3
        rw [← hg] at h1 h4
        have HZ := Lib.hid hz
        have HG := Lib.hid hg
        clear hy' hy3 hx hz hg
        by_cases hf : 128 ≤ y
        · go_wp2
          go_round
          case rel =>
            have := HS.out.more (by omega) HY.out hf hy2
            rw [← HZ.out] at this
            exact ⟨_, _, _, .int .i64 z, .int .i64 ((k : Int) + 1), ⟨k + 1, by go_num, z, rfl, by omega, this⟩, rfl, rfl, rfl, rfl, rfl⟩
          case measure => simp [intOf]; omega
        · have hgy : g = y := by have := HG.out; omega
          by_cases hz1 : 1000000000000 < z
          · have hno : rd l off = none := rd_none (HS.out.bad (by omega) HY.out (by omega) (Or.inr (by rw [← HZ.out]; exact hz1)))
            have HN := Lib.hid hno
            clear hno hgy
            by_cases h0 : y = 0
            · have hg0 : ((y : Int) == 0) = true := by simp; omega
              clear h0
              by_cases h5 : 0 < k
              · go_wp2
                go_ret3
                exact reads_none HN.out (Below.refl _ _)
              · go_wp2
                go_ret3
                exact reads_none HN.out (Below.refl _ _)
            · have hg0 : ((y : Int) == 0) = false := by simp; omega
              go_wp2
              go_ret3
              exact reads_none HN.out (Below.refl _ _)
          · by_cases hbad : y = 0 ∧ 0 < k
            · have hno : rd l off = none := rd_none (HS.out.bad (by omega) HY.out (by omega) (Or.inl (by omega)))
              have HN := Lib.hid hno
              obtain ⟨hy0, h0⟩ := hbad
              have hg0 : ((y : Int) == 0) = true := by simp; omega
              clear hno hgy hy0
              go_wp2
              go_ret3
              exact reads_none HN.out (Below.refl _ _)
            · have hyes : rd l off = some ((z : Int), off + (k + 1)) := by
                rw [HZ.out]
                exact rd_some (by have := HL.out; omega) (HS.out.good (by omega) HY.out (by omega) (by omega) (by rw [← HZ.out]; omega))
              have HN := Lib.hid hyes
              clear hyes hgy
              by_cases h0 : y = 0
              · have h5 : ¬ 0 < k := by omega
                have hg0 : ((y : Int) == 0) = true := by simp; omega
                clear h0
                have hz2 : z ≤ 1000000000000 := by omega
                clear hbad
                go_wp2
                go_ret3
                exact reads_some HN.out rfl (show (off : Int) + (k : Int) + 1 = ((off + (k + 1) : Nat) : Int) by omega) (Below.refl _ _)
              · have hg0 : ((y : Int) == 0) = false := by simp; omega
                have hz2 : z ≤ 1000000000000 := by omega
                clear hbad
                go_wp2
                go_ret3
                exact reads_some HN.out rfl (show (off : Int) + (k : Int) + 1 = ((off + (k + 1) : Nat) : Int) by omega) (Below.refl _ _)
      · have hnone : rd l off = none := rd_none (HS.out.stop (by rw [List.length_drop, HL.out]; omega))
        have HN := Lib.hid hnone
        clear hnone
        go_wp2
        go_ret3
        exact reads_none HN.out (Below.refl _ _)
    · have hnone : rd l off = none := rd_none (HS.out.stop (by omega))
      have HN := Lib.hid hnone
      clear hnone
      go_wp2
      go_ret3
      exact reads_none HN.out (Below.refl _ _)
set_option maxRecDepth 100000 in
theorem specReadOut_any (a : Option Addr) (n c : Nat) (off : Int) (l : List Int) (w : World) (h : Nums .u8 w a n l) (hoff : off < 0 ∨ n < off) :
    Calls Try.prog 17 #[.slice a n c, .int .i64 off] w (ReadsAs (rd l off) w) := by
  have hfit := h.fits
  have hnone : rd l off = none := rd_out (by rw [h.len]; omega)
  have HN := Lib.hid hnone
  clear h hnone
  rcases hoff with hoff | hoff
  all_goals
    go_enter Try.func17, Try.ntmps17
    go_wp2
    refine wp_loop_rounds 1 ?_
    rw [rounds_succ]
    go_wp2
    go_ret3
    exact reads_none HN.out (Below.refl _ _)
theorem specRead_any (a : Option Addr) (n c : Nat) (off : Int) (l : List Int) (w : World) (h : Nums .u8 w a n l) (hB : Bs l) :
    Calls Try.prog 17 #[.slice a n c, .int .i64 off] w (ReadsAs (rd l off) w) := by
  by_cases hoff : off < 0 ∨ n < off
  · exact specReadOut_any a n c off l w h hoff
  · obtain ⟨o, rfl⟩ : ∃ o : Nat, off = o := ⟨off.toNat, by omega⟩
    exact specReadIn_any a n c o l w h hB (by omega)
theorem specRead_some {a : Option Addr} {n c : Nat} {off m : Int} {j : Nat} {l : List Int} (hr : rd l off = some (m, j)) {w : World} (h : Nums .u8 w a n l) (hB : Bs l) :
    Calls Try.prog 17 #[.slice a n c, .int .i64 off] w (Told (.tuple #[.int .i64 m, .int .i64 j, .bool true]) w) := by
  have := specRead_any a n c off l w h hB
  rw [hr] at this
  exact this
theorem specRead_none {a : Option Addr} {n c : Nat} {off : Int} {l : List Int} (hr : rd l off = none) {w : World} (h : Nums .u8 w a n l) (hB : Bs l) :
    Calls Try.prog 17 #[.slice a n c, .int .i64 off] w (Told (.tuple #[.int .i64 0, .int .i64 0, .bool false]) w) := by
  have := specRead_any a n c off l w h hB
  rw [hr] at this
  exact this
end Go.Proofs.Ythdfdniidldkdaa
