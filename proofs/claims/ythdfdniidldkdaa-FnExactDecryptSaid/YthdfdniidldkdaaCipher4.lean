/- The cipher of the model, back. -/
import Derived.Test.YthdfdniidldkdaaCipher3
namespace Go.Proofs.Ythdfdniidldkdaa
open Go.ChangeShapes Go.WideShapes Go.ChangeAt Go.RowKit
set_option linter.unusedVariables false

theorem dec_spell (x y : Int) (hx0 : 0 ≤ x) (hx1 : x ≤ 255) (hy0 : 0 ≤ y) (hy1 : y < 2147483647) : IntKind.u8.wrap (IntKind.i64.wrap (IntKind.i64.wrap x - y.tmod 256) % 256) = (x - y % 256) % 256 := by
  rw [tmod_pos y 256 hy0, IntWalk.i64_in x ⟨by omega, by omega⟩, IntWalk.i64_in (x - y % 256) ⟨by omega, by omega⟩, IntWalk.u8_in _ ⟨by omega, by omega⟩]
set_option maxRecDepth 100000 in
theorem specDecrypt_any (k : Int) (a : Option Addr) (n c : Nat) (l : List Int) (w : World) (hk : Fit64 k) (h : Nums .u8 w a n l) (hn : n ≤ 1000000000) (hB : Bs l) :
    Calls Try.prog 36 #[.int .i64 k, .slice a n c] w (Made .u8 5 w.heap.size (decr k l) w) := by
  have HK := Lib.hid hk
  have H := Lib.hid h
  have HBs := Lib.hid hB
  have HL := Lib.hid h.len
  clear hk h hB
  obtain ⟨i0, hi, hz0, hz1, hz2⟩ := info_parts infoByteS
  have HI := Lib.hid (And.intro hi (And.intro hz0 (And.intro hz1 hz2)))
  clear hi hz0 hz1 hz2
  go_enter Try.func36, Try.ntmps36
  go_wp2
  go_loopw [5, 6] (fun v i wr => ∃ (a' : Option Addr) (c' j : Nat), v = .slice a' j c' ∧ i = .int .i64 j ∧ j ≤ n ∧ Own .u8 5 wr w.heap.size a' j c' (mapTo (decAt k) l j) ∧ Below w.heap.size w wr) (fun _ i _ => n - (intOf i).toNat)
  case atStart => exact ⟨_, _, 0, rfl, rfl, Nat.zero_le _, Own.empty (Nat.le_refl _), alloc_same _ _⟩
  case round =>
    obtain ⟨a', c', j, rfl, rfl, hj, ho, hb⟩ := hrel
    have HO := Lib.hid ho
    have HB := Lib.hid hb
    have hsz := hb.size
    clear ho hb
    by_cases hlt : j < n
    · obtain ⟨ad, x, rfl, hx, hc⟩ := H.out.at_ hlt
      obtain ⟨hx0, hx1⟩ := HBs.out x (List.mem_of_getElem? hx)
      have HX := Lib.hid hx
      have HC := Lib.hid hc
      obtain ⟨y, hy⟩ : ∃ y, y = khash k [(j : Int)] := ⟨_, rfl⟩
      obtain ⟨hy0, hy1⟩ : 0 ≤ y ∧ y < 2147483647 := by rw [hy]; exact khash_bd _ _
      have HY := Lib.hid hy
      clear hx hc hy
      go_wp2_with fail
      go_region_held3 (fun w' => w'.cell? (ad.add j) = some (.int .u8 x)) (first | exact cell_kept HC.out HB.out.drew | exact cell_kept HC.out (HB.out.alloc hsz _).drew | exact cell_kept HC.out HB3.out | exact cell_kept HC.out (HB3.out.alloc HB3.out.size _) | exact cell_kept HC.out HB4.out) ((first | (go_at_call 51; refine (specKeyedHash_one k y j wr HK.out (by omega) HY.out).mono ?_; rintro e w3 ⟨rfl, hb3⟩; have HR3 := Lib.hid hb3; have HB3 := Lib.hid (HB.out.trans (hb3.mono hsz)); clear hb3) | (go_at_call 52; refine (specMod_in _ 256 (by omega) (by omega) (wf_wrap .i64 _) _).mono ?_; rintro e w5 ⟨rfl, rfl⟩) | (refine step_app _ (by rfl) _ _ 22 (by rfl) .u8 5 i0 (.int .u8 0) 1 Try.underlying22 HI.out.1 HI.out.2.1 HI.out.2.2.1 HI.out.2.2.2 rfl (by rfl) ((HO.out.same HR3.out).alloc _) (by rfl) (nums_new _ _ _ _) (by omega) (by omega) (by have := HB3.out.size; simp; omega) ?_; intro a4 c4 w4 ho4 hb4; have HO4 := Lib.hid ho4; have HB4 := Lib.hid ((HB3.out.alloc HB3.out.size _).trans hb4); clear ho4 hb4)))
      have hval : IntKind.u8.wrap (IntKind.i64.wrap (IntKind.i64.wrap x - y.tmod 256) % 256) = decAt k j x := by
        rw [dec_spell x y hx0 hx1 hy0 hy1, HY.out]
        rfl
      have HV := Lib.hid hval
      clear hval
      go_wp2
      go_roundw
      case rel =>
        refine ⟨a4, c4, j + 1, rfl, by go_num, by omega, ?_, HB4.out⟩
        rw [← mapTo_step (decAt k) HX.out, ← HV.out]
        exact HO4.out
      case measure => simp [intOf]; omega
    · obtain rfl : j = n := by omega
      go_wp2
      go_ret
      refine ⟨_, _, _, rfl, ?_, HB.out⟩
      unfold decr
      rw [HL.out]
      exact HO.out
end Go.Proofs.Ythdfdniidldkdaa
