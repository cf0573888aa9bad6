/- The cipher of the model, forth. -/
import Derived.Test.YthdfdniidldkdaaCipher1
import Derived.Test.YthdfdniidldkdaaHash2
import Derived.IntWalk
namespace Go.Proofs.Ythdfdniidldkdaa
open Go.ChangeShapes Go.WideShapes Go.ChangeAt Go.RowKit
set_option linter.unusedVariables false

section
variable {P : Program}
/-- Integers are appended to a slice of the call's own, at a step of a region that draws its order. -/
theorem step_app (w : World) {ops : Array Oper} {o : Oper} {act : Act} {K : Act → World → Prop} {Q : Exit → Act → World → Prop} {E : Prop} (hgd : o.guard = none) (s x : Operand) (t : TypeId)
    (ho : o.op = .call { callee := .builtin .append, args := #[s, x], argTypes := #[t, t] })
    (k : IntKind) (e : TypeId) (i : TypeInfo) (z : Value) (bytes : Nat) (ht : P.underlying t = some (.slice e)) (hi : P.info? e = some i) (hz : i.zero = some z) (hsize : i.size = 1) (hby : i.bytes = bytes) (hzs : z.cells.size = 1)
    {B n c m d : Nat} {a b : Option Addr} {l l' : List Int} (hs : act.eval s = .slice a n c) (hown : Own k e w B a n c l) (hx : act.eval x = .slice b m d) (hnew : Nums k w b m l')
    (hb1 : 0 < bytes) (hbytes : (n + m) * bytes ≤ 140737488355328) (hB : B ≤ w.heap.size)
    (h : ∀ a' c' w', Own k e w' B a' (n + m) c' (l ++ l') → Below B w w' → K (act.put o.dst (.slice a' (n + m) c')) w') :
    if Region.wanted o (yielded ops act.tmps) = true then Oper.wp P o act w K Q else E := by
  have hw : Region.wanted o (yielded ops act.tmps) = true := by simp [Region.wanted, hgd]
  rw [if_pos hw]
  have h63 : n + m ≤ maxLen := by
    have := Nat.mul_le_mul_left (n + m) hb1
    unfold maxLen
    omega
  obtain ⟨a', c', w', hr, h2, h3⟩ := run_app (P := P) (d := d) w t o.type e i z bytes ht hi hz hsize hby hzs hown hnew hbytes h63 hB
  unfold Oper.wp execOp
  simp only [ho, resolve, invoke, builtin, Sem.run_bind, Sem.run_pure, Result.andThen_ok, List.map_toArray, List.map_cons, List.map_nil, hs, hx, hr]
  exact h a' c' w' h2 h3
end
theorem cell_kept {w w' : World} {p : Addr} {v : Value} (h : w.cell? p = some v) (hb : Below w.heap.size w w') : w'.cell? p = some v := by rw [hb.cell (cell_in h)]; exact h
theorem specKeyedHash_one (k y : Int) (j : Nat) (w : World) (hk : Fit64 k) (hj : j ≤ 1000000000000) (hy : y = khash k [(j : Int)]) :
    Calls Try.prog 51 #[.int .i64 k, .slice (some ⟨w.heap.size, 0, none⟩) 1 1] (w.alloc (.cells #[.int .i64 (j : Int)] 3)).drew fun e w' => e = .returned (.int .i64 y) ∧ Below w.heap.size w w' := by
  have hn : Nums .i64 (w.alloc (.cells #[.int .i64 (j : Int)] 3)).drew (some ⟨w.heap.size, 0, none⟩) 1 [(j : Int)] := (nums_new w .i64 (j : Int) 3).same (Below.refl _ _).drew
  refine (specKeyedHash_any k _ 1 1 _ _ hk hn (by omega) (fun x hx => by rw [List.mem_singleton.1 hx]; exact fit_mk (by omega) (by omega))).mono fun e w' ⟨he, hb⟩ => ⟨by rw [hy]; exact he, ?_⟩
  exact (alloc_same w (.cells #[.int .i64 (j : Int)] 3)).drew.trans (hb.mono (by simp))

theorem tmod_pos (a b : Int) (h : 0 ≤ a) : a.tmod b = a % b := Int.tmod_eq_emod_of_nonneg h
theorem enc_spell (x y : Int) (hx0 : 0 ≤ x) (hx1 : x ≤ 255) (hy0 : 0 ≤ y) (hy1 : y < 2147483647) : IntKind.u8.wrap ((IntKind.i64.wrap (IntKind.i64.wrap x + y.tmod 256)).tmod 256) = (x + y % 256) % 256 := by
  rw [tmod_pos y 256 hy0, IntWalk.i64_in x ⟨by omega, by omega⟩, IntWalk.i64_in (x + y % 256) ⟨by omega, by omega⟩, tmod_pos (x + y % 256) 256 (by omega), IntWalk.u8_in _ ⟨by omega, by omega⟩]
set_option maxRecDepth 100000 in
theorem specEncrypt_any (k : Int) (a : Option Addr) (n c : Nat) (l : List Int) (w : World) (hk : Fit64 k) (h : Nums .u8 w a n l) (hn : n ≤ 1000000000) (hB : Bs l) :
    Calls Try.prog 35 #[.int .i64 k, .slice a n c] w (Made .u8 5 w.heap.size (encr k l) w) := by
  have HK := Lib.hid hk
  have H := Lib.hid h
  have HBs := Lib.hid hB
  have HL := Lib.hid h.len
  clear hk h hB
  obtain ⟨i0, hi, hz0, hz1, hz2⟩ := info_parts infoByteS
  have HI := Lib.hid (And.intro hi (And.intro hz0 (And.intro hz1 hz2)))
  clear hi hz0 hz1 hz2
  go_enter Try.func35, Try.ntmps35
  go_wp2
  go_loopw [5, 6] (fun v i wr => ∃ (a' : Option Addr) (c' j : Nat), v = .slice a' j c' ∧ i = .int .i64 j ∧ j ≤ n ∧ Own .u8 5 wr w.heap.size a' j c' (mapTo (encAt k) l j) ∧ Below w.heap.size w wr) (fun _ i _ => n - (intOf i).toNat)
  case atStart => exact ⟨_, _, 0, rfl, rfl, Nat.zero_le _, Own.empty (Nat.le_refl _), alloc_same _ _⟩
  case round =>
    obtain ⟨a', c', j, rfl, rfl, hj, ho, hb⟩ := hrel
    have HO := Lib.hid ho
    have HB := Lib.hid hb
    have hsz := hb.size
    clear ho hb
    by_cases hlt : j < n
    · obtain ⟨ad, x, rfl, hx, hc⟩ := H.out.at_ hlt
      obtain ⟨hx0, hx1⟩ := HBs.out x (List.mem_of_getElem? hx)
      have HX := Lib.hid hx
      have HC := Lib.hid hc
      obtain ⟨y, hy⟩ : ∃ y, y = khash k [(j : Int)] := ⟨_, rfl⟩
      obtain ⟨hy0, hy1⟩ : 0 ≤ y ∧ y < 2147483647 := by rw [hy]; exact khash_bd _ _
      have HY := Lib.hid hy
      clear hx hc hy
      go_wp2_with fail
      go_region_held3 (fun w' => w'.cell? (ad.add j) = some (.int .u8 x)) (first | exact cell_kept HC.out HB.out.drew | exact cell_kept HC.out (HB.out.alloc hsz _).drew | exact cell_kept HC.out HB3.out | exact cell_kept HC.out (HB3.out.alloc HB3.out.size _) | exact cell_kept HC.out HB4.out) ((first | (go_at_call 51; refine (specKeyedHash_one k y j wr HK.out (by omega) HY.out).mono ?_; rintro e w3 ⟨rfl, hb3⟩; have HR3 := Lib.hid hb3; have HB3 := Lib.hid (HB.out.trans (hb3.mono hsz)); clear hb3) | (refine step_app _ (by rfl) _ _ 22 (by rfl) .u8 5 i0 (.int .u8 0) 1 Try.underlying22 HI.out.1 HI.out.2.1 HI.out.2.2.1 HI.out.2.2.2 rfl (by rfl) ((HO.out.same HR3.out).alloc _) (by rfl) (nums_new _ _ _ _) (by omega) (by omega) (by have := HB3.out.size; simp; omega) ?_; intro a4 c4 w4 ho4 hb4; have HO4 := Lib.hid ho4; have HB4 := Lib.hid ((HB3.out.alloc HB3.out.size _).trans hb4); clear ho4 hb4)))
      have hval : IntKind.u8.wrap ((IntKind.i64.wrap (IntKind.i64.wrap x + y.tmod 256)).tmod 256) = encAt k j x := by
        rw [enc_spell x y hx0 hx1 hy0 hy1, HY.out]
        rfl
      have HV := Lib.hid hval
      clear hval
      go_wp2
      go_roundw
      case rel =>
        refine ⟨a4, c4, j + 1, rfl, by go_num, by omega, ?_, HB4.out⟩
        rw [← mapTo_step (encAt k) HX.out, ← HV.out]
        exact HO4.out
      case measure => simp [intOf]; omega
    · obtain rfl : j = n := by omega
      go_wp2
      go_ret
      refine ⟨_, _, _, rfl, ?_, HB.out⟩
      unfold encr
      rw [HL.out]
      exact HO.out
end Go.Proofs.Ythdfdniidldkdaa
