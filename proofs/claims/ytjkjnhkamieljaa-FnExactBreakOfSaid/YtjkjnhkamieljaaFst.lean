/- The first elements of a list, by the program. -/
import Derived.Test.YtjkjnhkamieljaaFieldT
import Derived.Test.YtjkjnhkamieljaaValS
import Derived.Test.YtjkjnhkamieljaaCpy
namespace Go.Proofs.Ytjkjnhkamieljaa
open Go.ChangeShapes Go.WideShapes Go.ChangeAt Go.RowKit
set_option linter.unusedVariables false

theorem Fd.cells (x : Fd) : ∀ u ∈ x.enc, u.oneCell' = true := by
  intro u hu
  simp only [Fd.enc, List.mem_cons, List.not_mem_nil, or_false] at hu
  rcases hu with rfl | rfl | rfl | rfl <;> rfl
set_option maxHeartbeats 1000000 in
set_option maxRecDepth 100000 in
theorem firstF_any (a : Option Addr) (k c n : Nat) (l : List Fd) (w : World) (h : Items Fd.enc 4 w a k l) (hn : n ≤ 1048576000) :
    Calls Try.prog 61 #[.slice a k c, .int .i64 n] w (fun e w' => ∃ b d, e = .returned (.slice b (Nat.min k n) d) ∧ OwnI Fd.enc 4 50 w' w.heap.size b (Nat.min k n) d (l.take n) ∧ Below w.heap.size w w') := by
  have H := Lib.hid h
  clear h
  have hk := H.out.fits
  obtain ⟨i0, hi, hz0, hz1, hz2⟩ := info_parts infoFieldS
  go_enter Try.func61, Try.ntmps61
  go_wp2_with (with_reducible refine wpList_make_full _ rfl _ _ 24 rfl w.heap.size 50 i0 (.agg #[.int .i64 0, .int .i64 0, .int .i64 0, .int .i64 0]) 4 Try.underlying24 hi hz0 hz1 .i64 .i64 _ _ n rfl rfl (by omega) (by omega) ?c1 ?c2 ?c3 ?_)
  case c1 => rw [hz2]; omega
  case c2 => unfold maxLen; omega
  case c3 => omega
  intro w1 hown hgrow
  have HO := Lib.hid hown
  have HB := Lib.hid ((Below.refl _ w).grown hgrow (Nat.le_refl _) (fun _ e => by cases e))
  have HI := Lib.hid hi
  have HZ := Lib.hid hz1
  clear hown hgrow hi hz0 hz1 hz2
  go_wp2_with (with_reducible refine wpl_copyI Fd.enc_len (by omega) Fd.cells rfl _ _ 24 24 rfl 50 i0 Try.underlying24 HI.out HZ.out rfl HO.out rfl (H.out.same HB.out) ?_)
  intro m w2 hm hown2 hb2
  have HO2 := Lib.hid hown2
  have HB2 := Lib.hid (HB.out.trans hb2)
  have hmn : m ≤ n := by rw [hm]; exact Nat.min_le_right _ _
  have HM := Lib.hid hm
  clear hown2 hb2 hm
  go_wp2_with fail
  go_ret
  rw [HM.out] at HO2
  exact ⟨_, _, by rw [HM.out]; rfl, HO2.out, HB2.out⟩
set_option maxHeartbeats 1000000 in
set_option maxRecDepth 100000 in
theorem firstH_any (a : Option Addr) (k c n : Nat) (l : List Vh) (w : World) (h : Items Vh.enc 2 w a k l) (hn : n ≤ 1048576000) :
    Calls Try.prog 45 #[.slice a k c, .int .i64 n] w (fun e w' => ∃ b d, e = .returned (.slice b (Nat.min k n) d) ∧ OwnI Vh.enc 2 64 w' w.heap.size b (Nat.min k n) d (l.take n) ∧ Below w.heap.size w w') := by
  have H := Lib.hid h
  clear h
  have hk := H.out.fits
  obtain ⟨i0, hi, hz0, hz1, hz2⟩ := info_parts infoValueS
  go_enter Try.func45, Try.ntmps45
  go_wp2_with (with_reducible refine wpList_make_full _ rfl _ _ 34 rfl w.heap.size 64 i0 (.agg #[.int .i64 0, .slice none 0 0]) 2 Try.underlying34 hi hz0 hz1 .i64 .i64 _ _ n rfl rfl (by omega) (by omega) ?c1 ?c2 ?c3 ?_)
  case c1 => rw [hz2]; omega
  case c2 => unfold maxLen; omega
  case c3 => omega
  intro w1 hown hgrow
  have HO := Lib.hid hown
  have HB := Lib.hid ((Below.refl _ w).grown hgrow (Nat.le_refl _) (fun _ e => by cases e))
  have HI := Lib.hid hi
  have HZ := Lib.hid hz1
  clear hown hgrow hi hz0 hz1 hz2
  go_wp2_with (with_reducible refine wpl_copyI Vh.enc_len (by omega) Vh.cells rfl _ _ 34 34 rfl 64 i0 Try.underlying34 HI.out HZ.out rfl HO.out rfl (H.out.same HB.out) ?_)
  intro m w2 hm hown2 hb2
  have HO2 := Lib.hid hown2
  have HB2 := Lib.hid (HB.out.trans hb2)
  have hmn : m ≤ n := by rw [hm]; exact Nat.min_le_right _ _
  have HM := Lib.hid hm
  clear hown2 hb2 hm
  go_wp2_with fail
  go_ret
  rw [HM.out] at HO2
  exact ⟨_, _, by rw [HM.out]; rfl, HO2.out, HB2.out⟩
set_option maxRecDepth 100000 in
theorem firstV_any (a : Option Addr) (k c n : Nat) (l : List Vl) (tI : TypeId) (B : Nat) (w : World) (h : OwnV 64 tI w B a k c l) (hn : n ≤ 1048576000) :
    Calls Try.prog 45 #[.slice a k c, .int .i64 n] w (fun e w' => ∃ b m d, e = .returned (.slice b m d) ∧ Vals w' b m (l.take n) ∧ m ≤ d ∧ (d : Int) ≤ 9223372036854775807 ∧ Below w.heap.size w w') := by
  obtain ⟨hs, h1, h2⟩ := h
  refine (firstH_any a k c n hs w (h1.items Vh.enc_len) hn).mono ?_
  rintro e w' ⟨b, d, rfl, ho, hb⟩
  refine ⟨b, _, d, rfl, ?_, ho.room.1, ho.room.2, hb⟩
  refine ⟨by rw [← ho.len, List.length_take, List.length_take, h2.1], by have := ho.room; omega, fun j x hx => ?_⟩
  have hjn : j < n ∧ l[j]? = some x := by
    rw [List.getElem?_take] at hx
    split at hx
    · exact ⟨by assumption, hx⟩
    · cases hx
  have hj : j < hs.length := by rw [h2.1]; exact lt_of_some hjn.2
  have hg := List.getElem?_eq_getElem hj
  obtain ⟨b1, o, g, e1, hg1, hc⟩ := (ho.items Vh.enc_len).at_ (j := j) (by rw [← ho.len, List.length_take]; omega)
  rw [List.getElem?_take, if_pos hjn.1] at hg1
  obtain ⟨en, hO, _⟩ := h2.2.1 j g x hg1 hjn.2
  refine ⟨b1, o, g.p, g.m, g.c, e1, ?_, hc 1 _ rfl, (hO.same hb).nums, (hO.same hb).room⟩
  rw [en]
  simpa using hc 0 _ rfl
end Go.Proofs.Ytjkjnhkamieljaa
