/- What chapter 10's law draws: lists of entries. -/
import Derived.Test.YtjmabidahofbbaaDr
import Derived.Test.YtjmabidahofbbaaDrF0
import Derived.Test.YtjmabidahofbbaaDrBig
import Derived.Test.YtjmabidahofbbaaAsM
import Derived.Shelf.RegionOpenPlain
namespace Go.Proofs.Ytjmabidahofbbaa
open Go.ChangeShapes Go.WideShapes Go.ChangeAt Go.RowKit Go.Sort
set_option linter.unusedVariables false

theorem flat_setE {l : List En} {k i : Nat} {x y : En} {v : Value} (hx : l[k]? = some x) (hi : i < 3) (he : y.enc = x.enc.set i v) : (flatOf En.enc l).set (k * 3 + i) v = flatOf En.enc (l.set k y) := by
  have hk := lt_of_get hx
  have hs : l = l.take k ++ x :: l.drop (k + 1) := by rw [← drop_cons hx, List.take_append_drop]
  have hm : l.set k y = l.take k ++ y :: l.drop (k + 1) := by rw [List.set_eq_take_append_cons_drop, if_pos hk]
  rw [hm]
  conv => lhs; rw [hs]
  rw [flatOf_app, flatOf_app]
  have hl : (flatOf En.enc (l.take k)).length = k * 3 := by rw [flatOf_len En.enc_len, List.length_take]; congr 1; omega
  rw [List.set_append_right _ _ (by omega), hl, show k * 3 + i - k * 3 = i by omega]
  have e1 : flatOf En.enc (x :: l.drop (k + 1)) = x.enc ++ flatOf En.enc (l.drop (k + 1)) := rfl
  have e2 : flatOf En.enc (y :: l.drop (k + 1)) = y.enc ++ flatOf En.enc (l.drop (k + 1)) := rfl
  rw [e1, e2, he, List.set_append_left _ _ (by rw [En.enc_len]; exact hi)]
theorem own_putE {t : TypeId} {w : World} {B g n c k i : Nat} {l : List En} {x y : En} {v : Value} (h : OwnN t w B (some ⟨g, 0, none⟩) n c l) (hx : l[k]? = some x) (hi : i < 3) (he : y.enc = x.enc.set i v) :
    OwnN t (w.setCell ⟨g, k * 3 + i, none⟩ v) B (some ⟨g, 0, none⟩) n c (l.set k y) ∧ w.grownBy (w.setCell ⟨g, k * 3 + i, none⟩ v) (some g) := by
  have hs := h.row.stored (k * 3 + i) v
  rw [flat_setE hx hi he] at hs
  exact ⟨⟨by rw [List.length_set]; exact h.len, hs.1⟩, hs.2⟩
/-- A list of entries of the call's own, twelve at most. -/
def DrewN (b : Nat) (a : Option Addr) (n c : Nat) (w : World) (e : Ending) (w' : World) : Prop :=
  ∃ (q : Option Addr) (m d : Nat) (v : List En), e = .returned (.slice q m d) ∧ OwnN 51 w' w.heap.size q m d v ∧ m ≤ 12 ∧ Drawn b a n c w w'
theorem asgL_12 {l : List En} {v : Int} (h : l.length ≤ 12) : (asgL l v).length ≤ 12 := by
  unfold asgL
  cases ho : asgOk l v with
  | true =>
    have := (asg_parts ho).2.2
    rw [if_pos rfl, insB_len]
    omega
  | false => simpa using h
variable {P : Program}
theorem step_app_run {ops : Array Oper} {o : Oper} {a : Act} {w : World} {K : Act → World → Prop} {Q : Exit → Act → World → Prop} {E : Prop}
    (hg : o.guard = none) (d x : Operand) (dT sT : TypeId) (hop : o.op = Op.call { callee := Callee.builtin Builtin.append, args := #[d, x], argTypes := #[dT, sT] })
    (v u : Value) (hd : a.eval d = v) (hx : a.eval x = u) {v' : Value} {w' : World} (hr : (Builtin.append_ #[dT, sT] o.type #[v, u]).run P w = .ok v' w') (hK : K (a.put o.dst v') w') :
    if Region.wanted o (yielded ops a.tmps) = true then Oper.wp P o a w K Q else E := by
  have hw : Region.wanted o (yielded ops a.tmps) = true := by simp [Region.wanted, hg]
  rw [if_pos hw]
  unfold Oper.wp
  simp [execOp, hop, resolve, invoke, builtin, hd, hx, hr, Result.andThen]
  exact hK
set_option maxHeartbeats 2000000 in
set_option maxRecDepth 100000 in
theorem l10Draw_any (b : Nat) (a : Option Addr) (n c : Nat) (w : World) (hc : Curs w b a n c) :
    Calls Try.prog 88 #[.pointer (some ⟨b, 0, none⟩)] w (DrewN b a n c w) := by
  have HC := Lib.hid hc
  have hblt := hc.lt
  clear hc
  have HD0 : Hid (Drawn b a n c w (w.alloc (.cells #[] 51))) := Lib.hid ((Drawn.refl HC.out).same (alloc_same _ _))
  have HO0 : Hid (OwnN 51 (w.alloc (.cells #[] 51)) w.heap.size (some ⟨w.heap.size, 0, none⟩) 0 0 []) := Lib.hid (ens_empty w 51 (Nat.le_refl _))
  go_enter Try.func88, Try.ntmps88
  go_wp2_with fail
  refine (below_any b a n c 9 (by omega) (by omega) _ HD0.out.1).mono ?_
  rintro e w1 ⟨x, hx0, hx1, rfl, hd1⟩
  obtain ⟨q0, rfl⟩ : ∃ q0 : Nat, x = q0 := ⟨x.toNat, by omega⟩
  have HO1 := Lib.hid (HO0.out.only hd1.2 HO0.out.span (Or.inl hblt))
  have HD1 := Lib.hid (HD0.out.trans hd1)
  clear hd1
  go_wp2_with fail
  go_loopw [3, 4] (fun s i wr => ∃ (r : Nat) (q : Option Addr) (m d : Nat) (v : List En), s = .slice q m d ∧ i = .int .i64 r ∧ r ≤ 9 ∧ m ≤ 12 ∧ OwnN 51 wr w.heap.size q m d v ∧ Drawn b a n c w wr) (fun _ i _ => (intOf i).toNat)
  case atStart => exact ⟨q0, _, _, _, [], rfl, rfl, by omega, by omega, HO1.out, HD1.out⟩
  case round =>
    clear HO0 HD0 HO1 HD1
    obtain ⟨r, q, m, d, v, rfl, rfl, hr9, hm, ho, hd⟩ := hrel
    have HO := Lib.hid ho
    have HD := Lib.hid hd
    have hsz := hd.2.size
    have hrm := ho.room
    clear ho hd
    by_cases hr0 : 0 < r
    · have hri : (0 : Int) < (r : Int) := by omega
      go_wp2_with fail
      refine (below_any b a n c 4 (by omega) (by omega) _ HD.out.1).mono ?_
      rintro e w2 ⟨x, hx0, hx1, rfl, hd2⟩
      have HO2 := Lib.hid (HO.out.only hd2.2 HO.out.span (Or.inl hblt))
      have HD2 := Lib.hid (HD.out.trans hd2)
      have hsz2 := HD2.out.2.size
      clear hd2
      go_wp2_with fail
      refine (specAssignTag_any x (HO2.out.items En.enc_len) (by omega) hrm).mono ?_
      rintro e w3 ⟨q3, m3, d3, rfl, ho3, hb3⟩
      have hm3 : m3 ≤ 12 := by
        have h1 := ho3.len
        have h2 := asgL_12 (v := x) (l := v) (by have := HO.out.len; omega)
        omega
      have HO3 := Lib.hid (ho3.lower hsz2)
      have HD3 := Lib.hid (HD2.out.same hb3)
      clear ho3 hb3
      go_wp2_with fail
      go_roundw
      case rel => exact ⟨r - 1, q3, m3, d3, _, rfl, by first | go_num | (congr 1; omega), by omega, hm3, HO3.out, HD3.out⟩
      case measure => simp [intOf]; omega
    · have hri : ¬ (0 : Int) < (r : Int) := by omega
      by_cases hm0 : 0 < m
      · have hmi : (0 : Int) < (m : Int) := by omega
        go_wp2_with fail
        refine (once_any b a n c 2 (by omega) (by omega) _ HD.out.1).mono ?_
        rintro e w4 ⟨t4, rfl, hd4⟩
        have HO4 := Lib.hid (HO.out.only hd4.2 HO.out.span (Or.inl hblt))
        have HD4 := Lib.hid (HD.out.trans hd4)
        clear hd4
        cases t4 with
        | true =>
          go_wp2_with fail
          refine (below_any b a n c m (by omega) (by omega) _ HD4.out.1).mono ?_
          rintro e w5 ⟨x, hx0, hx1, rfl, hd5⟩
          obtain ⟨k, rfl⟩ : ∃ k : Nat, x = k := ⟨x.toNat, by omega⟩
          have HO5 := Lib.hid (HO4.out.only hd5.2 HO4.out.span (Or.inl hblt))
          have HD5 := Lib.hid (HD4.out.trans hd5)
          clear hd5
          have hkm : k < m := by omega
          obtain ⟨b9, o9, y, e9, hy, hc0, hc1, hc2⟩ := ens_at (HO5.out.items En.enc_len) hkm
          obtain ⟨g9, hq9, hg91, hg92⟩ := HO5.out.head (by omega)
          subst hq9
          cases e9
          rw [Nat.zero_add] at hc2
          have hf := HO5.out.row.frozenAt (k * 3 + 2)
          have hp := own_old HO5.out hy
          have HO6 : Hid (OwnN 51 (w5.setCell ⟨b9, k * 3 + 2, none⟩ (.bool true)) w.heap.size (some ⟨b9, 0, none⟩) m d (v.modify k fun x => ⟨x.tag, x.vend, true⟩)) := Lib.hid hp.1
          have HD6 : Hid (Drawn b a n c w (w5.setCell ⟨b9, k * 3 + 2, none⟩ (.bool true))) := Lib.hid (HD5.out.under HC.out (grown_to (b := some ⟨b9, 0, none⟩) (m := m) (d := d) hp.2 (Below.refl w.heap.size w5) (fun ad e => by cases e; exact ⟨hg91, hg92⟩) (Nat.le_refl _) HD5.out.2.size) (Nat.le_refl _))
          clear hp hy
          by_cases h3 : 2 < m
          · have h3i : (2 : Int) < (m : Int) := by omega
            have hg1 : True := trivial
            clear hg1
            go_wp2_with fail
            refine (once_any b a n c 3 (by omega) (by omega) _ HD6.out.1).mono ?_
            rintro e w7 ⟨t7, rfl, hd7⟩
            have HO7 := Lib.hid (HO6.out.only hd7.2 HO6.out.span (Or.inl hblt))
            have HD7 := Lib.hid (HD6.out.trans hd7)
            have hsz7 := HD7.out.2.size
            clear hd7
            cases t7 with
            | true =>
              obtain ⟨i0, hi, hz0, hz1, hz2⟩ := info_parts infoEntryS
              have hroom := HO7.out.room
              have hne2 : ¬ (d = 2) := by omega
              have h2m : 2 ≤ m := by omega
              have h1m : 1 ≤ d := by omega
              have h1mz : (1 : Int) ≤ (d : Int) := by omega
              have h2mz : (2 : Int) ≤ (m : Int) := by omega
              have h2dz : (2 : Int) ≤ (d : Int) := by omega
              have mixed : Try.prog.follows .mixedOrders = true := by rfl
              obtain ⟨g1, c1, w1a, hr1, ho1, hb1⟩ := run_app_some (P := Try.prog) (w7.drew.alloc (.cells #[] 51)) 38 38 51 i0 (.agg #[.int .i64 0, .int .i64 0, .bool false]) 24 Try.underlying38 hi hz0 hz1 hz2 rfl (d := d) (ens_empty w7.drew 51 (Nat.le_refl w7.heap.size)) (((HO7.out.items En.enc_len).take 1 (by omega)).same ((Below.refl _ w7).drew.alloc (Nat.le_refl _) _)) (by omega) (by unfold maxLen; omega) (by simp)
              have hb7 : Below w7.heap.size w7 w1a := ((Below.refl w7.heap.size w7).drew.alloc (Nat.le_refl _) _).trans hb1
              obtain ⟨g2, c2, w2a, hr2, ho2, hb2⟩ := run_app_some (P := Try.prog) w1a 38 38 51 i0 (.agg #[.int .i64 0, .int .i64 0, .bool false]) 24 Try.underlying38 hi hz0 hz1 hz2 rfl (d := d - 2) ho1 (items_drop (k := 2) ((HO7.out.items En.enc_len).same hb7) (by omega)) (by omega) (by unfold maxLen; omega) hb7.size
              have HF : Hid (OwnN 51 w2a w.heap.size (some ⟨g2, 0, none⟩) (0 + 1 + (m - 2)) c2 ([] ++ (v.modify k fun x => ⟨x.tag, x.vend, true⟩).take 1 ++ (v.modify k fun x => ⟨x.tag, x.vend, true⟩).drop 2) ∧ Drawn b a n c w w2a) := Lib.hid ⟨ho2.lower hsz7, HD7.out.same (hb7.trans hb2)⟩
              clear hi hz0 hz1 hz2 ho1 ho2 hb1 hb2 hb7
              go_wp2_with fail
              go_region_law_o (first | (refine step_app_run rfl _ _ 38 38 rfl (.slice (some ⟨w7.heap.size, 0, none⟩) 0 0) (.slice (some ⟨b9, 0, none⟩) 1 d) (by simp [Act.eval]) (by simp [Act.eval]) hr1 ?_) | (refine step_app_run rfl _ _ 38 38 rfl (.slice (some ⟨g1, 0, none⟩) (0 + 1) c1) (.slice (some ⟨b9, 0 + 2 * 3, none⟩) (m - 2) (d - 2)) (by simp [Act.eval]) (by simp [Act.eval]) hr2 ?_))
              go_wp2_with fail
              go_ret
              exact ⟨_, _, _, _, rfl, HF.out.1, by omega, HF.out.2⟩
            | false =>
              go_wp2_with fail
              go_ret
              exact ⟨_, _, _, _, rfl, HO7.out, by omega, HD7.out⟩
          · have h3i : ¬ (2 : Int) < (m : Int) := by omega
            go_wp2_with fail
            go_ret
            exact ⟨_, _, _, _, rfl, HO6.out, by omega, HD6.out⟩
        | false =>
          by_cases h3 : 2 < m
          · have h3i : (2 : Int) < (m : Int) := by omega
            obtain ⟨g, rfl, hg1, hg2⟩ := HO4.out.head (by omega)
            go_wp2_with fail
            refine (once_any b a n c 3 (by omega) (by omega) _ HD4.out.1).mono ?_
            rintro e w7 ⟨t7, rfl, hd7⟩
            have HO7 := Lib.hid (HO4.out.only hd7.2 HO4.out.span (Or.inl hblt))
            have HD7 := Lib.hid (HD4.out.trans hd7)
            have hsz7 := HD7.out.2.size
            clear hd7
            cases t7 with
            | true =>
              obtain ⟨i0, hi, hz0, hz1, hz2⟩ := info_parts infoEntryS
              have hroom := HO7.out.room
              have hne2 : ¬ (d = 2) := by omega
              have h2m : 2 ≤ m := by omega
              have h1m : 1 ≤ d := by omega
              have h1mz : (1 : Int) ≤ (d : Int) := by omega
              have h2mz : (2 : Int) ≤ (m : Int) := by omega
              have h2dz : (2 : Int) ≤ (d : Int) := by omega
              have mixed : Try.prog.follows .mixedOrders = true := by rfl
              obtain ⟨g1, c1, w1a, hr1, ho1, hb1⟩ := run_app_some (P := Try.prog) (w7.drew.alloc (.cells #[] 51)) 38 38 51 i0 (.agg #[.int .i64 0, .int .i64 0, .bool false]) 24 Try.underlying38 hi hz0 hz1 hz2 rfl (d := d) (ens_empty w7.drew 51 (Nat.le_refl w7.heap.size)) (((HO7.out.items En.enc_len).take 1 (by omega)).same ((Below.refl _ w7).drew.alloc (Nat.le_refl _) _)) (by omega) (by unfold maxLen; omega) (by simp)
              have hb7 : Below w7.heap.size w7 w1a := ((Below.refl w7.heap.size w7).drew.alloc (Nat.le_refl _) _).trans hb1
              obtain ⟨g2, c2, w2a, hr2, ho2, hb2⟩ := run_app_some (P := Try.prog) w1a 38 38 51 i0 (.agg #[.int .i64 0, .int .i64 0, .bool false]) 24 Try.underlying38 hi hz0 hz1 hz2 rfl (d := d - 2) ho1 (items_drop (k := 2) ((HO7.out.items En.enc_len).same hb7) (by omega)) (by omega) (by unfold maxLen; omega) hb7.size
              have HF : Hid (OwnN 51 w2a w.heap.size (some ⟨g2, 0, none⟩) (0 + 1 + (m - 2)) c2 ([] ++ (v).take 1 ++ (v).drop 2) ∧ Drawn b a n c w w2a) := Lib.hid ⟨ho2.lower hsz7, HD7.out.same (hb7.trans hb2)⟩
              clear hi hz0 hz1 hz2 ho1 ho2 hb1 hb2 hb7
              go_wp2_with fail
              go_region_law_o (first | (refine step_app_run rfl _ _ 38 38 rfl (.slice (some ⟨w7.heap.size, 0, none⟩) 0 0) (.slice (some ⟨g, 0, none⟩) 1 d) (by simp [Act.eval]) (by simp [Act.eval]) hr1 ?_) | (refine step_app_run rfl _ _ 38 38 rfl (.slice (some ⟨g1, 0, none⟩) (0 + 1) c1) (.slice (some ⟨g, 0 + 2 * 3, none⟩) (m - 2) (d - 2)) (by simp [Act.eval]) (by simp [Act.eval]) hr2 ?_))
              go_wp2_with fail
              go_ret
              exact ⟨_, _, _, _, rfl, HF.out.1, by omega, HF.out.2⟩
            | false =>
              go_wp2_with fail
              go_ret
              exact ⟨_, _, _, _, rfl, HO7.out, by omega, HD7.out⟩
          · have h3i : ¬ (2 : Int) < (m : Int) := by omega
            go_wp2_with fail
            go_ret
            exact ⟨_, _, _, _, rfl, HO4.out, by omega, HD4.out⟩
      · have hmi : ¬ (0 : Int) < (m : Int) := by omega
        have h3i : ¬ (2 : Int) < (m : Int) := by omega
        go_wp2_with fail
        go_ret
        exact ⟨_, _, _, _, rfl, HO.out, by omega, HD.out⟩

end Go.Proofs.Ytjmabidahofbbaa
