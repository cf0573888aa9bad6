/- The messages that chapter 5's law draws. -/
import Derived.Test.YtdeecjbebkideaaDoorDrV2
import Derived.Deep.RegionHeld3
namespace Go.Proofs.YtdeecjbebkideaaDoor
open Go.ChangeShapes Go.WideShapes Go.ChangeAt Go.RowKit
set_option linter.unusedVariables false
set_option linter.unusedSimpArgs false

set_option maxRecDepth 100000 in
theorem drawFitsFormat_any (a : Option Addr) (n c : Nat) (w : World) (h : Code w a n) :
    Calls Tryd.prog 14 #[.slice a n c] w fun e w' => ∃ (f : Option Addr) (fn fc : Nat) (l : List Fd) (ao : Option Addr) (m co : Nat) (v : List Vl), e = .returned (.tuple #[.slice f fn fc, .slice ao m co]) ∧ Fds w' f fn l ∧ (fn ≤ fc ∧ (fc : Int) ≤ 9223372036854775807) ∧ fn ≤ 7 ∧ Vals w' ao m v ∧ m ≤ 6 ∧ Vok 6 v ∧ Below w.heap.size w w' := by
  have H := Lib.hid h
  clear h
  go_enter Tryd.func14, Tryd.ntmps14
  go_wp2_with fail
  refine (new_any a n c H.out.2 w H.out.1).mono ?_
  rintro e w1 ⟨rfl, hc1, hb1⟩
  have hs1 := hb1.size
  go_wp2_with fail
  refine (anyV_any w.heap.size a n c w1 hc1).mono ?_
  rintro e w2 ⟨f, fn, fc, l, ao, m, co, v, rfl, ho, hn, hfm, hv, hm, hvk, hd⟩
  have HF := Lib.hid (ho.items Fd.enc_len)
  have HR := Lib.hid ho.room
  have HV := Lib.hid hv.vals
  have HVK := Lib.hid hvk
  have HB := Lib.hid (hb1.trans (hd.below (Nat.le_refl _) hs1))
  clear ho hd hc1 hb1 hv hvk hfm
  go_wp2_with fail
  go_ret2
  exact ⟨f, fn, fc, l, ao, m, co, v, rfl, HF.out, HR.out, hn, HV.out, hm, HVK.out, HB.out⟩
section
variable {P : Program} (w : World)
/-- Integers are appended to a slice of the call's own, wherever they lie: what has changed. -/
theorem run_appN {k : IntKind} (t ty e : TypeId) (i : TypeInfo) (z : Value) (bytes : Nat) (ht : P.underlying t = some (.slice e)) (hi : P.info? e = some i) (hz : i.zero = some z) (hsize : i.size = 1) (hby : i.bytes = bytes) (hzs : z.cells.size = 1)
    {B n c m d : Nat} {a b : Option Addr} {l l' : List Int} (ho : Own k e w B a n c l) (hs : Nums k w b m l') (hbytes : (n + m) * bytes ≤ 140737488355328) (h63 : n + m ≤ maxLen) (hB : B ≤ w.heap.size) :
    ∃ a' c' w', (Builtin.append_ #[t, t] ty #[.slice a n c, .slice b m d]).run P w = .ok (.slice a' (n + m) c') w' ∧ Own k e w' B a' (n + m) c' (l ++ l') ∧ w.grownBy w' (Value.ownBlock (.slice a n c)) := by
  rcases b with _ | ad
  · obtain rfl : m = 0 := by
      rcases Nat.eq_zero_or_pos m with h0 | h0
      · exact h0
      · obtain ⟨ad, h, _⟩ := hs.cell 0 h0
        cases h
    obtain rfl : l' = [] := List.eq_nil_of_length_eq_zero hs.len
    exact ⟨a, c, w, run_app_nothing w B t ty e i ht hi ho.2 d, by simpa using ho, grown_below (Below.refl _ _) _⟩
  · obtain ⟨v', w', hr, h2, h3, _, _⟩ := run_append_own_at (P := P) w B t ty e i z 1 bytes ht hi hz hsize hby hzs (by omega) (.slice a n c) n (l.map (Value.int k)) ho.2 ad m d (l'.map (Value.int k)) (by simp [hs.len]) (fun j u hu => by
      have hj : j < m := by
        rcases Nat.lt_or_ge j m with h | h
        · exact h
        · rw [List.getElem?_eq_none (by simp [hs.len]; exact h)] at hu; cases hu
      obtain ⟨ad', e', hx⟩ := hs.cell j hj
      cases e'
      have hl : j < l'.length := by rw [hs.len]; exact hj
      rw [List.getElem?_map, List.getElem?_eq_getElem hl] at hu
      cases hu
      rw [hx]
      simp [List.getD, List.getElem?_eq_getElem hl]) (ints_oneCell k l') h63 hbytes hB
    rw [← List.map_append] at h2
    rcases h2.2 with ⟨rfl, hn⟩ | ⟨g, cap, cur, rfl, hrest⟩
    · exact ⟨none, 0, w', by rw [hn]; exact hr, by rw [hn] at h2 ⊢; exact ⟨by have := h2.1; simpa using this, h2⟩, h3⟩
    · exact ⟨_, cap, w', hr, ⟨by have := ho.len; have := hs.len; simp; omega, h2⟩, h3⟩
theorem step_appN {ops : Array Oper} {o : Oper} {act : Act} {K : Act → World → Prop} {Q : Exit → Act → World → Prop} {E : Prop} (hgd : o.guard = none) (s x : Operand) (t : TypeId)
    (ho : o.op = .call { callee := .builtin .append, args := #[s, x], argTypes := #[t, t] })
    (k : IntKind) (e : TypeId) (i : TypeInfo) (z : Value) (bytes : Nat) (ht : P.underlying t = some (.slice e)) (hi : P.info? e = some i) (hz : i.zero = some z) (hsize : i.size = 1) (hby : i.bytes = bytes) (hzs : z.cells.size = 1)
    {B n c m d : Nat} {a b : Option Addr} {l l' : List Int} (hs : act.eval s = .slice a n c) (hown : Own k e w B a n c l) (hx : act.eval x = .slice b m d) (hnew : Nums k w b m l')
    (hb1 : 0 < bytes) (hbytes : (n + m) * bytes ≤ 140737488355328) (hB : B ≤ w.heap.size)
    (h : ∀ a' c' w', Own k e w' B a' (n + m) c' (l ++ l') → w.grownBy w' (Value.ownBlock (.slice a n c)) → K (act.put o.dst (.slice a' (n + m) c')) w') :
    if Region.wanted o (yielded ops act.tmps) = true then Oper.wp P o act w K Q else E := by
  have hw : Region.wanted o (yielded ops act.tmps) = true := by simp [Region.wanted, hgd]
  rw [if_pos hw]
  have h63 : n + m ≤ maxLen := by
    have := Nat.mul_le_mul_left (n + m) hb1
    unfold maxLen
    omega
  obtain ⟨a', c', w', hr, h2, h3⟩ := run_appN (P := P) (d := d) w t o.type e i z bytes ht hi hz hsize hby hzs hown hnew hbytes h63 hB
  unfold Oper.wp execOp
  simp only [ho, resolve, invoke, builtin, Sem.run_bind, Sem.run_pure, Result.andThen_ok, List.map_toArray, List.map_cons, List.map_nil, hs, hx, hr]
  exact h a' c' w' h2 h3
end
theorem cell_st {w w' : World} {p : Addr} {v : Value} (h : w.cell? p = some v) (hb : Below w.heap.size w w') : w'.cell? p = some v := by rw [hb.cell (cell_in h)]; exact h
/-- What a draw of two messages leaves. -/
def DrewVV (w : World) (e : Ending) (w' : World) : Prop :=
  ∃ (a1 : Option Addr) (m1 c1 : Nat) (v1 : List Vl) (a2 : Option Addr) (m2 c2 : Nat) (v2 : List Vl), e = .returned (.tuple #[.slice a1 m1 c1, .slice a2 m2 c2]) ∧ Vals w' a1 m1 v1 ∧ Vals w' a2 m2 v2 ∧ Below w.heap.size w w'

set_option maxHeartbeats 4000000 in
set_option maxRecDepth 100000 in
theorem drawEqualMessages_any (a : Option Addr) (n c : Nat) (w : World) (h : Code w a n) :
    Calls Tryd.prog 19 #[.slice a n c] w (DrewVV w) := by
  have H := Lib.hid h
  clear h
  obtain ⟨i0, hi, hz0, hz1, hz2⟩ := info_parts infoValueS
  have HI := Lib.hid (And.intro hi (And.intro hz0 (And.intro hz1 hz2)))
  clear hi hz0 hz1 hz2
  obtain ⟨i1, hi, hz0, hz1, hz2⟩ := info_parts infoIntS
  have HJ := Lib.hid (And.intro hi (And.intro hz0 (And.intro hz1 hz2)))
  clear hi hz0 hz1 hz2
  go_enter Tryd.func19, Tryd.ntmps19
  go_wp2_with fail
  refine (new_any a n c H.out.2 w H.out.1).mono ?_
  rintro e w1 ⟨rfl, hc1, hb1⟩
  have hs1 := hb1.size
  have hlt := hc1.lt
  have HB1 := Lib.hid hb1
  clear hb1
  go_wp2_with fail
  refine (anyV_any w.heap.size a n c w1 hc1).mono ?_
  rintro e w2 ⟨f, fn, fc, l, ao, m, co, v, rfl, ho, hn, hfm, hv, hm, hvk, hd⟩
  have HF2 := Lib.hid ho
  have HV2 := Lib.hid hv
  have HD2 := Lib.hid hd
  have HFM := Lib.hid hfm
  have HVK := Lib.hid hvk
  have hs2 := hd.2.size
  clear ho hd hc1 hv hvk hfm
  go_wp2_with fail
  refine (once_any w.heap.size a n c 2 (by omega) (by omega) w2 HD2.out.1).mono ?_
  rintro e w3 ⟨tb, rfl, hd3⟩
  have HF3 := Lib.hid (HF2.out.only hd3.2 HF2.out.span (Or.inl hlt))
  have HV3 := Lib.hid (HV2.out.only hd3.2 hlt)
  have HD3 := Lib.hid (HD2.out.trans hd3)
  have hs3 := hd3.2.size
  clear hd3
  cases tb with
  | true =>
    go_wp2_with fail
    refine (drawV_any w.heap.size a n c f fn fc l w3 HD3.out.1 (HF3.out.items Fd.enc_len) HFM.out hn (fun ad e => by
      have := (HF3.out.span ad e).1
      omega)).mono ?_
    rintro e w4 ⟨a2, c2, v2, rfl, ho4, _, hd4⟩
    have HV4 := Lib.hid (HV3.out.only hd4.2 hlt).vals
    have HW4 := Lib.hid ho4.vals
    have HB4 := Lib.hid (HB1.out.trans ((HD3.out.trans hd4).below (Nat.le_refl _) hs1))
    clear ho4 hd4
    go_wp2_with fail
    go_ret2
    exact ⟨_, _, _, _, _, _, _, _, rfl, HV4.out, HW4.out, HB4.out⟩
  | false =>
    have HVS := Lib.hid HV3.out.vals
    have HBS := Lib.hid (HB1.out.trans (HD3.out.below (Nat.le_refl _) hs1))
    have hsw := HBS.out.size
    go_wp2_with fail
    go_loopw [7, 8] (fun s i wr => ∃ (j : Nat) (ab : Option Addr) (cb : Nat) (u : List Vl), j ≤ m ∧ i = .int .i64 j ∧ s = .slice ab j cb ∧ OwnV 41 3 wr w3.heap.size ab j cb u ∧ Below w3.heap.size w3 wr) (fun _ i _ => m - (intOf i).toNat)
    case atStart => exact ⟨0, _, 0, [], Nat.zero_le _, rfl, rfl, OwnV.empty (Nat.le_refl _), alloc_same _ _⟩
    case round =>
      obtain ⟨j, ab, cb, u, hj, rfl, rfl, hown, hb⟩ := hrel
      have HO := Lib.hid hown.lim
      have HB := Lib.hid hb
      have hwr := hb.size
      clear hown hb
      by_cases hltj : j < m
      · obtain ⟨b1, o1, p1, q1, d1, k1, y1, rfl, hx, hc0, hc1, hN1, hr1⟩ := (HVS.out.same HB.out).at_ hltj
        have hy6 := (HVK.out _ (List.mem_of_getElem? hx)).2
        dsimp only at hy6
        have hyl := hN1.len
        have hltI : (j : Int) < (m : Int) := by omega
        have hbs : b1 < w3.heap.size := by
          obtain ⟨b2, o2, p2, q2, d2, k2, y2, e2, _, h2, _⟩ := HVS.out.at_ hltj
          cases e2
          exact cell_in h2
        have C0 := Lib.hid hc0
        have C1 := Lib.hid hc1
        have HN1 := Lib.hid hN1
        clear hx hc0 hc1 hN1
        go_wp2_with fail
        have HBd : Hid (Below wr.heap.size wr wr.drew) := Lib.hid (Below.refl _ _).drew
        refine wp_region_held_drew (S := (fun w' => w'.cell? ⟨b1, o1 + j * 2, none⟩ = some (.int .i64 k1) ∧ w'.cell? ⟨b1, o1 + j * 2 + 1, none⟩ = some (.slice p1 q1 d1))) (by kernel_rfl) ⟨cell_st C0.out HBd.out, cell_st C1.out HBd.out⟩ (fun hHeld => ?_)
        refine wpAnyH_take (i := 0) (v := ?v1) (by simp only [List.getElem?_toArray, List.getElem?_cons_succ, List.getElem?_cons_zero]; rfl) (by kernel_rfl) (by kernel_rfl) (by kernel_rfl) (by exact fun _ _ _ h => h) (Or.inl ⟨by rfl, fun w9 hS9 => ?hy1⟩) hHeld ?rest1
        case hy1 =>
          dsimp only at hS9
          obtain ⟨s0, s1⟩ := hS9
          go_simp
          try with_reducible rfl
        try simp only [Act.put, List.setIfInBounds_toArray, List.set_cons_zero, List.set_cons_succ]
        refine wpAnyH_take (i := 1) (v := ?v2) (by simp only [List.getElem?_toArray, List.getElem?_cons_succ, List.getElem?_cons_zero]; rfl) (by kernel_rfl) (by kernel_rfl) (by kernel_rfl) (by exact fun _ _ _ h => h) (Or.inl ⟨by rfl, fun w9 hS9 => ?hy2⟩) hHeld ?rest2
        case hy2 =>
          dsimp only at hS9
          obtain ⟨s0, s1⟩ := hS9
          go_simp
          try with_reducible rfl
        try simp only [Act.put, List.setIfInBounds_toArray, List.set_cons_zero, List.set_cons_succ]
        refine wpAnyH_take (i := 2) (v := ?v3) (by simp only [List.getElem?_toArray, List.getElem?_cons_succ, List.getElem?_cons_zero]; rfl) (by kernel_rfl) (by kernel_rfl) (by kernel_rfl) (by exact fun _ _ _ h => h) (Or.inl ⟨by rfl, fun w9 hS9 => ?hy3⟩) hHeld ?rest3
        case hy3 =>
          dsimp only at hS9
          obtain ⟨s0, s1⟩ := hS9
          go_simp
          try with_reducible rfl
        try simp only [Act.put, List.setIfInBounds_toArray, List.set_cons_zero, List.set_cons_succ]
        refine wpAnyH_take (i := 3) (v := ?v4) (by simp only [List.getElem?_toArray, List.getElem?_cons_succ, List.getElem?_cons_zero]; rfl) (by kernel_rfl) (by kernel_rfl) (by kernel_rfl) (by exact fun _ _ _ h => h) (Or.inl ⟨by rfl, fun w9 hS9 => ?hy4⟩) hHeld ?rest4
        case hy4 =>
          dsimp only at hS9
          obtain ⟨s0, s1⟩ := hS9
          go_simp
          try with_reducible rfl
        try simp only [Act.put, List.setIfInBounds_toArray, List.set_cons_zero, List.set_cons_succ]
        refine wpAnyH_take (i := 4) (v := ?v5) (by simp only [List.getElem?_toArray, List.getElem?_cons_succ, List.getElem?_cons_zero]; rfl) (by kernel_rfl) (by kernel_rfl) (by kernel_rfl) (by exact fun _ _ _ h => h) (Or.inl ⟨by rfl, fun w9 hS9 => ?hy5⟩) hHeld ?rest5
        case hy5 =>
          dsimp only at hS9
          obtain ⟨s0, s1⟩ := hS9
          go_simp
          try with_reducible rfl
        try simp only [Act.put, List.setIfInBounds_toArray, List.set_cons_zero, List.set_cons_succ]
        refine wpAnyH_take (i := 5) (v := ?v6) (by simp only [List.getElem?_toArray, List.getElem?_cons_succ, List.getElem?_cons_zero]; rfl) (by kernel_rfl) (by kernel_rfl) (by kernel_rfl) (by exact fun _ _ _ h => h) (Or.inl ⟨by rfl, fun w9 hS9 => ?hy6⟩) hHeld ?rest6
        case hy6 =>
          dsimp only at hS9
          obtain ⟨s0, s1⟩ := hS9
          go_simp
          try with_reducible rfl
        try simp only [Act.put, List.setIfInBounds_toArray, List.set_cons_zero, List.set_cons_succ]
        refine wpAnyH_take (i := 7) (v := ?v7) (by simp only [List.getElem?_toArray, List.getElem?_cons_succ, List.getElem?_cons_zero]; rfl) (by kernel_rfl) (by kernel_rfl) (by kernel_rfl) (by exact fun _ _ _ h => h) (Or.inl ⟨by rfl, fun w9 hS9 => ?hy7⟩) hHeld ?rest7
        case hy7 =>
          dsimp only at hS9
          obtain ⟨s0, s1⟩ := hS9
          go_simp
          try with_reducible rfl
        try simp only [Act.put, List.setIfInBounds_toArray, List.set_cons_zero, List.set_cons_succ]
        refine wpAnyH_take (i := 8) (v := ?v8) (by simp only [List.getElem?_toArray, List.getElem?_cons_succ, List.getElem?_cons_zero]; rfl) (by kernel_rfl) (by kernel_rfl) (by kernel_rfl) (by exact fun _ _ _ h => h) (Or.inl ⟨by rfl, fun w9 hS9 => ?hy8⟩) hHeld ?rest8
        case hy8 =>
          dsimp only at hS9
          obtain ⟨s0, s1⟩ := hS9
          go_simp
          try with_reducible rfl
        try simp only [Act.put, List.setIfInBounds_toArray, List.set_cons_zero, List.set_cons_succ]
        refine wpAnyH_take (i := 9) (v := ?v9) (by simp only [List.getElem?_toArray, List.getElem?_cons_succ, List.getElem?_cons_zero]; rfl) (by kernel_rfl) (by kernel_rfl) (by kernel_rfl) (by exact fun _ _ _ h => h) (Or.inl ⟨by rfl, fun w9 hS9 => ?hy9⟩) hHeld ?rest9
        case hy9 =>
          dsimp only at hS9
          obtain ⟨s0, s1⟩ := hS9
          go_simp
          try with_reducible rfl
        try simp only [Act.put, List.setIfInBounds_toArray, List.set_cons_zero, List.set_cons_succ]
        refine wpAnyH_take (i := 10) (v := ?v10) (by simp only [List.getElem?_toArray, List.getElem?_cons_succ, List.getElem?_cons_zero]; rfl) (by kernel_rfl) (by kernel_rfl) (by kernel_rfl) (by exact fun _ _ _ h => h) (Or.inl ⟨by rfl, fun w9 hS9 => ?hy10⟩) hHeld ?rest10
        case hy10 =>
          dsimp only at hS9
          obtain ⟨s0, s1⟩ := hS9
          go_simp
          try with_reducible rfl
        try simp only [Act.put, List.setIfInBounds_toArray, List.set_cons_zero, List.set_cons_succ]
        refine wpAnyH_take (i := 11) (v := ?v11) (by simp only [List.getElem?_toArray, List.getElem?_cons_succ, List.getElem?_cons_zero]; rfl) (by kernel_rfl) (by kernel_rfl) (by kernel_rfl) (by exact fun _ _ _ h => h) (Or.inl ⟨by rfl, fun w9 hS9 => ?hy11⟩) hHeld ?rest11
        case hy11 =>
          dsimp only at hS9
          obtain ⟨s0, s1⟩ := hS9
          go_simp
          try with_reducible rfl
        try simp only [Act.put, List.setIfInBounds_toArray, List.set_cons_zero, List.set_cons_succ]
        refine wpAnyH_ready (rs := [6]) (by kernel_rfl) (by simp) (AllReadyH.cons (by simp only [List.getElem?_toArray, List.getElem?_cons_succ, List.getElem?_cons_zero]; rfl) (fun K hK => ?_) AllReadyH.nil)
        have HX1 : Hid (Below wr.heap.size wr (wr.alloc (.cells #[] 3)).drew) := Lib.hid ((Below.refl _ wr).alloc (Nat.le_refl _) _).drew
        have O1 : Own .i64 3 (wr.alloc (.cells #[] 3)).drew wr.heap.size (some ⟨wr.heap.size, 0, none⟩) 0 0 [] := Own.empty (Nat.le_refl _)
        have HO1 := Lib.hid O1
        have HV1 := Lib.hid (HO.out.same HX1.out)
        clear O1
        go_simp
        refine hK.out _ _ ⟨cell_st C0.out HX1.out, cell_st C1.out HX1.out⟩ (fun hHeld => ?_)
        clear hK K
        try simp only [Act.put, List.setIfInBounds_toArray, List.set_cons_zero, List.set_cons_succ]
        refine wpAnyH_ready (rs := [12]) (by kernel_rfl) (by simp) (AllReadyH.cons (by simp only [List.getElem?_toArray, List.getElem?_cons_succ, List.getElem?_cons_zero]; rfl) (fun K hK => ?_) AllReadyH.nil)
        refine step_appN _ (by rfl) (.tmp 35) (.tmp 40) 27 (by rfl) .i64 3 i1 (.int .i64 0) 8 Tryd.underlying27 HJ.out.1 HJ.out.2.1 HJ.out.2.2.1 HJ.out.2.2.2 rfl (by rfl) HO1.out (by rfl) (HN1.out.same HX1.out) (by omega) (by omega) HX1.out.size ?_
        intro p2 d2 x2 ho2 hg2
        rw [Nat.zero_add] at ho2
        have HX2 := Lib.hid (HX1.out.grown hg2 HX1.out.size (fun r e => by simp only [Value.ownBlock, Option.some.injEq] at e; omega))
        have HO2 := Lib.hid ho2
        have HV2b := Lib.hid (HV1.out.far hg2 (fun r e => by simp only [Value.ownBlock, Option.some.injEq] at e; exact Or.inr (by omega)))
        clear ho2 hg2
        rw [Nat.zero_add]
        refine hK.out _ _ ⟨cell_st C0.out HX2.out, cell_st C1.out HX2.out⟩ (fun hHeld => ?_)
        clear hK K
        try simp only [Act.put, List.setIfInBounds_toArray, List.set_cons_zero, List.set_cons_succ]
        refine wpAnyH_take (i := 13) (v := ?v12) (by simp only [List.getElem?_toArray, List.getElem?_cons_succ, List.getElem?_cons_zero]; rfl) (by kernel_rfl) (by kernel_rfl) (by kernel_rfl) (by exact fun _ _ _ h => h) (Or.inl ⟨by rfl, fun w9 hS9 => ?hy12⟩) hHeld ?rest12
        case hy12 =>
          dsimp only at hS9
          obtain ⟨s0, s1⟩ := hS9
          go_simp
          try with_reducible rfl
        try simp only [Act.put, List.setIfInBounds_toArray, List.set_cons_zero, List.set_cons_succ]
        refine wpAnyH_ready (rs := [14]) (by kernel_rfl) (by simp) (AllReadyH.cons (by simp only [List.getElem?_toArray, List.getElem?_cons_succ, List.getElem?_cons_zero]; rfl) (fun K hK => ?_) AllReadyH.nil)
        have HX3 := Lib.hid (HX2.out.alloc HX2.out.size (.cells #[.int .i64 k1, .slice p2 q1 d2] 41))
        have HN3 := Lib.hid (items_new Vh.enc_len x2 ⟨k1, p2, q1, d2⟩ 41)
        have HV3b := Lib.hid (HV2b.out.same (alloc_same x2 (.cells #[.int .i64 k1, .slice p2 q1 d2] 41)))
        have HO3 := Lib.hid (HO2.out.alloc (.cells #[.int .i64 k1, .slice p2 q1 d2] 41))
        go_simp
        refine hK.out _ _ ⟨cell_st C0.out HX3.out, cell_st C1.out HX3.out⟩ (fun hHeld => ?_)
        clear hK K
        try simp only [Act.put, List.setIfInBounds_toArray, List.set_cons_zero, List.set_cons_succ]
        refine wpAnyH_ready (rs := [15]) (by kernel_rfl) (by simp) (AllReadyH.cons (by simp only [List.getElem?_toArray, List.getElem?_cons_succ, List.getElem?_cons_zero]; rfl) (fun K hK => ?_) AllReadyH.nil)
        refine step_appV _ (by rfl) (.tmp 29) (.tmp 43) 35 (by rfl) 41 3 i0 (.agg #[.int .i64 0, .slice none 0 0]) 32 Tryd.underlying35 HI.out.1 HI.out.2.1 HI.out.2.2.1 HI.out.2.2.2 rfl (by rfl) HV3b.out (by rfl) HN3.out (HO3.out.lower hwr) (fun ad e => (HO2.out.span ad e).1) (by omega) (by omega) (Nat.le_trans hwr HX3.out.size) ?_
        intro a5 c5 w5 ho5 hb5
        have HO5 := Lib.hid ho5
        have HB5 := Lib.hid ((HB.out.trans (HX3.out.mono hwr)).trans hb5)
        clear ho5
        have HS5 : w5.cell? ⟨b1, o1 + j * 2, none⟩ = some (.int .i64 k1) ∧ w5.cell? ⟨b1, o1 + j * 2 + 1, none⟩ = some (.slice p1 q1 d1) := by
          rw [hb5.cell (by dsimp only; exact hbs), hb5.cell (by dsimp only; exact hbs)]
          exact ⟨cell_st C0.out HX3.out, cell_st C1.out HX3.out⟩
        clear hb5
        refine hK.out _ _ HS5 (fun hHeld => ?_)
        clear hK K HS5
        try simp only [Act.put, List.setIfInBounds_toArray, List.set_cons_zero, List.set_cons_succ]
        refine wpAnyH_take (i := 16) (v := ?v13) (by simp only [List.getElem?_toArray, List.getElem?_cons_succ, List.getElem?_cons_zero]; rfl) (by kernel_rfl) (by kernel_rfl) (by kernel_rfl) (by exact fun _ _ _ h => h) (Or.inl ⟨by rfl, fun w9 hS9 => ?hy13⟩) hHeld ?rest13
        case hy13 =>
          dsimp only at hS9
          obtain ⟨s0, s1⟩ := hS9
          go_simp
          try with_reducible rfl
        try simp only [Act.put, List.setIfInBounds_toArray, List.set_cons_zero, List.set_cons_succ]
        refine wpAnyH_done (by kernel_rfl) ?_ _
        go_wp2_with fail
        go_roundw
        case rel => exact ⟨j + 1, a5, c5, _, by omega, by go_num, rfl, HO5.out, HB5.out⟩
        case measure => simp [intOf]; omega
      · obtain rfl : j = m := by omega
        have HVF := Lib.hid (HVS.out.same HB.out)
        have HVO := Lib.hid HO.out.ownV.vals
        have HBF := Lib.hid (HBS.out.trans (HB.out.mono hsw))
        go_wp2_with fail
        go_ret2
        exact ⟨_, _, _, _, _, _, _, _, rfl, HVF.out, HVO.out, HBF.out⟩
end Go.Proofs.YtdeecjbebkideaaDoor
