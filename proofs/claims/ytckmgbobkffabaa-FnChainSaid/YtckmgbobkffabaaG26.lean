/- A number put into an ascending list, by the model. The numbers of the moves from a state, by the model. -/
import Derived.Test.YtckmgbobkffabaaG6
import Derived.Test.YtckmgbobkffabaaG1
import Derived.Test.YtckmgbobkffabaaG3
import Derived.Deep.RegionHeld3
import Derived.Test.YtckmgbobkffabaaG11
import Derived.Test.YtckmgbobkffabaaG12
import Derived.Handy
namespace Go.Proofs.Ytckmgbobkffabaa
open Go.ChangeShapes Go.WideShapes Go.ChangeAt Go.RowKit
set_option linter.unusedVariables false
set_option linter.unusedSimpArgs false

section
variable {P : Program}
/-- Integers are appended to a slice of the call's own: where it lies alone anything has changed. -/
theorem run_app2 (w : World) {k : IntKind} (t ty e : TypeId) (i : TypeInfo) (z : Value) (bytes : Nat) (ht : P.underlying t = some (.slice e)) (hi : P.info? e = some i) (hz : i.zero = some z) (hsize : i.size = 1) (hby : i.bytes = bytes) (hzs : z.cells.size = 1)
  {B n c m d : Nat} {a b : Option Addr} {l l' : List Int} (ho : Own k e w B a n c l) (hs : Nums k w b m l') (hbytes : (n + m) * bytes ≤ 140737488355328) (h63 : n + m ≤ maxLen) (hB : B ≤ w.heap.size) :
  ∃ a' c' w', (Builtin.append_ #[t, t] ty #[.slice a n c, .slice b m d]).run P w = .ok (.slice a' (n + m) c') w' ∧ Own k e w' B a' (n + m) c' (l ++ l') ∧ w.grownBy w' (Value.ownBlock (.slice a n c)) := by
 have hsp := ho.span
 rcases b with _ | ad
 ·obtain rfl : m = 0 := by
   rcases Nat.eq_zero_or_pos m with h0 | h0
   ·exact h0
   ·obtain ⟨ad, h, _⟩ := hs.cell 0 h0
    cases h
  obtain rfl : l' = [] := List.eq_nil_of_length_eq_zero hs.len
  exact ⟨a, c, w, run_app_nothing w B t ty e i ht hi ho.2 d, by simpa using ho, grown_below (Below.refl _ _) _⟩
 ·obtain ⟨v', w', hr, h2, h3, _, _⟩ := run_append_own_at (P := P) w B t ty e i z 1 bytes ht hi hz hsize hby hzs (by omega) (.slice a n c) n (l.map (Value.int k)) ho.2 ad m d (l'.map (Value.int k)) (by simp [hs.len]) (fun j u hu => by
   have hj : j < m := by
    rcases Nat.lt_or_ge j m with h | h
    ·exact h
    ·rw [List.getElem?_eq_none (by simp [hs.len]; exact h)] at hu; cases hu
   obtain ⟨ad', e', hx⟩ := hs.cell j hj
   cases e'
   have hl : j < l'.length := by rw [hs.len]; exact hj
   rw [List.getElem?_map, List.getElem?_eq_getElem hl] at hu
   cases hu
   rw [hx]
   simp [List.getD, List.getElem?_eq_getElem hl]) (ints_oneCell k l') h63 hbytes hB
  rw [← List.map_append] at h2
  rcases h2.2 with ⟨rfl, hn⟩ | ⟨g, cap, cur, rfl, hrest⟩
  ·exact ⟨none, 0, w', by rw [hn]; exact hr, by rw [hn] at h2 ⊢; exact ⟨by have := h2.1; simpa using this, h2⟩, h3⟩
  ·exact ⟨_, cap, w', hr, ⟨by have := ho.len; have := hs.len; simp; omega, h2⟩, h3⟩
/-- An append of integers onto a slice of the call's own, at a step of a region that draws its order. -/
theorem step_app2 (w : World) {ops : Array Oper} {o : Oper} {act : Act} {K : Act → World → Prop} {Q : Exit → Act → World → Prop} {E : Prop} (hgd : o.guard = none) (s x : Operand) (t : TypeId)
  (ho : o.op = .call { callee := .builtin .append, args := #[s, x], argTypes := #[t, t] })
  (k : IntKind) (e : TypeId) (i : TypeInfo) (z : Value) (bytes : Nat) (ht : P.underlying t = some (.slice e)) (hi : P.info? e = some i) (hz : i.zero = some z) (hsize : i.size = 1) (hby : i.bytes = bytes) (hzs : z.cells.size = 1)
  {B n c m d : Nat} {a b : Option Addr} {l l' : List Int} (hs : act.eval s = .slice a n c) (hown : Own k e w B a n c l) (hx : act.eval x = .slice b m d) (hnew : Nums k w b m l')
  (hb1 : 0 < bytes) (hbytes : (n + m) * bytes ≤ 140737488355328) (hB : B ≤ w.heap.size)
  (h : ∀ a' c' w', Own k e w' B a' (n + m) c' (l ++ l') → w.grownBy w' (Value.ownBlock (.slice a n c)) → K (act.put o.dst (.slice a' (n + m) c')) w') :
  if Region.wanted o (yielded ops act.tmps) = true then Oper.wp P o act w K Q else E := by
 have hw : Region.wanted o (yielded ops act.tmps) = true := by simp [Region.wanted, hgd]
 rw [if_pos hw]
 have h63 : n + m ≤ maxLen := by
  have := Nat.mul_le_mul_left (n + m) hb1
  unfold maxLen
  omega
 obtain ⟨a', c', w', hr, h2, h3⟩ := run_app2 (P := P) (d := d) w t o.type e i z bytes ht hi hz hsize hby hzs hown hnew hbytes h63 hB
 unfold Oper.wp execOp
 simp only [ho, resolve, invoke, builtin, Sem.run_bind, Sem.run_pure, Result.andThen_ok, List.map_toArray, List.map_cons, List.map_nil, hs, hx, hr]
 exact h a' c' w' h2 h3
end
/-- What lies in other blocks than the one that was written to. -/
theorem nums_far {k : IntKind} {w w' : World} {g : Nat} {n : Nat} {l : List Int} {r : Option Nat} (h : Nums k w (some ⟨g, 0, none⟩) n l) (hg : w.grownBy w' r) (hne : r ≠ some g) : Nums k w' (some ⟨g, 0, none⟩) n l :=
 ⟨h.len, h.fits, fun j hj => by
  obtain ⟨ad, e, hx⟩ := h.cell j hj
  cases e
  refine ⟨_, rfl, ?_⟩
  have hlt := cell_in hx
  have hb : ((⟨g, 0, none⟩ : Addr).add j).block = g := addr_block _ _
  rw [← hx]
  unfold World.cell?
  rw [hg.block _ hlt (by rw [hb]; exact fun e => hne e.symm)]⟩

theorem nums_head {w : World} {g n : Nat} {l : List Int} (h : Nums .i64 w (some ⟨g, 0, none⟩) n l) {j : Nat} (hj : j ≤ n) : Nums .i64 w (some ⟨g, 0, none⟩) j (l.take j) := by
 have := h.sub 0 j (by omega) (b := some ⟨g, 0, none⟩) (fun _ ad e => by cases e; rfl)
 simpa using this
theorem nums_tail {w : World} {g n : Nat} {l : List Int} (c : Nat) (h : Nums .i64 w (some ⟨g, 0, none⟩) n l) {j : Nat} (hj : j ≤ n) (hc : n ≤ c) : Nums .i64 w (if c = j then some ⟨g, 0, none⟩ else some ⟨g, j, none⟩) (n - j) (l.drop j) := by
 have := h.sub j (n - j) (by omega) (b := if c = j then some ⟨g, 0, none⟩ else some ⟨g, j, none⟩) (fun h0 ad e => by
  cases e
  rw [if_neg (by omega), addr_zero])
 rw [List.take_of_length_le (by rw [List.length_drop, h.len]; omega)] at this
 exact this

theorem nums_tail0 {w : World} {g n : Nat} {l : List Int} (c : Nat) (h : Nums .i64 w (some ⟨g, 0, none⟩) n l) (hc : n ≤ c) : Nums .i64 w (if c = n then some ⟨g, 0, none⟩ else some ⟨g, n, none⟩) 0 [] := by
 have := nums_tail c h (Nat.le_refl n) hc
 rw [Nat.sub_self, List.drop_eq_nil_of_le (by rw [h.len]; exact Nat.le_refl _)] at this
 exact this

set_option maxHeartbeats 4000000 in
set_option maxRecDepth 100000 in
theorem specPut_any (g n c : Nat) (l : List Int) (x : Int) (w : World) (h : Nums .i64 w (some ⟨g, 0, none⟩) n l) (hc : n ≤ c ∧ (c : Int) ≤ 9223372036854775807) (hn : n ≤ 1000000000) :
  Calls Try.prog 90 #[.slice (some ⟨g, 0, none⟩) n c, .int .i64 x] w (Made .i64 3 w.heap.size (putL l x) w) := by
 have H := Lib.hid h
 have hl := Lib.hid h.len
 clear h
 obtain ⟨i0, hi, hz0, hz1, hz2⟩ := info_parts infoIntS
 have HI := Lib.hid (And.intro hi (And.intro hz0 (And.intro hz1 hz2)))
 clear hi hz0 hz1 hz2
 go_enter Try.func90, Try.ntmps90
 go_wp2_with fail
 go_loop [5] (fun i => ∃ j : Nat, j ≤ n ∧ i = .int .i64 j ∧ ∀ y ∈ l.take j, y < x) (fun i => n - (intOf i).toNat)
 case atStart => exact ⟨0, Nat.zero_le _, rfl, by simp⟩
 case round =>
  obtain ⟨j, hj, rfl, hlow⟩ := hrel
  have HL := Lib.hid hlow
  clear hlow
  by_cases hlt : j < n
  ·obtain ⟨ad, y, had, hy, hcell⟩ := H.out.at_ hlt
   cases had
   rw [addr_zero] at hcell
   have HY := Lib.hid hy
   clear hy
   by_cases q : y < x
   ·have e1 : decide (y < x) = true := decide_eq_true q
    go_wp2_with fail
    go_round
    case rel =>
     refine ⟨j + 1, by omega, by go_num, fun z hz => ?_⟩
     rw [List.take_add_one, HY.out] at hz
     rcases List.mem_append.1 hz with hz | hz
     ·exact HL.out z hz
     ·have : z = y := by simpa using hz
      omega
    case measure => simp [intOf]; omega
   ·have e1 : decide (y < x) = false := decide_eq_false q
    by_cases q2 : y = x
    ·subst q2
     have HP := Lib.hid (putL_there HL.out HY.out)
     go_wp2_with (at_builtin; refine wpl_app _ rfl (.tmp 32) (.tmp 33) 31 rfl .i64 3 i0 (.int .i64 0) 8 Try.underlying31 HI.out.1 HI.out.2.1 HI.out.2.2.1 HI.out.2.2.2 rfl rfl (Own.empty (Nat.le_refl _)) rfl (H.out.same (alloc_same _ _)) (by omega) ?c1 ?c2 ?_)
     case c1 => omega
     intro a' c' w' ho hb
     have HO := Lib.hid ho
     have HB := Lib.hid hb
     clear ho hb
     go_wp2
     go_ret
     refine ⟨a', _, c', rfl, ?_, ((Below.refl _ w).alloc (Nat.le_refl _) _).trans HB.out⟩
     rw [HP.out]
     simpa using HO.out
    ·have e2 : (y == x) = false := by simpa using q2
     go_wp2_with fail
     have HP : Hid (putL l x = l.take j ++ x :: l.drop j) := Lib.hid (putL_new HL.out (fun z hz => by have e := HY.out; rw [hz] at e; cases e; omega))
     have hjc : j ≤ c := by omega
     have hjc2 : (j : Int) ≤ (c : Int) := by omega
     have hjn : j ≤ n := by omega
     refine wp_region_held_drew (S := fun w' => Nums .i64 w' (some ⟨g, 0, none⟩) n l) (by kernel_rfl) (H.out.same (Below.refl _ _).drew) (fun hHeld => ?_)
     refine wpAnyH_take (i := 1) (v := ?v1) (by simp only [get9]; rfl) (by kernel_rfl) (by kernel_rfl) (by kernel_rfl) (by exact fun _ _ _ h => h) (Or.inl ⟨by rfl, fun w9 hS9 => ?hy1⟩) hHeld ?rest1
     case hy1 =>
      clear hS9
      go_simp
      try with_reducible rfl
     try simp only [Act.put, set9]
     refine wpAnyH_take (i := 2) (v := ?v2) (by simp only [get9]; rfl) (by kernel_rfl) (by kernel_rfl) (by kernel_rfl) (by exact fun _ _ _ h => h) (Or.inl ⟨by rfl, fun w9 hS9 => ?hy2⟩) hHeld ?rest2
     case hy2 =>
      clear hS9
      go_simp
      try with_reducible rfl
     try simp only [Act.put, set9]
     refine wpAnyH_take (i := 3) (v := ?v3) (by simp only [get9]; rfl) (by kernel_rfl) (by kernel_rfl) (by kernel_rfl) (by exact fun _ _ _ h => h) (Or.inl ⟨by rfl, fun w9 hS9 => ?hy3⟩) hHeld ?rest3
     case hy3 =>
      clear hS9
      go_simp
      try with_reducible rfl
     try simp only [Act.put, set9]
     refine wpAnyH_take (i := 5) (v := ?v4) (by simp only [get9]; rfl) (by kernel_rfl) (by kernel_rfl) (by kernel_rfl) (by exact fun _ _ _ h => h) (Or.inl ⟨by rfl, fun w9 hS9 => ?hy4⟩) hHeld ?rest4
     case hy4 =>
      clear hS9
      go_simp
      try with_reducible rfl
     try simp only [Act.put, set9]
     refine wpAnyH_take (i := 8) (v := ?v5) (by simp only [get9]; rfl) (by kernel_rfl) (by kernel_rfl) (by kernel_rfl) (by exact fun _ _ _ h => h) (Or.inl ⟨by rfl, fun w9 hS9 => ?hy5⟩) hHeld ?rest5
     case hy5 =>
      clear hS9
      go_simp
      try with_reducible rfl
     try simp only [Act.put, set9]
     refine wpAnyH_take (i := 9) (v := ?v6) (by simp only [get9]; rfl) (by kernel_rfl) (by kernel_rfl) (by kernel_rfl) (by exact fun _ _ _ h => h) (Or.inl ⟨by rfl, fun w9 hS9 => ?hy6⟩) hHeld ?rest6
     case hy6 =>
      clear hS9
      go_simp
      try with_reducible rfl
     try simp only [Act.put, set9]
     refine wpAnyH_take (i := 10) (v := ?v7) (by simp only [get9]; rfl) (by kernel_rfl) (by kernel_rfl) (by kernel_rfl) (by exact fun _ _ _ h => h) (Or.inl ⟨by rfl, fun w9 hS9 => ?hy7⟩) hHeld ?rest7
     case hy7 =>
      clear hS9
      go_simp
      try with_reducible rfl
     try simp only [Act.put, set9]
     refine wpAnyH_ready (rs := [0, 6]) (by kernel_rfl) (by simp) (AllReadyH.cons (by simp only [get9]; rfl) (fun K hK => ?_) (AllReadyH.cons (by simp only [get9]; rfl) (fun K hK => ?_) AllReadyH.nil))
     ·have HB1 : Hid (Below w.heap.size w (w.alloc (.cells #[] 3)).drew) := Lib.hid ((Below.refl _ w).alloc (Nat.le_refl _) _).drew
      have O1 : Own .i64 3 (w.alloc (.cells #[] 3)).drew w.heap.size (some ⟨w.heap.size, 0, none⟩) 0 0 [] := Own.empty (Nat.le_refl _)
      go_simp
      refine hK.out _ _ (H.out.same HB1.out) (fun hHeld => ?_)
      clear hK K
      try simp only [Act.put, set9]
      refine wpAnyH_ready (rs := [4, 6]) (by kernel_rfl) (by simp) (AllReadyH.cons (by simp only [get9]; rfl) (fun K hK => ?_) (AllReadyH.cons (by simp only [get9]; rfl) (fun K hK => ?_) AllReadyH.nil))
      ·skip
       refine step_app2 _ (by rfl) (.tmp 35) (.tmp 38) 31 (by rfl) .i64 3 i0 (.int .i64 0) 8 Try.underlying31 HI.out.1 HI.out.2.1 HI.out.2.2.1 HI.out.2.2.2 rfl (by rfl) O1 (by rfl) (nums_head hHeld hjn) (by omega) (by omega) HB1.out.size ?_
       intro a2 c2 w2 ho2 hg2
       rw [Nat.zero_add] at ho2
       have HB2 := Lib.hid (grown_to hg2 HB1.out (Own.span O1) (Nat.le_refl _) HB1.out.size)
       refine hK.out _ _ (H.out.same HB2.out) (fun hHeld => ?_)
       clear hK K
       try simp only [Act.put, set9]
       refine wpAnyH_ready (rs := [6]) (by kernel_rfl) (by simp) (AllReadyH.cons (by simp only [get9]; rfl) (fun K hK => ?_) AllReadyH.nil)
       have HB3 : Hid (Below w.heap.size w (w2.alloc (.cells #[.int .i64 x] 3))) := Lib.hid (HB2.out.alloc HB2.out.size _)
       have O3 := ho2.alloc (.cells #[.int .i64 x] 3)
       have N3 := nums_new w2 .i64 x 3
       go_simp
       refine hK.out _ _ (H.out.same HB3.out) (fun hHeld => ?_)
       clear hK K
       try simp only [Act.put, set9]
       refine wpAnyH_ready (rs := [7]) (by kernel_rfl) (by simp) (AllReadyH.cons (by simp only [get9]; rfl) (fun K hK => ?_) AllReadyH.nil)
       refine step_app2 _ (by rfl) (.tmp 39) (.tmp 41) 31 (by rfl) .i64 3 i0 (.int .i64 0) 8 Try.underlying31 HI.out.1 HI.out.2.1 HI.out.2.2.1 HI.out.2.2.2 rfl (by rfl) O3 (by rfl) N3 (by omega) (by omega) HB3.out.size ?_
       intro a5 c5 w5 ho5 hg5
       skip
       have HB5 := Lib.hid (grown_to hg5 HB3.out (Own.span O3) (Nat.le_refl _) HB3.out.size)
       refine hK.out _ _ (H.out.same HB5.out) (fun hHeld => ?_)
       clear hK K
       try simp only [Act.put, set9]
       refine wpAnyH_ready (rs := [11]) (by kernel_rfl) (by simp) (AllReadyH.cons (by simp only [get9]; rfl) (fun K hK => ?_) AllReadyH.nil)
       refine step_app2 _ (by rfl) (.tmp 42) (.tmp 45) 31 (by rfl) .i64 3 i0 (.int .i64 0) 8 Try.underlying31 HI.out.1 HI.out.2.1 HI.out.2.2.1 HI.out.2.2.2 rfl (by rfl) ho5 (by rfl) (nums_tail c hHeld hjn hc.1) (by omega) (by omega) HB5.out.size ?_
       intro a6 c6 w6 ho6 hg6
       skip
       have HB6 := Lib.hid (grown_to hg6 HB5.out (Own.span ho5) (Nat.le_refl _) HB5.out.size)
       refine hK.out _ _ (H.out.same HB6.out) (fun hHeld => ?_)
       clear hK K
       try simp only [Act.put, set9]
       refine wpAnyH_take (i := 12) (v := ?v8) (by simp only [get9]; rfl) (by kernel_rfl) (by kernel_rfl) (by kernel_rfl) (by exact fun _ _ _ h => h) (Or.inl ⟨by rfl, fun w9 hS9 => ?hy8⟩) hHeld ?rest8
       case hy8 =>
        clear hS9
        go_simp
        try with_reducible rfl
       try simp only [Act.put, set9]
       refine wpAnyH_done (by kernel_rfl) ?_ _
       go_wp2
       all_goals
        go_ret
        refine ⟨_, _, _, rfl, ?_, HB6.out⟩
        rw [HP.out]
        have e9 : [] ++ l.take j ++ [x] ++ l.drop j = l.take j ++ x :: l.drop j := by simp
        rw [e9] at ho6
        first | exact ho6 | simpa only [Nat.zero_add, Nat.add_zero] using ho6
      ·have HB2 : Hid (Below w.heap.size w ((w.alloc (.cells #[] 3)).alloc (.cells #[.int .i64 x] 3)).drew) := Lib.hid (((Below.refl _ w).alloc (Nat.le_refl _) _).alloc (by simp) _).drew
       have O2 : Own .i64 3 ((w.alloc (.cells #[] 3)).alloc (.cells #[.int .i64 x] 3)).drew w.heap.size (some ⟨w.heap.size, 0, none⟩) 0 0 [] := (Own.empty (Nat.le_refl _)).alloc _
       have N2 : Nums .i64 ((w.alloc (.cells #[] 3)).alloc (.cells #[.int .i64 x] 3)).drew (some ⟨w.heap.size + 1, 0, none⟩) 1 [x] := by
        have := nums_new (w.alloc (.cells #[] 3)) .i64 x 3
        rw [World.size_alloc] at this
        exact this.same (Below.refl _ _).drew
       go_simp
       refine hK.out _ _ (H.out.same HB2.out) (fun hHeld => ?_)
       clear hK K
       try simp only [Act.put, set9]
       refine wpAnyH_ready (rs := [4]) (by kernel_rfl) (by simp) (AllReadyH.cons (by simp only [get9]; rfl) (fun K hK => ?_) AllReadyH.nil)
       refine step_app2 _ (by rfl) (.tmp 35) (.tmp 38) 31 (by rfl) .i64 3 i0 (.int .i64 0) 8 Try.underlying31 HI.out.1 HI.out.2.1 HI.out.2.2.1 HI.out.2.2.2 rfl (by rfl) O2 (by rfl) (nums_head hHeld hjn) (by omega) (by omega) HB2.out.size ?_
       intro a3 c3 w3 ho3 hg3
       skip
       have HB3 := Lib.hid (grown_to hg3 HB2.out (Own.span O2) (Nat.le_refl _) HB2.out.size)
       have N3 := nums_far N2 hg3 (by simp [Value.ownBlock])
       refine hK.out _ _ (H.out.same HB3.out) (fun hHeld => ?_)
       clear hK K
       try simp only [Act.put, set9]
       refine wpAnyH_ready (rs := [7]) (by kernel_rfl) (by simp) (AllReadyH.cons (by simp only [get9]; rfl) (fun K hK => ?_) AllReadyH.nil)
       refine step_app2 _ (by rfl) (.tmp 39) (.tmp 41) 31 (by rfl) .i64 3 i0 (.int .i64 0) 8 Try.underlying31 HI.out.1 HI.out.2.1 HI.out.2.2.1 HI.out.2.2.2 rfl (by rfl) ho3 (by rfl) N3 (by omega) (by omega) HB3.out.size ?_
       intro a5 c5 w5 ho5 hg5
       skip
       have HB5 := Lib.hid (grown_to hg5 HB3.out (Own.span ho3) (Nat.le_refl _) HB3.out.size)
       refine hK.out _ _ (H.out.same HB5.out) (fun hHeld => ?_)
       clear hK K
       try simp only [Act.put, set9]
       refine wpAnyH_ready (rs := [11]) (by kernel_rfl) (by simp) (AllReadyH.cons (by simp only [get9]; rfl) (fun K hK => ?_) AllReadyH.nil)
       refine step_app2 _ (by rfl) (.tmp 42) (.tmp 45) 31 (by rfl) .i64 3 i0 (.int .i64 0) 8 Try.underlying31 HI.out.1 HI.out.2.1 HI.out.2.2.1 HI.out.2.2.2 rfl (by rfl) ho5 (by rfl) (nums_tail c hHeld hjn hc.1) (by omega) (by omega) HB5.out.size ?_
       intro a6 c6 w6 ho6 hg6
       skip
       have HB6 := Lib.hid (grown_to hg6 HB5.out (Own.span ho5) (Nat.le_refl _) HB5.out.size)
       refine hK.out _ _ (H.out.same HB6.out) (fun hHeld => ?_)
       clear hK K
       try simp only [Act.put, set9]
       refine wpAnyH_take (i := 12) (v := ?v9) (by simp only [get9]; rfl) (by kernel_rfl) (by kernel_rfl) (by kernel_rfl) (by exact fun _ _ _ h => h) (Or.inl ⟨by rfl, fun w9 hS9 => ?hy9⟩) hHeld ?rest9
       case hy9 =>
        clear hS9
        go_simp
        try with_reducible rfl
       try simp only [Act.put, set9]
       refine wpAnyH_done (by kernel_rfl) ?_ _
       go_wp2
       all_goals
        go_ret
        refine ⟨_, _, _, rfl, ?_, HB6.out⟩
        rw [HP.out]
        have e9 : [] ++ l.take j ++ [x] ++ l.drop j = l.take j ++ x :: l.drop j := by simp
        rw [e9] at ho6
        first | exact ho6 | simpa only [Nat.zero_add, Nat.add_zero] using ho6
     ·have HB1 : Hid (Below w.heap.size w (w.alloc (.cells #[.int .i64 x] 3)).drew) := Lib.hid ((Below.refl _ w).alloc (Nat.le_refl _) _).drew
      go_simp
      refine hK.out _ _ (H.out.same HB1.out) (fun hHeld => ?_)
      clear hK K
      try simp only [Act.put, set9]
      refine wpAnyH_ready (rs := [0]) (by kernel_rfl) (by simp) (AllReadyH.cons (by simp only [get9]; rfl) (fun K hK => ?_) AllReadyH.nil)
      have HB2 : Hid (Below w.heap.size w ((w.alloc (.cells #[.int .i64 x] 3)).alloc (.cells #[] 3)).drew) := Lib.hid (((Below.refl _ w).alloc (Nat.le_refl _) _).alloc (by simp) _).drew
      have O2 : Own .i64 3 ((w.alloc (.cells #[.int .i64 x] 3)).alloc (.cells #[] 3)).drew w.heap.size (some ⟨w.heap.size + 1, 0, none⟩) 0 0 [] := by
       have := Own.empty (k := .i64) (t := 3) (w := w.alloc (.cells #[.int .i64 x] 3)) (B := w.heap.size) (by simp)
       rw [World.size_alloc] at this
       exact this
      have N2 : Nums .i64 ((w.alloc (.cells #[.int .i64 x] 3)).alloc (.cells #[] 3)).drew (some ⟨w.heap.size, 0, none⟩) 1 [x] := (nums_new w .i64 x 3).same (alloc_same _ _).drew
      go_simp
      refine hK.out _ _ (H.out.same HB2.out) (fun hHeld => ?_)
      clear hK K
      try simp only [Act.put, set9]
      refine wpAnyH_ready (rs := [4]) (by kernel_rfl) (by simp) (AllReadyH.cons (by simp only [get9]; rfl) (fun K hK => ?_) AllReadyH.nil)
      refine step_app2 _ (by rfl) (.tmp 35) (.tmp 38) 31 (by rfl) .i64 3 i0 (.int .i64 0) 8 Try.underlying31 HI.out.1 HI.out.2.1 HI.out.2.2.1 HI.out.2.2.2 rfl (by rfl) O2 (by rfl) (nums_head hHeld hjn) (by omega) (by omega) HB2.out.size ?_
      intro a3 c3 w3 ho3 hg3
      skip
      have HB3 := Lib.hid (grown_to hg3 HB2.out (Own.span O2) (Nat.le_refl _) HB2.out.size)
      have N3 := nums_far N2 hg3 (by simp [Value.ownBlock])
      refine hK.out _ _ (H.out.same HB3.out) (fun hHeld => ?_)
      clear hK K
      try simp only [Act.put, set9]
      refine wpAnyH_ready (rs := [7]) (by kernel_rfl) (by simp) (AllReadyH.cons (by simp only [get9]; rfl) (fun K hK => ?_) AllReadyH.nil)
      refine step_app2 _ (by rfl) (.tmp 39) (.tmp 41) 31 (by rfl) .i64 3 i0 (.int .i64 0) 8 Try.underlying31 HI.out.1 HI.out.2.1 HI.out.2.2.1 HI.out.2.2.2 rfl (by rfl) ho3 (by rfl) N3 (by omega) (by omega) HB3.out.size ?_
      intro a5 c5 w5 ho5 hg5
      skip
      have HB5 := Lib.hid (grown_to hg5 HB3.out (Own.span ho3) (Nat.le_refl _) HB3.out.size)
      refine hK.out _ _ (H.out.same HB5.out) (fun hHeld => ?_)
      clear hK K
      try simp only [Act.put, set9]
      refine wpAnyH_ready (rs := [11]) (by kernel_rfl) (by simp) (AllReadyH.cons (by simp only [get9]; rfl) (fun K hK => ?_) AllReadyH.nil)
      refine step_app2 _ (by rfl) (.tmp 42) (.tmp 45) 31 (by rfl) .i64 3 i0 (.int .i64 0) 8 Try.underlying31 HI.out.1 HI.out.2.1 HI.out.2.2.1 HI.out.2.2.2 rfl (by rfl) ho5 (by rfl) (nums_tail c hHeld hjn hc.1) (by omega) (by omega) HB5.out.size ?_
      intro a6 c6 w6 ho6 hg6
      skip
      have HB6 := Lib.hid (grown_to hg6 HB5.out (Own.span ho5) (Nat.le_refl _) HB5.out.size)
      refine hK.out _ _ (H.out.same HB6.out) (fun hHeld => ?_)
      clear hK K
      try simp only [Act.put, set9]
      refine wpAnyH_take (i := 12) (v := ?v10) (by simp only [get9]; rfl) (by kernel_rfl) (by kernel_rfl) (by kernel_rfl) (by exact fun _ _ _ h => h) (Or.inl ⟨by rfl, fun w9 hS9 => ?hy10⟩) hHeld ?rest10
      case hy10 =>
       clear hS9
       go_simp
       try with_reducible rfl
      try simp only [Act.put, set9]
      refine wpAnyH_done (by kernel_rfl) ?_ _
      go_wp2
      all_goals
       go_ret
       refine ⟨_, _, _, rfl, ?_, HB6.out⟩
       rw [HP.out]
       have e9 : [] ++ l.take j ++ [x] ++ l.drop j = l.take j ++ x :: l.drop j := by simp
       rw [e9] at ho6
       first | exact ho6 | simpa only [Nat.zero_add, Nat.add_zero] using ho6
  ·obtain rfl : j = n := by omega
   go_wp2_with fail
   have HP : Hid (putL l x = l.take j ++ x :: l.drop j) := Lib.hid (putL_new HL.out (fun z hz => by have e := hl.out; rw [List.getElem?_eq_none (by omega)] at hz; cases hz))
   have hjc : j ≤ c := by omega
   have hjc2 : (j : Int) ≤ (c : Int) := by omega
   have hjn : j ≤ j := by omega
   refine wp_region_held_drew (S := fun w' => Nums .i64 w' (some ⟨g, 0, none⟩) j l) (by kernel_rfl) (H.out.same (Below.refl _ _).drew) (fun hHeld => ?_)
   refine wpAnyH_take (i := 1) (v := ?v11) (by simp only [get9]; rfl) (by kernel_rfl) (by kernel_rfl) (by kernel_rfl) (by exact fun _ _ _ h => h) (Or.inl ⟨by rfl, fun w9 hS9 => ?hy11⟩) hHeld ?rest11
   case hy11 =>
    clear hS9
    go_simp
    try with_reducible rfl
   try simp only [Act.put, set9]
   refine wpAnyH_take (i := 2) (v := ?v12) (by simp only [get9]; rfl) (by kernel_rfl) (by kernel_rfl) (by kernel_rfl) (by exact fun _ _ _ h => h) (Or.inl ⟨by rfl, fun w9 hS9 => ?hy12⟩) hHeld ?rest12
   case hy12 =>
    clear hS9
    go_simp
    try with_reducible rfl
   try simp only [Act.put, set9]
   refine wpAnyH_take (i := 3) (v := ?v13) (by simp only [get9]; rfl) (by kernel_rfl) (by kernel_rfl) (by kernel_rfl) (by exact fun _ _ _ h => h) (Or.inl ⟨by rfl, fun w9 hS9 => ?hy13⟩) hHeld ?rest13
   case hy13 =>
    clear hS9
    go_simp
    try with_reducible rfl
   try simp only [Act.put, set9]
   refine wpAnyH_take (i := 5) (v := ?v14) (by simp only [get9]; rfl) (by kernel_rfl) (by kernel_rfl) (by kernel_rfl) (by exact fun _ _ _ h => h) (Or.inl ⟨by rfl, fun w9 hS9 => ?hy14⟩) hHeld ?rest14
   case hy14 =>
    clear hS9
    go_simp
    try with_reducible rfl
   try simp only [Act.put, set9]
   refine wpAnyH_take (i := 8) (v := ?v15) (by simp only [get9]; rfl) (by kernel_rfl) (by kernel_rfl) (by kernel_rfl) (by exact fun _ _ _ h => h) (Or.inl ⟨by rfl, fun w9 hS9 => ?hy15⟩) hHeld ?rest15
   case hy15 =>
    clear hS9
    go_simp
    try with_reducible rfl
   try simp only [Act.put, set9]
   refine wpAnyH_take (i := 9) (v := ?v16) (by simp only [get9]; rfl) (by kernel_rfl) (by kernel_rfl) (by kernel_rfl) (by exact fun _ _ _ h => h) (Or.inl ⟨by rfl, fun w9 hS9 => ?hy16⟩) hHeld ?rest16
   case hy16 =>
    clear hS9
    go_simp
    try with_reducible rfl
   try simp only [Act.put, set9]
   refine wpAnyH_take (i := 10) (v := ?v17) (by simp only [get9]; rfl) (by kernel_rfl) (by kernel_rfl) (by kernel_rfl) (by exact fun _ _ _ h => h) (Or.inl ⟨by rfl, fun w9 hS9 => ?hy17⟩) hHeld ?rest17
   case hy17 =>
    clear hS9
    go_simp
    try with_reducible rfl
   try simp only [Act.put, set9]
   refine wpAnyH_ready (rs := [0, 6]) (by kernel_rfl) (by simp) (AllReadyH.cons (by simp only [get9]; rfl) (fun K hK => ?_) (AllReadyH.cons (by simp only [get9]; rfl) (fun K hK => ?_) AllReadyH.nil))
   ·have HB1 : Hid (Below w.heap.size w (w.alloc (.cells #[] 3)).drew) := Lib.hid ((Below.refl _ w).alloc (Nat.le_refl _) _).drew
    have O1 : Own .i64 3 (w.alloc (.cells #[] 3)).drew w.heap.size (some ⟨w.heap.size, 0, none⟩) 0 0 [] := Own.empty (Nat.le_refl _)
    go_simp
    refine hK.out _ _ (H.out.same HB1.out) (fun hHeld => ?_)
    clear hK K
    try simp only [Act.put, set9]
    refine wpAnyH_ready (rs := [4, 6]) (by kernel_rfl) (by simp) (AllReadyH.cons (by simp only [get9]; rfl) (fun K hK => ?_) (AllReadyH.cons (by simp only [get9]; rfl) (fun K hK => ?_) AllReadyH.nil))
    ·skip
     refine step_app2 _ (by rfl) (.tmp 35) (.tmp 38) 31 (by rfl) .i64 3 i0 (.int .i64 0) 8 Try.underlying31 HI.out.1 HI.out.2.1 HI.out.2.2.1 HI.out.2.2.2 rfl (by rfl) O1 (by rfl) (nums_head hHeld hjn) (by omega) (by omega) HB1.out.size ?_
     intro a2 c2 w2 ho2 hg2
     rw [Nat.zero_add] at ho2
     have HB2 := Lib.hid (grown_to hg2 HB1.out (Own.span O1) (Nat.le_refl _) HB1.out.size)
     refine hK.out _ _ (H.out.same HB2.out) (fun hHeld => ?_)
     clear hK K
     try simp only [Act.put, set9]
     refine wpAnyH_ready (rs := [6]) (by kernel_rfl) (by simp) (AllReadyH.cons (by simp only [get9]; rfl) (fun K hK => ?_) AllReadyH.nil)
     have HB3 : Hid (Below w.heap.size w (w2.alloc (.cells #[.int .i64 x] 3))) := Lib.hid (HB2.out.alloc HB2.out.size _)
     have O3 := ho2.alloc (.cells #[.int .i64 x] 3)
     have N3 := nums_new w2 .i64 x 3
     go_simp
     refine hK.out _ _ (H.out.same HB3.out) (fun hHeld => ?_)
     clear hK K
     try simp only [Act.put, set9]
     refine wpAnyH_ready (rs := [7]) (by kernel_rfl) (by simp) (AllReadyH.cons (by simp only [get9]; rfl) (fun K hK => ?_) AllReadyH.nil)
     refine step_app2 _ (by rfl) (.tmp 39) (.tmp 41) 31 (by rfl) .i64 3 i0 (.int .i64 0) 8 Try.underlying31 HI.out.1 HI.out.2.1 HI.out.2.2.1 HI.out.2.2.2 rfl (by rfl) O3 (by rfl) N3 (by omega) (by omega) HB3.out.size ?_
     intro a5 c5 w5 ho5 hg5
     skip
     have HB5 := Lib.hid (grown_to hg5 HB3.out (Own.span O3) (Nat.le_refl _) HB3.out.size)
     refine hK.out _ _ (H.out.same HB5.out) (fun hHeld => ?_)
     clear hK K
     try simp only [Act.put, set9]
     refine wpAnyH_ready (rs := [11]) (by kernel_rfl) (by simp) (AllReadyH.cons (by simp only [get9]; rfl) (fun K hK => ?_) AllReadyH.nil)
     refine step_app2 _ (by rfl) (.tmp 42) (.tmp 45) 31 (by rfl) .i64 3 i0 (.int .i64 0) 8 Try.underlying31 HI.out.1 HI.out.2.1 HI.out.2.2.1 HI.out.2.2.2 rfl (by rfl) ho5 (by rfl) (nums_tail0 c hHeld hc.1) (by omega) (by omega) HB5.out.size ?_
     intro a6 c6 w6 ho6 hg6
     skip
     have HB6 := Lib.hid (grown_to hg6 HB5.out (Own.span ho5) (Nat.le_refl _) HB5.out.size)
     refine hK.out _ _ (H.out.same HB6.out) (fun hHeld => ?_)
     clear hK K
     try simp only [Act.put, set9]
     refine wpAnyH_take (i := 12) (v := ?v18) (by simp only [get9]; rfl) (by kernel_rfl) (by kernel_rfl) (by kernel_rfl) (by exact fun _ _ _ h => h) (Or.inl ⟨by rfl, fun w9 hS9 => ?hy18⟩) hHeld ?rest18
     case hy18 =>
      clear hS9
      go_simp
      try with_reducible rfl
     try simp only [Act.put, set9]
     refine wpAnyH_done (by kernel_rfl) ?_ _
     go_wp2
     all_goals
      go_ret
      refine ⟨_, _, _, rfl, ?_, HB6.out⟩
      rw [HP.out]
      have e9 : [] ++ l.take j ++ [x] ++ [] = l.take j ++ x :: l.drop j := by rw [List.drop_eq_nil_of_le (by have := hl.out; omega)]; simp
      rw [e9] at ho6
      first | exact ho6 | simpa only [Nat.zero_add, Nat.add_zero] using ho6
    ·have HB2 : Hid (Below w.heap.size w ((w.alloc (.cells #[] 3)).alloc (.cells #[.int .i64 x] 3)).drew) := Lib.hid (((Below.refl _ w).alloc (Nat.le_refl _) _).alloc (by simp) _).drew
     have O2 : Own .i64 3 ((w.alloc (.cells #[] 3)).alloc (.cells #[.int .i64 x] 3)).drew w.heap.size (some ⟨w.heap.size, 0, none⟩) 0 0 [] := (Own.empty (Nat.le_refl _)).alloc _
     have N2 : Nums .i64 ((w.alloc (.cells #[] 3)).alloc (.cells #[.int .i64 x] 3)).drew (some ⟨w.heap.size + 1, 0, none⟩) 1 [x] := by
      have := nums_new (w.alloc (.cells #[] 3)) .i64 x 3
      rw [World.size_alloc] at this
      exact this.same (Below.refl _ _).drew
     go_simp
     refine hK.out _ _ (H.out.same HB2.out) (fun hHeld => ?_)
     clear hK K
     try simp only [Act.put, set9]
     refine wpAnyH_ready (rs := [4]) (by kernel_rfl) (by simp) (AllReadyH.cons (by simp only [get9]; rfl) (fun K hK => ?_) AllReadyH.nil)
     refine step_app2 _ (by rfl) (.tmp 35) (.tmp 38) 31 (by rfl) .i64 3 i0 (.int .i64 0) 8 Try.underlying31 HI.out.1 HI.out.2.1 HI.out.2.2.1 HI.out.2.2.2 rfl (by rfl) O2 (by rfl) (nums_head hHeld hjn) (by omega) (by omega) HB2.out.size ?_
     intro a3 c3 w3 ho3 hg3
     skip
     have HB3 := Lib.hid (grown_to hg3 HB2.out (Own.span O2) (Nat.le_refl _) HB2.out.size)
     have N3 := nums_far N2 hg3 (by simp [Value.ownBlock])
     refine hK.out _ _ (H.out.same HB3.out) (fun hHeld => ?_)
     clear hK K
     try simp only [Act.put, set9]
     refine wpAnyH_ready (rs := [7]) (by kernel_rfl) (by simp) (AllReadyH.cons (by simp only [get9]; rfl) (fun K hK => ?_) AllReadyH.nil)
     refine step_app2 _ (by rfl) (.tmp 39) (.tmp 41) 31 (by rfl) .i64 3 i0 (.int .i64 0) 8 Try.underlying31 HI.out.1 HI.out.2.1 HI.out.2.2.1 HI.out.2.2.2 rfl (by rfl) ho3 (by rfl) N3 (by omega) (by omega) HB3.out.size ?_
     intro a5 c5 w5 ho5 hg5
     skip
     have HB5 := Lib.hid (grown_to hg5 HB3.out (Own.span ho3) (Nat.le_refl _) HB3.out.size)
     refine hK.out _ _ (H.out.same HB5.out) (fun hHeld => ?_)
     clear hK K
     try simp only [Act.put, set9]
     refine wpAnyH_ready (rs := [11]) (by kernel_rfl) (by simp) (AllReadyH.cons (by simp only [get9]; rfl) (fun K hK => ?_) AllReadyH.nil)
     refine step_app2 _ (by rfl) (.tmp 42) (.tmp 45) 31 (by rfl) .i64 3 i0 (.int .i64 0) 8 Try.underlying31 HI.out.1 HI.out.2.1 HI.out.2.2.1 HI.out.2.2.2 rfl (by rfl) ho5 (by rfl) (nums_tail0 c hHeld hc.1) (by omega) (by omega) HB5.out.size ?_
     intro a6 c6 w6 ho6 hg6
     skip
     have HB6 := Lib.hid (grown_to hg6 HB5.out (Own.span ho5) (Nat.le_refl _) HB5.out.size)
     refine hK.out _ _ (H.out.same HB6.out) (fun hHeld => ?_)
     clear hK K
     try simp only [Act.put, set9]
     refine wpAnyH_take (i := 12) (v := ?v19) (by simp only [get9]; rfl) (by kernel_rfl) (by kernel_rfl) (by kernel_rfl) (by exact fun _ _ _ h => h) (Or.inl ⟨by rfl, fun w9 hS9 => ?hy19⟩) hHeld ?rest19
     case hy19 =>
      clear hS9
      go_simp
      try with_reducible rfl
     try simp only [Act.put, set9]
     refine wpAnyH_done (by kernel_rfl) ?_ _
     go_wp2
     all_goals
      go_ret
      refine ⟨_, _, _, rfl, ?_, HB6.out⟩
      rw [HP.out]
      have e9 : [] ++ l.take j ++ [x] ++ [] = l.take j ++ x :: l.drop j := by rw [List.drop_eq_nil_of_le (by have := hl.out; omega)]; simp
      rw [e9] at ho6
      first | exact ho6 | simpa only [Nat.zero_add, Nat.add_zero] using ho6
   ·have HB1 : Hid (Below w.heap.size w (w.alloc (.cells #[.int .i64 x] 3)).drew) := Lib.hid ((Below.refl _ w).alloc (Nat.le_refl _) _).drew
    go_simp
    refine hK.out _ _ (H.out.same HB1.out) (fun hHeld => ?_)
    clear hK K
    try simp only [Act.put, set9]
    refine wpAnyH_ready (rs := [0]) (by kernel_rfl) (by simp) (AllReadyH.cons (by simp only [get9]; rfl) (fun K hK => ?_) AllReadyH.nil)
    have HB2 : Hid (Below w.heap.size w ((w.alloc (.cells #[.int .i64 x] 3)).alloc (.cells #[] 3)).drew) := Lib.hid (((Below.refl _ w).alloc (Nat.le_refl _) _).alloc (by simp) _).drew
    have O2 : Own .i64 3 ((w.alloc (.cells #[.int .i64 x] 3)).alloc (.cells #[] 3)).drew w.heap.size (some ⟨w.heap.size + 1, 0, none⟩) 0 0 [] := by
     have := Own.empty (k := .i64) (t := 3) (w := w.alloc (.cells #[.int .i64 x] 3)) (B := w.heap.size) (by simp)
     rw [World.size_alloc] at this
     exact this
    have N2 : Nums .i64 ((w.alloc (.cells #[.int .i64 x] 3)).alloc (.cells #[] 3)).drew (some ⟨w.heap.size, 0, none⟩) 1 [x] := (nums_new w .i64 x 3).same (alloc_same _ _).drew
    go_simp
    refine hK.out _ _ (H.out.same HB2.out) (fun hHeld => ?_)
    clear hK K
    try simp only [Act.put, set9]
    refine wpAnyH_ready (rs := [4]) (by kernel_rfl) (by simp) (AllReadyH.cons (by simp only [get9]; rfl) (fun K hK => ?_) AllReadyH.nil)
    refine step_app2 _ (by rfl) (.tmp 35) (.tmp 38) 31 (by rfl) .i64 3 i0 (.int .i64 0) 8 Try.underlying31 HI.out.1 HI.out.2.1 HI.out.2.2.1 HI.out.2.2.2 rfl (by rfl) O2 (by rfl) (nums_head hHeld hjn) (by omega) (by omega) HB2.out.size ?_
    intro a3 c3 w3 ho3 hg3
    skip
    have HB3 := Lib.hid (grown_to hg3 HB2.out (Own.span O2) (Nat.le_refl _) HB2.out.size)
    have N3 := nums_far N2 hg3 (by simp [Value.ownBlock])
    refine hK.out _ _ (H.out.same HB3.out) (fun hHeld => ?_)
    clear hK K
    try simp only [Act.put, set9]
    refine wpAnyH_ready (rs := [7]) (by kernel_rfl) (by simp) (AllReadyH.cons (by simp only [get9]; rfl) (fun K hK => ?_) AllReadyH.nil)
    refine step_app2 _ (by rfl) (.tmp 39) (.tmp 41) 31 (by rfl) .i64 3 i0 (.int .i64 0) 8 Try.underlying31 HI.out.1 HI.out.2.1 HI.out.2.2.1 HI.out.2.2.2 rfl (by rfl) ho3 (by rfl) N3 (by omega) (by omega) HB3.out.size ?_
    intro a5 c5 w5 ho5 hg5
    skip
    have HB5 := Lib.hid (grown_to hg5 HB3.out (Own.span ho3) (Nat.le_refl _) HB3.out.size)
    refine hK.out _ _ (H.out.same HB5.out) (fun hHeld => ?_)
    clear hK K
    try simp only [Act.put, set9]
    refine wpAnyH_ready (rs := [11]) (by kernel_rfl) (by simp) (AllReadyH.cons (by simp only [get9]; rfl) (fun K hK => ?_) AllReadyH.nil)
    refine step_app2 _ (by rfl) (.tmp 42) (.tmp 45) 31 (by rfl) .i64 3 i0 (.int .i64 0) 8 Try.underlying31 HI.out.1 HI.out.2.1 HI.out.2.2.1 HI.out.2.2.2 rfl (by rfl) ho5 (by rfl) (nums_tail0 c hHeld hc.1) (by omega) (by omega) HB5.out.size ?_
    intro a6 c6 w6 ho6 hg6
    skip
    have HB6 := Lib.hid (grown_to hg6 HB5.out (Own.span ho5) (Nat.le_refl _) HB5.out.size)
    refine hK.out _ _ (H.out.same HB6.out) (fun hHeld => ?_)
    clear hK K
    try simp only [Act.put, set9]
    refine wpAnyH_take (i := 12) (v := ?v20) (by simp only [get9]; rfl) (by kernel_rfl) (by kernel_rfl) (by kernel_rfl) (by exact fun _ _ _ h => h) (Or.inl ⟨by rfl, fun w9 hS9 => ?hy20⟩) hHeld ?rest20
    case hy20 =>
     clear hS9
     go_simp
     try with_reducible rfl
    try simp only [Act.put, set9]
    refine wpAnyH_done (by kernel_rfl) ?_ _
    go_wp2
    all_goals
     go_ret
     refine ⟨_, _, _, rfl, ?_, HB6.out⟩
     rw [HP.out]
     have e9 : [] ++ l.take j ++ [x] ++ [] = l.take j ++ x :: l.drop j := by rw [List.drop_eq_nil_of_le (by have := hl.out; omega)]; simp
     rw [e9] at ho6
     first | exact ho6 | simpa only [Nat.zero_add, Nat.add_zero] using ho6
end Go.Proofs.Ytckmgbobkffabaa
namespace Go.Proofs.Ytckmgbobkffabaa
open Go.ChangeShapes Go.WideShapes Go.ChangeAt Go.RowKit Go.Sort
set_option linter.unusedVariables false
set_option linter.unusedSimpArgs false

theorem putL_pos (l : List Int) (n : Int) : 0 < (putL l n).length := by
 cases l with
 | nil => simp [putL]
 | cons x t =>
  unfold putL
  split
  ·simp
  ·split <;> simp
theorem puts_msgs_yes {l : List Mv} {s : Int} {b : Bool} {j : Nat} {x : Mv} (hx : l[j]? = some x) (h : fromM s b x = true) : puts [] (msgsOf (l.take (j + 1)) s b) = putL (puts [] (msgsOf (l.take j) s b)) x.msg := by
 rw [msgs_yes hx h, puts_app]
set_option maxHeartbeats 2000000 in
set_option maxRecDepth 100000 in
theorem specMovesFrom_any {w : World} {v : Value} {x : Mac} (s : Int) (b : Bool) (h : MacW w v x) (hn : x.parts ≤ 100000000) : Calls Try.prog 57 #[v, .int .i64 s, .bool b] w (Made .i64 3 w.heap.size (movesFrom x s b) w) := by
 obtain ⟨a, n, c, q, m, d, rfl, h1, h2, h3⟩ := h
 have HB : Hid (Below w.heap.size w (w.alloc (.cells #[.int .i64 x.st, .slice a n c, .slice q m d] 27))) := Lib.hid (alloc_same w _)
 have HX : Hid ((w.alloc (.cells #[.int .i64 x.st, .slice a n c, .slice q m d] 27)).heap[w.heap.size]? = some (.cells #[.int .i64 x.st, .slice a n c, .slice q m d] 27 (0, 0))) := Lib.hid (heap_alloc_new w (.cells #[.int .i64 x.st, .slice a n c, .slice q m d] 27 (0, 0)))
 have hsz : (w.alloc (.cells #[.int .i64 x.st, .slice a n c, .slice q m d] 27)).heap.size = w.heap.size + 1 := by simp
 have H2 := Lib.hid (h2.same HB.out)
 have hl := h2.len
 have hfit := h2.fits
 have hm9 : m ≤ 100000000 := by
  unfold Mac.parts at hn
  omega
 clear h1 h2 h3
 go_enter Try.func57, Try.ntmps57
 go_wp2_with fail
 have HB0 : Hid (Below (w.alloc (.cells #[.int .i64 x.st, .slice a n c, .slice q m d] 27)).heap.size (w.alloc (.cells #[.int .i64 x.st, .slice a n c, .slice q m d] 27)) ((w.alloc (.cells #[.int .i64 x.st, .slice a n c, .slice q m d] 27)).alloc (.cells #[] 3))) := Lib.hid (alloc_same _ _)
 have HO0 : Hid (Own .i64 3 ((w.alloc (.cells #[.int .i64 x.st, .slice a n c, .slice q m d] 27)).alloc (.cells #[] 3)) (w.alloc (.cells #[.int .i64 x.st, .slice a n c, .slice q m d] 27)).heap.size (some ⟨(w.alloc (.cells #[.int .i64 x.st, .slice a n c, .slice q m d] 27)).heap.size, 0, none⟩) 0 0 []) := Lib.hid (Own.empty (Nat.le_refl _))
 simp only [World.size_alloc] at HO0
 generalize (w.alloc (.cells #[.int .i64 x.st, .slice a n c, .slice q m d] 27)).alloc (.cells #[] 3) = W1 at *
 generalize (w.alloc (.cells #[.int .i64 x.st, .slice a n c, .slice q m d] 27)) = W0 at *
 go_loopw [7, 8] (fun t i wr => ∃ j g k c2 : Nat, j ≤ m ∧ k ≤ j ∧ i = .int .i64 j ∧ t = .slice (some ⟨g, 0, none⟩) k c2 ∧ Own .i64 3 wr W0.heap.size (some ⟨g, 0, none⟩) k c2 (puts [] (msgsOf (x.moves.take j) s b)) ∧ Below W0.heap.size W0 wr) (fun _ i _ => m - (intOf i).toNat)
 case atStart => exact ⟨0, _, 0, 0, Nat.zero_le _, Nat.le_refl _, rfl, rfl, by rw [hsz]; simpa [msgsOf, puts] using HO0.out, HB0.out⟩
 case round =>
  obtain ⟨j, g, k, c2, hj, hk9, rfl, rfl, ho, hb⟩ := hrel
  have HO := Lib.hid ho
  have HB9 := Lib.hid hb
  clear ho hb
  have hX1 := (HB9.out.block w.heap.size (by omega)).trans HX.out
  obtain ⟨_, _, b2, _, _, _⟩ := three_cells hX1
  clear hX1
  by_cases hlt : j < m
  ·obtain ⟨b1, o1, z, rfl, hx, hc0, hc1, hc2, hc3⟩ := mvs_at (H2.out.same HB9.out) hlt
   cases hk : fromM s b z with
   | true =>
    have HE := Lib.hid (puts_msgs_yes hx hk)
    obtain ⟨e1, e2⟩ : z.frm = s ∧ z.send = b := by simpa [fromM] using hk
    clear hx hk
    rw [e1] at hc0
    rw [e2] at hc1
    clear e1 e2
    go_wp2_with fail
    refine (specPut_any g k c2 _ z.msg wr HO.out.nums HO.out.room (by omega)).mono ?_
    rintro e w1 ⟨a1, k1, c1, rfl, ho1, hb1⟩
    have hp := putL_pos (puts [] (msgsOf (x.moves.take j) s b)) z.msg
    have hq := putL_len z.msg (puts [] (msgsOf (x.moves.take j) s b))
    have hl1 := ho1.len
    have hl0 := HO.out.len
    obtain ⟨g1, rfl, hg1, hg2⟩ := ho1.head (by omega)
    have HO1 := Lib.hid (ho1.lower HB9.out.size)
    have HB1 : Hid (Below W0.heap.size W0 w1) := Lib.hid (HB9.out.trans (hb1.mono HB9.out.size))
    have hk1 : k1 ≤ j + 1 := by omega
    clear ho1 hb1 hp hq hl1 hl0
    go_wp2_with fail
    go_roundw
    case rel => exact ⟨j + 1, g1, k1, c1, by omega, hk1, by go_num, rfl, by rw [HE.out]; exact HO1.out, HB1.out⟩
    case measure => simp [intOf]; omega
   | false =>
    have HE := Lib.hid (msgs_no hx hk)
    clear hx
    by_cases h1 : z.frm = s
    ·have h3 : (z.send == b) = false := by
      rw [fromM, h1] at hk
      simpa using hk
     rw [h1] at hc0
     clear hk h1
     go_wp2_with fail
     go_roundw
     case rel => exact ⟨j + 1, g, k, c2, by omega, by omega, by go_num, rfl, by rw [HE.out]; exact HO.out, HB9.out⟩
     case measure => simp [intOf]; omega
    ·have h3 : (z.frm == s) = false := by simpa using h1
     clear hk h1
     go_wp2_with fail
     go_roundw
     case rel => exact ⟨j + 1, g, k, c2, by omega, by omega, by go_num, rfl, by rw [HE.out]; exact HO.out, HB9.out⟩
     case measure => simp [intOf]; omega
  ·obtain rfl : j = m := by omega
   have HF : Hid (Own .i64 3 wr W0.heap.size (some ⟨g, 0, none⟩) k c2 (puts [] (msgsOf x.moves s b))) := Lib.hid (by
    have h1 := HO.out
    rw [List.take_of_length_le (by omega)] at h1
    exact h1)
   go_wp2_with fail
   go_ret
   exact ⟨_, _, _, rfl, HF.out.lower HB.out.size, HB.out.trans (HB9.out.mono HB.out.size)⟩
end Go.Proofs.Ytckmgbobkffabaa
