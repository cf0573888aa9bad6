/- A number put into an ascending list, by the model. What the law of versions draws: lists of numbers, ascending or spoiled, and a number. Elements of any kind are appended to a slice of the call's own. No function of the program is spoken of. Lists of fields that are being drawn: what a step of the cursor leaves; one number stored into one of them. -/
import Derived.Test.YtcpnchjgklemgaaG2
import Derived.Deep.RegionHeld3
import Derived.Test.YtcpnchjgklemgaaG1
namespace Go.Proofs.Ytcpnchjgklemgaa
open Go.ChangeShapes Go.WideShapes Go.ChangeAt Go.RowKit
set_option linter.unusedVariables false
set_option linter.unusedSimpArgs false

section
variable {P : Program}
/-- Integers are appended to a slice of the call's own: where it lies alone anything has changed. -/
theorem run_app2 (w : World) {k : IntKind} (t ty e : TypeId) (i : TypeInfo) (z : Value) (bytes : Nat) (ht : P.underlying t = some (.slice e)) (hi : P.info? e = some i) (hz : i.zero = some z) (hsize : i.size = 1) (hby : i.bytes = bytes) (hzs : z.cells.size = 1)
    {B n c m d : Nat} {a b : Option Addr} {l l' : List Int} (ho : Own k e w B a n c l) (hs : Nums k w b m l') (hbytes : (n + m) * bytes ≤ 140737488355328) (h63 : n + m ≤ maxLen) (hB : B ≤ w.heap.size) :
    ∃ a' c' w', (Builtin.append_ #[t, t] ty #[.slice a n c, .slice b m d]).run P w = .ok (.slice a' (n + m) c') w' ∧ Own k e w' B a' (n + m) c' (l ++ l') ∧ w.grownBy w' (Value.ownBlock (.slice a n c)) := by
  have hsp := ho.span
  rcases b with _ | ad
  · obtain rfl : m = 0 := by
      rcases Nat.eq_zero_or_pos m with h0 | h0
      · exact h0
      · obtain ⟨ad, h, _⟩ := hs.cell 0 h0
        cases h
    obtain rfl : l' = [] := List.eq_nil_of_length_eq_zero hs.len
    exact ⟨a, c, w, run_app_nothing w B t ty e i ht hi ho.2 d, by simpa using ho, grown_below (Below.refl _ _) _⟩
  · obtain ⟨v', w', hr, h2, h3, _, _⟩ := run_append_own_at (P := P) w B t ty e i z 1 bytes ht hi hz hsize hby hzs (by omega) (.slice a n c) n (l.map (Value.int k)) ho.2 ad m d (l'.map (Value.int k)) (by simp [hs.len]) (fun j u hu => by
      have hj : j < m := by
        rcases Nat.lt_or_ge j m with h | h
        · exact h
        · rw [List.getElem?_eq_none (by simp [hs.len]; exact h)] at hu; cases hu
      obtain ⟨ad', e', hx⟩ := hs.cell j hj
      cases e'
      have hl : j < l'.length := by rw [hs.len]; exact hj
      rw [List.getElem?_map, List.getElem?_eq_getElem hl] at hu
      cases hu
      rw [hx]
      simp [List.getD, List.getElem?_eq_getElem hl]) (ints_oneCell k l') h63 hbytes hB
    rw [← List.map_append] at h2
    rcases h2.2 with ⟨rfl, hn⟩ | ⟨g, cap, cur, rfl, hrest⟩
    · exact ⟨none, 0, w', by rw [hn]; exact hr, by rw [hn] at h2 ⊢; exact ⟨by have := h2.1; simpa using this, h2⟩, h3⟩
    · exact ⟨_, cap, w', hr, ⟨by have := ho.len; have := hs.len; simp; omega, h2⟩, h3⟩
/-- An append of integers onto a slice of the call's own, at a step of a region that draws its order. -/
theorem step_app2 (w : World) {ops : Array Oper} {o : Oper} {act : Act} {K : Act → World → Prop} {Q : Exit → Act → World → Prop} {E : Prop} (hgd : o.guard = none) (s x : Operand) (t : TypeId)
    (ho : o.op = .call { callee := .builtin .append, args := #[s, x], argTypes := #[t, t] })
    (k : IntKind) (e : TypeId) (i : TypeInfo) (z : Value) (bytes : Nat) (ht : P.underlying t = some (.slice e)) (hi : P.info? e = some i) (hz : i.zero = some z) (hsize : i.size = 1) (hby : i.bytes = bytes) (hzs : z.cells.size = 1)
    {B n c m d : Nat} {a b : Option Addr} {l l' : List Int} (hs : act.eval s = .slice a n c) (hown : Own k e w B a n c l) (hx : act.eval x = .slice b m d) (hnew : Nums k w b m l')
    (hb1 : 0 < bytes) (hbytes : (n + m) * bytes ≤ 140737488355328) (hB : B ≤ w.heap.size)
    (h : ∀ a' c' w', Own k e w' B a' (n + m) c' (l ++ l') → w.grownBy w' (Value.ownBlock (.slice a n c)) → K (act.put o.dst (.slice a' (n + m) c')) w') :
    if Region.wanted o (yielded ops act.tmps) = true then Oper.wp P o act w K Q else E := by
  have hw : Region.wanted o (yielded ops act.tmps) = true := by simp [Region.wanted, hgd]
  rw [if_pos hw]
  have h63 : n + m ≤ maxLen := by
    have := Nat.mul_le_mul_left (n + m) hb1
    unfold maxLen
    omega
  obtain ⟨a', c', w', hr, h2, h3⟩ := run_app2 (P := P) (d := d) w t o.type e i z bytes ht hi hz hsize hby hzs hown hnew hbytes h63 hB
  unfold Oper.wp execOp
  simp only [ho, resolve, invoke, builtin, Sem.run_bind, Sem.run_pure, Result.andThen_ok, List.map_toArray, List.map_cons, List.map_nil, hs, hx, hr]
  exact h a' c' w' h2 h3
end
/-- What lies in other blocks than the one that was written to. -/
theorem nums_far {k : IntKind} {w w' : World} {g : Nat} {n : Nat} {l : List Int} {r : Option Nat} (h : Nums k w (some ⟨g, 0, none⟩) n l) (hg : w.grownBy w' r) (hne : r ≠ some g) : Nums k w' (some ⟨g, 0, none⟩) n l :=
  ⟨h.len, h.fits, fun j hj => by
    obtain ⟨ad, e, hx⟩ := h.cell j hj
    cases e
    refine ⟨_, rfl, ?_⟩
    have hlt := cell_in hx
    have hb : ((⟨g, 0, none⟩ : Addr).add j).block = g := addr_block _ _
    rw [← hx]
    unfold World.cell?
    rw [hg.block _ hlt (by rw [hb]; exact fun e => hne e.symm)]⟩

theorem nums_head {w : World} {g n : Nat} {l : List Int} (h : Nums .i64 w (some ⟨g, 0, none⟩) n l) {j : Nat} (hj : j ≤ n) : Nums .i64 w (some ⟨g, 0, none⟩) j (l.take j) := by
  have := h.sub 0 j (by omega) (b := some ⟨g, 0, none⟩) (fun _ ad e => by cases e; rfl)
  simpa using this
theorem nums_tail {w : World} {g n : Nat} {l : List Int} (c : Nat) (h : Nums .i64 w (some ⟨g, 0, none⟩) n l) {j : Nat} (hj : j ≤ n) (hc : n ≤ c) : Nums .i64 w (if c = j then some ⟨g, 0, none⟩ else some ⟨g, j, none⟩) (n - j) (l.drop j) := by
  have := h.sub j (n - j) (by omega) (b := if c = j then some ⟨g, 0, none⟩ else some ⟨g, j, none⟩) (fun h0 ad e => by
    cases e
    rw [if_neg (by omega), addr_zero])
  rw [List.take_of_length_le (by rw [List.length_drop, h.len]; omega)] at this
  exact this

theorem nums_tail0 {w : World} {g n : Nat} {l : List Int} (c : Nat) (h : Nums .i64 w (some ⟨g, 0, none⟩) n l) (hc : n ≤ c) : Nums .i64 w (if c = n then some ⟨g, 0, none⟩ else some ⟨g, n, none⟩) 0 [] := by
  have := nums_tail c h (Nat.le_refl n) hc
  rw [Nat.sub_self, List.drop_eq_nil_of_le (by rw [h.len]; exact Nat.le_refl _)] at this
  exact this

set_option maxHeartbeats 4000000 in
set_option maxRecDepth 100000 in
theorem specPut_any (g n c : Nat) (l : List Int) (x : Int) (w : World) (h : Nums .i64 w (some ⟨g, 0, none⟩) n l) (hc : n ≤ c ∧ (c : Int) ≤ 9223372036854775807) (hn : n ≤ 1000000000) :
    Calls Try.prog 107 #[.slice (some ⟨g, 0, none⟩) n c, .int .i64 x] w (Made .i64 3 w.heap.size (putL l x) w) := by
  have H := Lib.hid h
  have hl := Lib.hid h.len
  clear h
  obtain ⟨i0, hi, hz0, hz1, hz2⟩ := info_parts infoIntS
  have HI := Lib.hid (And.intro hi (And.intro hz0 (And.intro hz1 hz2)))
  clear hi hz0 hz1 hz2
  go_enter Try.func107, Try.ntmps107
  go_wp2_with fail
  go_loop [5] (fun i => ∃ j : Nat, j ≤ n ∧ i = .int .i64 j ∧ ∀ y ∈ l.take j, y < x) (fun i => n - (intOf i).toNat)
  case atStart => exact ⟨0, Nat.zero_le _, rfl, by simp⟩
  case round =>
    obtain ⟨j, hj, rfl, hlow⟩ := hrel
    have HL := Lib.hid hlow
    clear hlow
    by_cases hlt : j < n
    · obtain ⟨ad, y, had, hy, hcell⟩ := H.out.at_ hlt
      cases had
      rw [addr_zero] at hcell
      have HY := Lib.hid hy
      clear hy
      by_cases q : y < x
      · have e1 : decide (y < x) = true := decide_eq_true q
        go_wp2_with fail
        go_round
        case rel =>
          refine ⟨j + 1, by omega, by go_num, fun z hz => ?_⟩
          rw [List.take_add_one, HY.out] at hz
          rcases List.mem_append.1 hz with hz | hz
          · exact HL.out z hz
          · have : z = y := by simpa using hz
            omega
        case measure => simp [intOf]; omega
      · have e1 : decide (y < x) = false := decide_eq_false q
        by_cases q2 : y = x
        · subst q2
          have HP := Lib.hid (putL_there HL.out HY.out)
          go_wp2_with (at_builtin; refine wpl_app _ rfl (.tmp 32) (.tmp 33) 24 rfl .i64 3 i0 (.int .i64 0) 8 Try.underlying24 HI.out.1 HI.out.2.1 HI.out.2.2.1 HI.out.2.2.2 rfl rfl (Own.empty (Nat.le_refl _)) rfl (H.out.same (alloc_same _ _)) (by omega) ?c1 ?c2 ?_)
          case c1 => omega
          intro a' c' w' ho hb
          have HO := Lib.hid ho
          have HB := Lib.hid hb
          clear ho hb
          go_wp2
          go_ret
          refine ⟨a', _, c', rfl, ?_, ((Below.refl _ w).alloc (Nat.le_refl _) _).trans HB.out⟩
          rw [HP.out]
          simpa using HO.out
        · have e2 : (y == x) = false := by simpa using q2
          go_wp2_with fail
          have HP : Hid (putL l x = l.take j ++ x :: l.drop j) := Lib.hid (putL_new HL.out (fun z hz => by have e := HY.out; rw [hz] at e; cases e; omega))
          have hjc : j ≤ c := by omega
          have hjc2 : (j : Int) ≤ (c : Int) := by omega
          have hjn : j ≤ n := by omega
          refine wp_region_held_drew (S := fun w' => Nums .i64 w' (some ⟨g, 0, none⟩) n l) (by kernel_rfl) (H.out.same (Below.refl _ _).drew) (fun hHeld => ?_)
          refine wpAnyH_take (i := 1) (v := ?v1) (by simp only [List.getElem?_toArray, List.getElem?_cons_succ, List.getElem?_cons_zero]; rfl) (by kernel_rfl) (by kernel_rfl) (by kernel_rfl) (by exact fun _ _ _ h => h) (Or.inl ⟨by rfl, fun w9 hS9 => ?hy1⟩) hHeld ?rest1
          case hy1 =>
            clear hS9
            go_simp
            try with_reducible rfl
          try simp only [Act.put, List.setIfInBounds_toArray, List.set_cons_zero, List.set_cons_succ]
          refine wpAnyH_take (i := 2) (v := ?v2) (by simp only [List.getElem?_toArray, List.getElem?_cons_succ, List.getElem?_cons_zero]; rfl) (by kernel_rfl) (by kernel_rfl) (by kernel_rfl) (by exact fun _ _ _ h => h) (Or.inl ⟨by rfl, fun w9 hS9 => ?hy2⟩) hHeld ?rest2
          case hy2 =>
            clear hS9
            go_simp
            try with_reducible rfl
          try simp only [Act.put, List.setIfInBounds_toArray, List.set_cons_zero, List.set_cons_succ]
          refine wpAnyH_take (i := 3) (v := ?v3) (by simp only [List.getElem?_toArray, List.getElem?_cons_succ, List.getElem?_cons_zero]; rfl) (by kernel_rfl) (by kernel_rfl) (by kernel_rfl) (by exact fun _ _ _ h => h) (Or.inl ⟨by rfl, fun w9 hS9 => ?hy3⟩) hHeld ?rest3
          case hy3 =>
            clear hS9
            go_simp
            try with_reducible rfl
          try simp only [Act.put, List.setIfInBounds_toArray, List.set_cons_zero, List.set_cons_succ]
          refine wpAnyH_take (i := 5) (v := ?v4) (by simp only [List.getElem?_toArray, List.getElem?_cons_succ, List.getElem?_cons_zero]; rfl) (by kernel_rfl) (by kernel_rfl) (by kernel_rfl) (by exact fun _ _ _ h => h) (Or.inl ⟨by rfl, fun w9 hS9 => ?hy4⟩) hHeld ?rest4
          case hy4 =>
            clear hS9
            go_simp
            try with_reducible rfl
          try simp only [Act.put, List.setIfInBounds_toArray, List.set_cons_zero, List.set_cons_succ]
          refine wpAnyH_take (i := 8) (v := ?v5) (by simp only [List.getElem?_toArray, List.getElem?_cons_succ, List.getElem?_cons_zero]; rfl) (by kernel_rfl) (by kernel_rfl) (by kernel_rfl) (by exact fun _ _ _ h => h) (Or.inl ⟨by rfl, fun w9 hS9 => ?hy5⟩) hHeld ?rest5
          case hy5 =>
            clear hS9
            go_simp
            try with_reducible rfl
          try simp only [Act.put, List.setIfInBounds_toArray, List.set_cons_zero, List.set_cons_succ]
          refine wpAnyH_take (i := 9) (v := ?v6) (by simp only [List.getElem?_toArray, List.getElem?_cons_succ, List.getElem?_cons_zero]; rfl) (by kernel_rfl) (by kernel_rfl) (by kernel_rfl) (by exact fun _ _ _ h => h) (Or.inl ⟨by rfl, fun w9 hS9 => ?hy6⟩) hHeld ?rest6
          case hy6 =>
            clear hS9
            go_simp
            try with_reducible rfl
          try simp only [Act.put, List.setIfInBounds_toArray, List.set_cons_zero, List.set_cons_succ]
          refine wpAnyH_take (i := 10) (v := ?v7) (by simp only [List.getElem?_toArray, List.getElem?_cons_succ, List.getElem?_cons_zero]; rfl) (by kernel_rfl) (by kernel_rfl) (by kernel_rfl) (by exact fun _ _ _ h => h) (Or.inl ⟨by rfl, fun w9 hS9 => ?hy7⟩) hHeld ?rest7
          case hy7 =>
            clear hS9
            go_simp
            try with_reducible rfl
          try simp only [Act.put, List.setIfInBounds_toArray, List.set_cons_zero, List.set_cons_succ]
          refine wpAnyH_ready (rs := [0, 6]) (by kernel_rfl) (by simp) (AllReadyH.cons (by simp only [List.getElem?_toArray, List.getElem?_cons_succ, List.getElem?_cons_zero]; rfl) (fun K hK => ?_) (AllReadyH.cons (by simp only [List.getElem?_toArray, List.getElem?_cons_succ, List.getElem?_cons_zero]; rfl) (fun K hK => ?_) AllReadyH.nil))
          · have HB1 : Hid (Below w.heap.size w (w.alloc (.cells #[] 3)).drew) := Lib.hid ((Below.refl _ w).alloc (Nat.le_refl _) _).drew
            have O1 : Own .i64 3 (w.alloc (.cells #[] 3)).drew w.heap.size (some ⟨w.heap.size, 0, none⟩) 0 0 [] := Own.empty (Nat.le_refl _)
            go_simp
            refine hK.out _ _ (H.out.same HB1.out) (fun hHeld => ?_)
            clear hK K
            try simp only [Act.put, List.setIfInBounds_toArray, List.set_cons_zero, List.set_cons_succ]
            refine wpAnyH_ready (rs := [4, 6]) (by kernel_rfl) (by simp) (AllReadyH.cons (by simp only [List.getElem?_toArray, List.getElem?_cons_succ, List.getElem?_cons_zero]; rfl) (fun K hK => ?_) (AllReadyH.cons (by simp only [List.getElem?_toArray, List.getElem?_cons_succ, List.getElem?_cons_zero]; rfl) (fun K hK => ?_) AllReadyH.nil))
            · skip
              refine step_app2 _ (by rfl) (.tmp 35) (.tmp 38) 24 (by rfl) .i64 3 i0 (.int .i64 0) 8 Try.underlying24 HI.out.1 HI.out.2.1 HI.out.2.2.1 HI.out.2.2.2 rfl (by rfl) O1 (by rfl) (nums_head hHeld hjn) (by omega) (by omega) HB1.out.size ?_
              intro a2 c2 w2 ho2 hg2
              rw [Nat.zero_add] at ho2
              have HB2 := Lib.hid (grown_to hg2 HB1.out (Own.span O1) (Nat.le_refl _) HB1.out.size)
              refine hK.out _ _ (H.out.same HB2.out) (fun hHeld => ?_)
              clear hK K
              try simp only [Act.put, List.setIfInBounds_toArray, List.set_cons_zero, List.set_cons_succ]
              refine wpAnyH_ready (rs := [6]) (by kernel_rfl) (by simp) (AllReadyH.cons (by simp only [List.getElem?_toArray, List.getElem?_cons_succ, List.getElem?_cons_zero]; rfl) (fun K hK => ?_) AllReadyH.nil)
              have HB3 : Hid (Below w.heap.size w (w2.alloc (.cells #[.int .i64 x] 3))) := Lib.hid (HB2.out.alloc HB2.out.size _)
              have O3 := ho2.alloc (.cells #[.int .i64 x] 3)
              have N3 := nums_new w2 .i64 x 3
              go_simp
              refine hK.out _ _ (H.out.same HB3.out) (fun hHeld => ?_)
              clear hK K
              try simp only [Act.put, List.setIfInBounds_toArray, List.set_cons_zero, List.set_cons_succ]
              refine wpAnyH_ready (rs := [7]) (by kernel_rfl) (by simp) (AllReadyH.cons (by simp only [List.getElem?_toArray, List.getElem?_cons_succ, List.getElem?_cons_zero]; rfl) (fun K hK => ?_) AllReadyH.nil)
              refine step_app2 _ (by rfl) (.tmp 39) (.tmp 41) 24 (by rfl) .i64 3 i0 (.int .i64 0) 8 Try.underlying24 HI.out.1 HI.out.2.1 HI.out.2.2.1 HI.out.2.2.2 rfl (by rfl) O3 (by rfl) N3 (by omega) (by omega) HB3.out.size ?_
              intro a5 c5 w5 ho5 hg5
              skip
              have HB5 := Lib.hid (grown_to hg5 HB3.out (Own.span O3) (Nat.le_refl _) HB3.out.size)
              refine hK.out _ _ (H.out.same HB5.out) (fun hHeld => ?_)
              clear hK K
              try simp only [Act.put, List.setIfInBounds_toArray, List.set_cons_zero, List.set_cons_succ]
              refine wpAnyH_ready (rs := [11]) (by kernel_rfl) (by simp) (AllReadyH.cons (by simp only [List.getElem?_toArray, List.getElem?_cons_succ, List.getElem?_cons_zero]; rfl) (fun K hK => ?_) AllReadyH.nil)
              refine step_app2 _ (by rfl) (.tmp 42) (.tmp 45) 24 (by rfl) .i64 3 i0 (.int .i64 0) 8 Try.underlying24 HI.out.1 HI.out.2.1 HI.out.2.2.1 HI.out.2.2.2 rfl (by rfl) ho5 (by rfl) (nums_tail c hHeld hjn hc.1) (by omega) (by omega) HB5.out.size ?_
              intro a6 c6 w6 ho6 hg6
              skip
              have HB6 := Lib.hid (grown_to hg6 HB5.out (Own.span ho5) (Nat.le_refl _) HB5.out.size)
              refine hK.out _ _ (H.out.same HB6.out) (fun hHeld => ?_)
              clear hK K
              try simp only [Act.put, List.setIfInBounds_toArray, List.set_cons_zero, List.set_cons_succ]
              refine wpAnyH_take (i := 12) (v := ?v8) (by simp only [List.getElem?_toArray, List.getElem?_cons_succ, List.getElem?_cons_zero]; rfl) (by kernel_rfl) (by kernel_rfl) (by kernel_rfl) (by exact fun _ _ _ h => h) (Or.inl ⟨by rfl, fun w9 hS9 => ?hy8⟩) hHeld ?rest8
              case hy8 =>
                clear hS9
                go_simp
                try with_reducible rfl
              try simp only [Act.put, List.setIfInBounds_toArray, List.set_cons_zero, List.set_cons_succ]
              refine wpAnyH_done (by kernel_rfl) ?_ _
              go_wp2
              all_goals
                go_ret
                refine ⟨_, _, _, rfl, ?_, HB6.out⟩
                rw [HP.out]
                have e9 : [] ++ l.take j ++ [x] ++ l.drop j = l.take j ++ x :: l.drop j := by simp
                rw [e9] at ho6
                first | exact ho6 | simpa only [Nat.zero_add, Nat.add_zero] using ho6
            · have HB2 : Hid (Below w.heap.size w ((w.alloc (.cells #[] 3)).alloc (.cells #[.int .i64 x] 3)).drew) := Lib.hid (((Below.refl _ w).alloc (Nat.le_refl _) _).alloc (by simp) _).drew
              have O2 : Own .i64 3 ((w.alloc (.cells #[] 3)).alloc (.cells #[.int .i64 x] 3)).drew w.heap.size (some ⟨w.heap.size, 0, none⟩) 0 0 [] := (Own.empty (Nat.le_refl _)).alloc _
              have N2 : Nums .i64 ((w.alloc (.cells #[] 3)).alloc (.cells #[.int .i64 x] 3)).drew (some ⟨w.heap.size + 1, 0, none⟩) 1 [x] := by
                have := nums_new (w.alloc (.cells #[] 3)) .i64 x 3
                rw [World.size_alloc] at this
                exact this.same (Below.refl _ _).drew
              go_simp
              refine hK.out _ _ (H.out.same HB2.out) (fun hHeld => ?_)
              clear hK K
              try simp only [Act.put, List.setIfInBounds_toArray, List.set_cons_zero, List.set_cons_succ]
              refine wpAnyH_ready (rs := [4]) (by kernel_rfl) (by simp) (AllReadyH.cons (by simp only [List.getElem?_toArray, List.getElem?_cons_succ, List.getElem?_cons_zero]; rfl) (fun K hK => ?_) AllReadyH.nil)
              refine step_app2 _ (by rfl) (.tmp 35) (.tmp 38) 24 (by rfl) .i64 3 i0 (.int .i64 0) 8 Try.underlying24 HI.out.1 HI.out.2.1 HI.out.2.2.1 HI.out.2.2.2 rfl (by rfl) O2 (by rfl) (nums_head hHeld hjn) (by omega) (by omega) HB2.out.size ?_
              intro a3 c3 w3 ho3 hg3
              skip
              have HB3 := Lib.hid (grown_to hg3 HB2.out (Own.span O2) (Nat.le_refl _) HB2.out.size)
              have N3 := nums_far N2 hg3 (by simp [Value.ownBlock])
              refine hK.out _ _ (H.out.same HB3.out) (fun hHeld => ?_)
              clear hK K
              try simp only [Act.put, List.setIfInBounds_toArray, List.set_cons_zero, List.set_cons_succ]
              refine wpAnyH_ready (rs := [7]) (by kernel_rfl) (by simp) (AllReadyH.cons (by simp only [List.getElem?_toArray, List.getElem?_cons_succ, List.getElem?_cons_zero]; rfl) (fun K hK => ?_) AllReadyH.nil)
              refine step_app2 _ (by rfl) (.tmp 39) (.tmp 41) 24 (by rfl) .i64 3 i0 (.int .i64 0) 8 Try.underlying24 HI.out.1 HI.out.2.1 HI.out.2.2.1 HI.out.2.2.2 rfl (by rfl) ho3 (by rfl) N3 (by omega) (by omega) HB3.out.size ?_
              intro a5 c5 w5 ho5 hg5
              skip
              have HB5 := Lib.hid (grown_to hg5 HB3.out (Own.span ho3) (Nat.le_refl _) HB3.out.size)
              refine hK.out _ _ (H.out.same HB5.out) (fun hHeld => ?_)
              clear hK K
              try simp only [Act.put, List.setIfInBounds_toArray, List.set_cons_zero, List.set_cons_succ]
              refine wpAnyH_ready (rs := [11]) (by kernel_rfl) (by simp) (AllReadyH.cons (by simp only [List.getElem?_toArray, List.getElem?_cons_succ, List.getElem?_cons_zero]; rfl) (fun K hK => ?_) AllReadyH.nil)
              refine step_app2 _ (by rfl) (.tmp 42) (.tmp 45) 24 (by rfl) .i64 3 i0 (.int .i64 0) 8 Try.underlying24 HI.out.1 HI.out.2.1 HI.out.2.2.1 HI.out.2.2.2 rfl (by rfl) ho5 (by rfl) (nums_tail c hHeld hjn hc.1) (by omega) (by omega) HB5.out.size ?_
              intro a6 c6 w6 ho6 hg6
              skip
              have HB6 := Lib.hid (grown_to hg6 HB5.out (Own.span ho5) (Nat.le_refl _) HB5.out.size)
              refine hK.out _ _ (H.out.same HB6.out) (fun hHeld => ?_)
              clear hK K
              try simp only [Act.put, List.setIfInBounds_toArray, List.set_cons_zero, List.set_cons_succ]
              refine wpAnyH_take (i := 12) (v := ?v9) (by simp only [List.getElem?_toArray, List.getElem?_cons_succ, List.getElem?_cons_zero]; rfl) (by kernel_rfl) (by kernel_rfl) (by kernel_rfl) (by exact fun _ _ _ h => h) (Or.inl ⟨by rfl, fun w9 hS9 => ?hy9⟩) hHeld ?rest9
              case hy9 =>
                clear hS9
                go_simp
                try with_reducible rfl
              try simp only [Act.put, List.setIfInBounds_toArray, List.set_cons_zero, List.set_cons_succ]
              refine wpAnyH_done (by kernel_rfl) ?_ _
              go_wp2
              all_goals
                go_ret
                refine ⟨_, _, _, rfl, ?_, HB6.out⟩
                rw [HP.out]
                have e9 : [] ++ l.take j ++ [x] ++ l.drop j = l.take j ++ x :: l.drop j := by simp
                rw [e9] at ho6
                first | exact ho6 | simpa only [Nat.zero_add, Nat.add_zero] using ho6
          · have HB1 : Hid (Below w.heap.size w (w.alloc (.cells #[.int .i64 x] 3)).drew) := Lib.hid ((Below.refl _ w).alloc (Nat.le_refl _) _).drew
            go_simp
            refine hK.out _ _ (H.out.same HB1.out) (fun hHeld => ?_)
            clear hK K
            try simp only [Act.put, List.setIfInBounds_toArray, List.set_cons_zero, List.set_cons_succ]
            refine wpAnyH_ready (rs := [0]) (by kernel_rfl) (by simp) (AllReadyH.cons (by simp only [List.getElem?_toArray, List.getElem?_cons_succ, List.getElem?_cons_zero]; rfl) (fun K hK => ?_) AllReadyH.nil)
            have HB2 : Hid (Below w.heap.size w ((w.alloc (.cells #[.int .i64 x] 3)).alloc (.cells #[] 3)).drew) := Lib.hid (((Below.refl _ w).alloc (Nat.le_refl _) _).alloc (by simp) _).drew
            have O2 : Own .i64 3 ((w.alloc (.cells #[.int .i64 x] 3)).alloc (.cells #[] 3)).drew w.heap.size (some ⟨w.heap.size + 1, 0, none⟩) 0 0 [] := by
              have := Own.empty (k := .i64) (t := 3) (w := w.alloc (.cells #[.int .i64 x] 3)) (B := w.heap.size) (by simp)
              rw [World.size_alloc] at this
              exact this
            have N2 : Nums .i64 ((w.alloc (.cells #[.int .i64 x] 3)).alloc (.cells #[] 3)).drew (some ⟨w.heap.size, 0, none⟩) 1 [x] := (nums_new w .i64 x 3).same (alloc_same _ _).drew
            go_simp
            refine hK.out _ _ (H.out.same HB2.out) (fun hHeld => ?_)
            clear hK K
            try simp only [Act.put, List.setIfInBounds_toArray, List.set_cons_zero, List.set_cons_succ]
            refine wpAnyH_ready (rs := [4]) (by kernel_rfl) (by simp) (AllReadyH.cons (by simp only [List.getElem?_toArray, List.getElem?_cons_succ, List.getElem?_cons_zero]; rfl) (fun K hK => ?_) AllReadyH.nil)
            refine step_app2 _ (by rfl) (.tmp 35) (.tmp 38) 24 (by rfl) .i64 3 i0 (.int .i64 0) 8 Try.underlying24 HI.out.1 HI.out.2.1 HI.out.2.2.1 HI.out.2.2.2 rfl (by rfl) O2 (by rfl) (nums_head hHeld hjn) (by omega) (by omega) HB2.out.size ?_
            intro a3 c3 w3 ho3 hg3
            skip
            have HB3 := Lib.hid (grown_to hg3 HB2.out (Own.span O2) (Nat.le_refl _) HB2.out.size)
            have N3 := nums_far N2 hg3 (by simp [Value.ownBlock])
            refine hK.out _ _ (H.out.same HB3.out) (fun hHeld => ?_)
            clear hK K
            try simp only [Act.put, List.setIfInBounds_toArray, List.set_cons_zero, List.set_cons_succ]
            refine wpAnyH_ready (rs := [7]) (by kernel_rfl) (by simp) (AllReadyH.cons (by simp only [List.getElem?_toArray, List.getElem?_cons_succ, List.getElem?_cons_zero]; rfl) (fun K hK => ?_) AllReadyH.nil)
            refine step_app2 _ (by rfl) (.tmp 39) (.tmp 41) 24 (by rfl) .i64 3 i0 (.int .i64 0) 8 Try.underlying24 HI.out.1 HI.out.2.1 HI.out.2.2.1 HI.out.2.2.2 rfl (by rfl) ho3 (by rfl) N3 (by omega) (by omega) HB3.out.size ?_
            intro a5 c5 w5 ho5 hg5
            skip
            have HB5 := Lib.hid (grown_to hg5 HB3.out (Own.span ho3) (Nat.le_refl _) HB3.out.size)
            refine hK.out _ _ (H.out.same HB5.out) (fun hHeld => ?_)
            clear hK K
            try simp only [Act.put, List.setIfInBounds_toArray, List.set_cons_zero, List.set_cons_succ]
            refine wpAnyH_ready (rs := [11]) (by kernel_rfl) (by simp) (AllReadyH.cons (by simp only [List.getElem?_toArray, List.getElem?_cons_succ, List.getElem?_cons_zero]; rfl) (fun K hK => ?_) AllReadyH.nil)
            refine step_app2 _ (by rfl) (.tmp 42) (.tmp 45) 24 (by rfl) .i64 3 i0 (.int .i64 0) 8 Try.underlying24 HI.out.1 HI.out.2.1 HI.out.2.2.1 HI.out.2.2.2 rfl (by rfl) ho5 (by rfl) (nums_tail c hHeld hjn hc.1) (by omega) (by omega) HB5.out.size ?_
            intro a6 c6 w6 ho6 hg6
            skip
            have HB6 := Lib.hid (grown_to hg6 HB5.out (Own.span ho5) (Nat.le_refl _) HB5.out.size)
            refine hK.out _ _ (H.out.same HB6.out) (fun hHeld => ?_)
            clear hK K
            try simp only [Act.put, List.setIfInBounds_toArray, List.set_cons_zero, List.set_cons_succ]
            refine wpAnyH_take (i := 12) (v := ?v10) (by simp only [List.getElem?_toArray, List.getElem?_cons_succ, List.getElem?_cons_zero]; rfl) (by kernel_rfl) (by kernel_rfl) (by kernel_rfl) (by exact fun _ _ _ h => h) (Or.inl ⟨by rfl, fun w9 hS9 => ?hy10⟩) hHeld ?rest10
            case hy10 =>
              clear hS9
              go_simp
              try with_reducible rfl
            try simp only [Act.put, List.setIfInBounds_toArray, List.set_cons_zero, List.set_cons_succ]
            refine wpAnyH_done (by kernel_rfl) ?_ _
            go_wp2
            all_goals
              go_ret
              refine ⟨_, _, _, rfl, ?_, HB6.out⟩
              rw [HP.out]
              have e9 : [] ++ l.take j ++ [x] ++ l.drop j = l.take j ++ x :: l.drop j := by simp
              rw [e9] at ho6
              first | exact ho6 | simpa only [Nat.zero_add, Nat.add_zero] using ho6
    · obtain rfl : j = n := by omega
      go_wp2_with fail
      have HP : Hid (putL l x = l.take j ++ x :: l.drop j) := Lib.hid (putL_new HL.out (fun z hz => by have e := hl.out; rw [List.getElem?_eq_none (by omega)] at hz; cases hz))
      have hjc : j ≤ c := by omega
      have hjc2 : (j : Int) ≤ (c : Int) := by omega
      have hjn : j ≤ j := by omega
      refine wp_region_held_drew (S := fun w' => Nums .i64 w' (some ⟨g, 0, none⟩) j l) (by kernel_rfl) (H.out.same (Below.refl _ _).drew) (fun hHeld => ?_)
      refine wpAnyH_take (i := 1) (v := ?v11) (by simp only [List.getElem?_toArray, List.getElem?_cons_succ, List.getElem?_cons_zero]; rfl) (by kernel_rfl) (by kernel_rfl) (by kernel_rfl) (by exact fun _ _ _ h => h) (Or.inl ⟨by rfl, fun w9 hS9 => ?hy11⟩) hHeld ?rest11
      case hy11 =>
        clear hS9
        go_simp
        try with_reducible rfl
      try simp only [Act.put, List.setIfInBounds_toArray, List.set_cons_zero, List.set_cons_succ]
      refine wpAnyH_take (i := 2) (v := ?v12) (by simp only [List.getElem?_toArray, List.getElem?_cons_succ, List.getElem?_cons_zero]; rfl) (by kernel_rfl) (by kernel_rfl) (by kernel_rfl) (by exact fun _ _ _ h => h) (Or.inl ⟨by rfl, fun w9 hS9 => ?hy12⟩) hHeld ?rest12
      case hy12 =>
        clear hS9
        go_simp
        try with_reducible rfl
      try simp only [Act.put, List.setIfInBounds_toArray, List.set_cons_zero, List.set_cons_succ]
      refine wpAnyH_take (i := 3) (v := ?v13) (by simp only [List.getElem?_toArray, List.getElem?_cons_succ, List.getElem?_cons_zero]; rfl) (by kernel_rfl) (by kernel_rfl) (by kernel_rfl) (by exact fun _ _ _ h => h) (Or.inl ⟨by rfl, fun w9 hS9 => ?hy13⟩) hHeld ?rest13
      case hy13 =>
        clear hS9
        go_simp
        try with_reducible rfl
      try simp only [Act.put, List.setIfInBounds_toArray, List.set_cons_zero, List.set_cons_succ]
      refine wpAnyH_take (i := 5) (v := ?v14) (by simp only [List.getElem?_toArray, List.getElem?_cons_succ, List.getElem?_cons_zero]; rfl) (by kernel_rfl) (by kernel_rfl) (by kernel_rfl) (by exact fun _ _ _ h => h) (Or.inl ⟨by rfl, fun w9 hS9 => ?hy14⟩) hHeld ?rest14
      case hy14 =>
        clear hS9
        go_simp
        try with_reducible rfl
      try simp only [Act.put, List.setIfInBounds_toArray, List.set_cons_zero, List.set_cons_succ]
      refine wpAnyH_take (i := 8) (v := ?v15) (by simp only [List.getElem?_toArray, List.getElem?_cons_succ, List.getElem?_cons_zero]; rfl) (by kernel_rfl) (by kernel_rfl) (by kernel_rfl) (by exact fun _ _ _ h => h) (Or.inl ⟨by rfl, fun w9 hS9 => ?hy15⟩) hHeld ?rest15
      case hy15 =>
        clear hS9
        go_simp
        try with_reducible rfl
      try simp only [Act.put, List.setIfInBounds_toArray, List.set_cons_zero, List.set_cons_succ]
      refine wpAnyH_take (i := 9) (v := ?v16) (by simp only [List.getElem?_toArray, List.getElem?_cons_succ, List.getElem?_cons_zero]; rfl) (by kernel_rfl) (by kernel_rfl) (by kernel_rfl) (by exact fun _ _ _ h => h) (Or.inl ⟨by rfl, fun w9 hS9 => ?hy16⟩) hHeld ?rest16
      case hy16 =>
        clear hS9
        go_simp
        try with_reducible rfl
      try simp only [Act.put, List.setIfInBounds_toArray, List.set_cons_zero, List.set_cons_succ]
      refine wpAnyH_take (i := 10) (v := ?v17) (by simp only [List.getElem?_toArray, List.getElem?_cons_succ, List.getElem?_cons_zero]; rfl) (by kernel_rfl) (by kernel_rfl) (by kernel_rfl) (by exact fun _ _ _ h => h) (Or.inl ⟨by rfl, fun w9 hS9 => ?hy17⟩) hHeld ?rest17
      case hy17 =>
        clear hS9
        go_simp
        try with_reducible rfl
      try simp only [Act.put, List.setIfInBounds_toArray, List.set_cons_zero, List.set_cons_succ]
      refine wpAnyH_ready (rs := [0, 6]) (by kernel_rfl) (by simp) (AllReadyH.cons (by simp only [List.getElem?_toArray, List.getElem?_cons_succ, List.getElem?_cons_zero]; rfl) (fun K hK => ?_) (AllReadyH.cons (by simp only [List.getElem?_toArray, List.getElem?_cons_succ, List.getElem?_cons_zero]; rfl) (fun K hK => ?_) AllReadyH.nil))
      · have HB1 : Hid (Below w.heap.size w (w.alloc (.cells #[] 3)).drew) := Lib.hid ((Below.refl _ w).alloc (Nat.le_refl _) _).drew
        have O1 : Own .i64 3 (w.alloc (.cells #[] 3)).drew w.heap.size (some ⟨w.heap.size, 0, none⟩) 0 0 [] := Own.empty (Nat.le_refl _)
        go_simp
        refine hK.out _ _ (H.out.same HB1.out) (fun hHeld => ?_)
        clear hK K
        try simp only [Act.put, List.setIfInBounds_toArray, List.set_cons_zero, List.set_cons_succ]
        refine wpAnyH_ready (rs := [4, 6]) (by kernel_rfl) (by simp) (AllReadyH.cons (by simp only [List.getElem?_toArray, List.getElem?_cons_succ, List.getElem?_cons_zero]; rfl) (fun K hK => ?_) (AllReadyH.cons (by simp only [List.getElem?_toArray, List.getElem?_cons_succ, List.getElem?_cons_zero]; rfl) (fun K hK => ?_) AllReadyH.nil))
        · skip
          refine step_app2 _ (by rfl) (.tmp 35) (.tmp 38) 24 (by rfl) .i64 3 i0 (.int .i64 0) 8 Try.underlying24 HI.out.1 HI.out.2.1 HI.out.2.2.1 HI.out.2.2.2 rfl (by rfl) O1 (by rfl) (nums_head hHeld hjn) (by omega) (by omega) HB1.out.size ?_
          intro a2 c2 w2 ho2 hg2
          rw [Nat.zero_add] at ho2
          have HB2 := Lib.hid (grown_to hg2 HB1.out (Own.span O1) (Nat.le_refl _) HB1.out.size)
          refine hK.out _ _ (H.out.same HB2.out) (fun hHeld => ?_)
          clear hK K
          try simp only [Act.put, List.setIfInBounds_toArray, List.set_cons_zero, List.set_cons_succ]
          refine wpAnyH_ready (rs := [6]) (by kernel_rfl) (by simp) (AllReadyH.cons (by simp only [List.getElem?_toArray, List.getElem?_cons_succ, List.getElem?_cons_zero]; rfl) (fun K hK => ?_) AllReadyH.nil)
          have HB3 : Hid (Below w.heap.size w (w2.alloc (.cells #[.int .i64 x] 3))) := Lib.hid (HB2.out.alloc HB2.out.size _)
          have O3 := ho2.alloc (.cells #[.int .i64 x] 3)
          have N3 := nums_new w2 .i64 x 3
          go_simp
          refine hK.out _ _ (H.out.same HB3.out) (fun hHeld => ?_)
          clear hK K
          try simp only [Act.put, List.setIfInBounds_toArray, List.set_cons_zero, List.set_cons_succ]
          refine wpAnyH_ready (rs := [7]) (by kernel_rfl) (by simp) (AllReadyH.cons (by simp only [List.getElem?_toArray, List.getElem?_cons_succ, List.getElem?_cons_zero]; rfl) (fun K hK => ?_) AllReadyH.nil)
          refine step_app2 _ (by rfl) (.tmp 39) (.tmp 41) 24 (by rfl) .i64 3 i0 (.int .i64 0) 8 Try.underlying24 HI.out.1 HI.out.2.1 HI.out.2.2.1 HI.out.2.2.2 rfl (by rfl) O3 (by rfl) N3 (by omega) (by omega) HB3.out.size ?_
          intro a5 c5 w5 ho5 hg5
          skip
          have HB5 := Lib.hid (grown_to hg5 HB3.out (Own.span O3) (Nat.le_refl _) HB3.out.size)
          refine hK.out _ _ (H.out.same HB5.out) (fun hHeld => ?_)
          clear hK K
          try simp only [Act.put, List.setIfInBounds_toArray, List.set_cons_zero, List.set_cons_succ]
          refine wpAnyH_ready (rs := [11]) (by kernel_rfl) (by simp) (AllReadyH.cons (by simp only [List.getElem?_toArray, List.getElem?_cons_succ, List.getElem?_cons_zero]; rfl) (fun K hK => ?_) AllReadyH.nil)
          refine step_app2 _ (by rfl) (.tmp 42) (.tmp 45) 24 (by rfl) .i64 3 i0 (.int .i64 0) 8 Try.underlying24 HI.out.1 HI.out.2.1 HI.out.2.2.1 HI.out.2.2.2 rfl (by rfl) ho5 (by rfl) (nums_tail0 c hHeld hc.1) (by omega) (by omega) HB5.out.size ?_
          intro a6 c6 w6 ho6 hg6
          skip
          have HB6 := Lib.hid (grown_to hg6 HB5.out (Own.span ho5) (Nat.le_refl _) HB5.out.size)
          refine hK.out _ _ (H.out.same HB6.out) (fun hHeld => ?_)
          clear hK K
          try simp only [Act.put, List.setIfInBounds_toArray, List.set_cons_zero, List.set_cons_succ]
          refine wpAnyH_take (i := 12) (v := ?v18) (by simp only [List.getElem?_toArray, List.getElem?_cons_succ, List.getElem?_cons_zero]; rfl) (by kernel_rfl) (by kernel_rfl) (by kernel_rfl) (by exact fun _ _ _ h => h) (Or.inl ⟨by rfl, fun w9 hS9 => ?hy18⟩) hHeld ?rest18
          case hy18 =>
            clear hS9
            go_simp
            try with_reducible rfl
          try simp only [Act.put, List.setIfInBounds_toArray, List.set_cons_zero, List.set_cons_succ]
          refine wpAnyH_done (by kernel_rfl) ?_ _
          go_wp2
          all_goals
            go_ret
            refine ⟨_, _, _, rfl, ?_, HB6.out⟩
            rw [HP.out]
            have e9 : [] ++ l.take j ++ [x] ++ [] = l.take j ++ x :: l.drop j := by rw [List.drop_eq_nil_of_le (by have := hl.out; omega)]; simp
            rw [e9] at ho6
            first | exact ho6 | simpa only [Nat.zero_add, Nat.add_zero] using ho6
        · have HB2 : Hid (Below w.heap.size w ((w.alloc (.cells #[] 3)).alloc (.cells #[.int .i64 x] 3)).drew) := Lib.hid (((Below.refl _ w).alloc (Nat.le_refl _) _).alloc (by simp) _).drew
          have O2 : Own .i64 3 ((w.alloc (.cells #[] 3)).alloc (.cells #[.int .i64 x] 3)).drew w.heap.size (some ⟨w.heap.size, 0, none⟩) 0 0 [] := (Own.empty (Nat.le_refl _)).alloc _
          have N2 : Nums .i64 ((w.alloc (.cells #[] 3)).alloc (.cells #[.int .i64 x] 3)).drew (some ⟨w.heap.size + 1, 0, none⟩) 1 [x] := by
            have := nums_new (w.alloc (.cells #[] 3)) .i64 x 3
            rw [World.size_alloc] at this
            exact this.same (Below.refl _ _).drew
          go_simp
          refine hK.out _ _ (H.out.same HB2.out) (fun hHeld => ?_)
          clear hK K
          try simp only [Act.put, List.setIfInBounds_toArray, List.set_cons_zero, List.set_cons_succ]
          refine wpAnyH_ready (rs := [4]) (by kernel_rfl) (by simp) (AllReadyH.cons (by simp only [List.getElem?_toArray, List.getElem?_cons_succ, List.getElem?_cons_zero]; rfl) (fun K hK => ?_) AllReadyH.nil)
          refine step_app2 _ (by rfl) (.tmp 35) (.tmp 38) 24 (by rfl) .i64 3 i0 (.int .i64 0) 8 Try.underlying24 HI.out.1 HI.out.2.1 HI.out.2.2.1 HI.out.2.2.2 rfl (by rfl) O2 (by rfl) (nums_head hHeld hjn) (by omega) (by omega) HB2.out.size ?_
          intro a3 c3 w3 ho3 hg3
          skip
          have HB3 := Lib.hid (grown_to hg3 HB2.out (Own.span O2) (Nat.le_refl _) HB2.out.size)
          have N3 := nums_far N2 hg3 (by simp [Value.ownBlock])
          refine hK.out _ _ (H.out.same HB3.out) (fun hHeld => ?_)
          clear hK K
          try simp only [Act.put, List.setIfInBounds_toArray, List.set_cons_zero, List.set_cons_succ]
          refine wpAnyH_ready (rs := [7]) (by kernel_rfl) (by simp) (AllReadyH.cons (by simp only [List.getElem?_toArray, List.getElem?_cons_succ, List.getElem?_cons_zero]; rfl) (fun K hK => ?_) AllReadyH.nil)
          refine step_app2 _ (by rfl) (.tmp 39) (.tmp 41) 24 (by rfl) .i64 3 i0 (.int .i64 0) 8 Try.underlying24 HI.out.1 HI.out.2.1 HI.out.2.2.1 HI.out.2.2.2 rfl (by rfl) ho3 (by rfl) N3 (by omega) (by omega) HB3.out.size ?_
          intro a5 c5 w5 ho5 hg5
          skip
          have HB5 := Lib.hid (grown_to hg5 HB3.out (Own.span ho3) (Nat.le_refl _) HB3.out.size)
          refine hK.out _ _ (H.out.same HB5.out) (fun hHeld => ?_)
          clear hK K
          try simp only [Act.put, List.setIfInBounds_toArray, List.set_cons_zero, List.set_cons_succ]
          refine wpAnyH_ready (rs := [11]) (by kernel_rfl) (by simp) (AllReadyH.cons (by simp only [List.getElem?_toArray, List.getElem?_cons_succ, List.getElem?_cons_zero]; rfl) (fun K hK => ?_) AllReadyH.nil)
          refine step_app2 _ (by rfl) (.tmp 42) (.tmp 45) 24 (by rfl) .i64 3 i0 (.int .i64 0) 8 Try.underlying24 HI.out.1 HI.out.2.1 HI.out.2.2.1 HI.out.2.2.2 rfl (by rfl) ho5 (by rfl) (nums_tail0 c hHeld hc.1) (by omega) (by omega) HB5.out.size ?_
          intro a6 c6 w6 ho6 hg6
          skip
          have HB6 := Lib.hid (grown_to hg6 HB5.out (Own.span ho5) (Nat.le_refl _) HB5.out.size)
          refine hK.out _ _ (H.out.same HB6.out) (fun hHeld => ?_)
          clear hK K
          try simp only [Act.put, List.setIfInBounds_toArray, List.set_cons_zero, List.set_cons_succ]
          refine wpAnyH_take (i := 12) (v := ?v19) (by simp only [List.getElem?_toArray, List.getElem?_cons_succ, List.getElem?_cons_zero]; rfl) (by kernel_rfl) (by kernel_rfl) (by kernel_rfl) (by exact fun _ _ _ h => h) (Or.inl ⟨by rfl, fun w9 hS9 => ?hy19⟩) hHeld ?rest19
          case hy19 =>
            clear hS9
            go_simp
            try with_reducible rfl
          try simp only [Act.put, List.setIfInBounds_toArray, List.set_cons_zero, List.set_cons_succ]
          refine wpAnyH_done (by kernel_rfl) ?_ _
          go_wp2
          all_goals
            go_ret
            refine ⟨_, _, _, rfl, ?_, HB6.out⟩
            rw [HP.out]
            have e9 : [] ++ l.take j ++ [x] ++ [] = l.take j ++ x :: l.drop j := by rw [List.drop_eq_nil_of_le (by have := hl.out; omega)]; simp
            rw [e9] at ho6
            first | exact ho6 | simpa only [Nat.zero_add, Nat.add_zero] using ho6
      · have HB1 : Hid (Below w.heap.size w (w.alloc (.cells #[.int .i64 x] 3)).drew) := Lib.hid ((Below.refl _ w).alloc (Nat.le_refl _) _).drew
        go_simp
        refine hK.out _ _ (H.out.same HB1.out) (fun hHeld => ?_)
        clear hK K
        try simp only [Act.put, List.setIfInBounds_toArray, List.set_cons_zero, List.set_cons_succ]
        refine wpAnyH_ready (rs := [0]) (by kernel_rfl) (by simp) (AllReadyH.cons (by simp only [List.getElem?_toArray, List.getElem?_cons_succ, List.getElem?_cons_zero]; rfl) (fun K hK => ?_) AllReadyH.nil)
        have HB2 : Hid (Below w.heap.size w ((w.alloc (.cells #[.int .i64 x] 3)).alloc (.cells #[] 3)).drew) := Lib.hid (((Below.refl _ w).alloc (Nat.le_refl _) _).alloc (by simp) _).drew
        have O2 : Own .i64 3 ((w.alloc (.cells #[.int .i64 x] 3)).alloc (.cells #[] 3)).drew w.heap.size (some ⟨w.heap.size + 1, 0, none⟩) 0 0 [] := by
          have := Own.empty (k := .i64) (t := 3) (w := w.alloc (.cells #[.int .i64 x] 3)) (B := w.heap.size) (by simp)
          rw [World.size_alloc] at this
          exact this
        have N2 : Nums .i64 ((w.alloc (.cells #[.int .i64 x] 3)).alloc (.cells #[] 3)).drew (some ⟨w.heap.size, 0, none⟩) 1 [x] := (nums_new w .i64 x 3).same (alloc_same _ _).drew
        go_simp
        refine hK.out _ _ (H.out.same HB2.out) (fun hHeld => ?_)
        clear hK K
        try simp only [Act.put, List.setIfInBounds_toArray, List.set_cons_zero, List.set_cons_succ]
        refine wpAnyH_ready (rs := [4]) (by kernel_rfl) (by simp) (AllReadyH.cons (by simp only [List.getElem?_toArray, List.getElem?_cons_succ, List.getElem?_cons_zero]; rfl) (fun K hK => ?_) AllReadyH.nil)
        refine step_app2 _ (by rfl) (.tmp 35) (.tmp 38) 24 (by rfl) .i64 3 i0 (.int .i64 0) 8 Try.underlying24 HI.out.1 HI.out.2.1 HI.out.2.2.1 HI.out.2.2.2 rfl (by rfl) O2 (by rfl) (nums_head hHeld hjn) (by omega) (by omega) HB2.out.size ?_
        intro a3 c3 w3 ho3 hg3
        skip
        have HB3 := Lib.hid (grown_to hg3 HB2.out (Own.span O2) (Nat.le_refl _) HB2.out.size)
        have N3 := nums_far N2 hg3 (by simp [Value.ownBlock])
        refine hK.out _ _ (H.out.same HB3.out) (fun hHeld => ?_)
        clear hK K
        try simp only [Act.put, List.setIfInBounds_toArray, List.set_cons_zero, List.set_cons_succ]
        refine wpAnyH_ready (rs := [7]) (by kernel_rfl) (by simp) (AllReadyH.cons (by simp only [List.getElem?_toArray, List.getElem?_cons_succ, List.getElem?_cons_zero]; rfl) (fun K hK => ?_) AllReadyH.nil)
        refine step_app2 _ (by rfl) (.tmp 39) (.tmp 41) 24 (by rfl) .i64 3 i0 (.int .i64 0) 8 Try.underlying24 HI.out.1 HI.out.2.1 HI.out.2.2.1 HI.out.2.2.2 rfl (by rfl) ho3 (by rfl) N3 (by omega) (by omega) HB3.out.size ?_
        intro a5 c5 w5 ho5 hg5
        skip
        have HB5 := Lib.hid (grown_to hg5 HB3.out (Own.span ho3) (Nat.le_refl _) HB3.out.size)
        refine hK.out _ _ (H.out.same HB5.out) (fun hHeld => ?_)
        clear hK K
        try simp only [Act.put, List.setIfInBounds_toArray, List.set_cons_zero, List.set_cons_succ]
        refine wpAnyH_ready (rs := [11]) (by kernel_rfl) (by simp) (AllReadyH.cons (by simp only [List.getElem?_toArray, List.getElem?_cons_succ, List.getElem?_cons_zero]; rfl) (fun K hK => ?_) AllReadyH.nil)
        refine step_app2 _ (by rfl) (.tmp 42) (.tmp 45) 24 (by rfl) .i64 3 i0 (.int .i64 0) 8 Try.underlying24 HI.out.1 HI.out.2.1 HI.out.2.2.1 HI.out.2.2.2 rfl (by rfl) ho5 (by rfl) (nums_tail0 c hHeld hc.1) (by omega) (by omega) HB5.out.size ?_
        intro a6 c6 w6 ho6 hg6
        skip
        have HB6 := Lib.hid (grown_to hg6 HB5.out (Own.span ho5) (Nat.le_refl _) HB5.out.size)
        refine hK.out _ _ (H.out.same HB6.out) (fun hHeld => ?_)
        clear hK K
        try simp only [Act.put, List.setIfInBounds_toArray, List.set_cons_zero, List.set_cons_succ]
        refine wpAnyH_take (i := 12) (v := ?v20) (by simp only [List.getElem?_toArray, List.getElem?_cons_succ, List.getElem?_cons_zero]; rfl) (by kernel_rfl) (by kernel_rfl) (by kernel_rfl) (by exact fun _ _ _ h => h) (Or.inl ⟨by rfl, fun w9 hS9 => ?hy20⟩) hHeld ?rest20
        case hy20 =>
          clear hS9
          go_simp
          try with_reducible rfl
        try simp only [Act.put, List.setIfInBounds_toArray, List.set_cons_zero, List.set_cons_succ]
        refine wpAnyH_done (by kernel_rfl) ?_ _
        go_wp2
        all_goals
          go_ret
          refine ⟨_, _, _, rfl, ?_, HB6.out⟩
          rw [HP.out]
          have e9 : [] ++ l.take j ++ [x] ++ [] = l.take j ++ x :: l.drop j := by rw [List.drop_eq_nil_of_le (by have := hl.out; omega)]; simp
          rw [e9] at ho6
          first | exact ho6 | simpa only [Nat.zero_add, Nat.add_zero] using ho6
end Go.Proofs.Ytcpnchjgklemgaa
namespace Go.Proofs.Ytcpnchjgklemgaa
open Go.ChangeShapes Go.WideShapes Go.ChangeAt Go.RowKit
set_option linter.unusedVariables false
set_option linter.unusedSimpArgs false

theorem own_oneV (w : World) (x : Int) (t : TypeId) {B : Nat} (hB : B ≤ w.heap.size) : Own .i64 t (w.alloc (.cells #[.int .i64 x] t)) B (some ⟨w.heap.size, 0, none⟩) 1 1 [x] :=
  ⟨rfl, World.ownsRow_lit w #[.int .i64 x] 1 hB (by unfold maxLen; omega) rfl⟩
theorem putL_more (n : Int) : ∀ l : List Int, l.length ≤ (putL l n).length
  | [] => by simp [putL]
  | x :: t => by
    have := putL_more n t
    unfold putL
    split
    · simp; omega
    · split <;> simp
/-- The numbers that are drawn. -/
def Small (l : List Int) : Prop := ∀ z ∈ l, -1 ≤ z ∧ z ≤ 10
theorem Small.put {l : List Int} {x : Int} (h : Small l) (h0 : 1 ≤ x) (h1 : x ≤ 6) : Small (putL l x) := fun z hz => by
  rcases mem_putL.1 hz with rfl | q
  · omega
  · exact h z q
theorem Small.wf {l : List Int} (h : Small l) : ∀ z ∈ l, (Lit.int .i64 z).wf = true := fun z hz => by
  have := h z hz
  simp [Lit.wf, IntKind.min, IntKind.max, IntKind.signed, IntKind.bits]
  omega
/-- What a draw of a list leaves. -/
def DrewL (b : Nat) (a : Option Addr) (n c : Nat) (w : World) (e : Ending) (w' : World) : Prop :=
  ∃ (q : Option Addr) (m d : Nat) (l : List Int), e = .returned (.slice q m d) ∧ Own .i64 3 w' w.heap.size q m d l ∧ m ≤ 6 ∧ Small l ∧ Drawn b a n c w w'
set_option maxHeartbeats 2000000 in
set_option maxRecDepth 100000 in
theorem l12Draw_any (b : Nat) (a : Option Addr) (n c : Nat) (w : World) (hc : Curs w b a n c) :
    Calls Try.prog 104 #[.pointer (some ⟨b, 0, none⟩)] w (fun e w' => ∃ (q : Option Addr) (m d : Nat) (l : List Int), e = .returned (.slice q m d) ∧ Own .i64 3 w' w.heap.size q m d l ∧ 1 ≤ m ∧ m ≤ 5 ∧ Small l ∧ Drawn b a n c w w') := by
  have HC := Lib.hid hc
  have hblt := hc.lt
  clear hc
  go_enter Try.func104, Try.ntmps104
  go_wp2_with fail
  refine (below_any b a n c 4 (by omega) (by omega) _ HC.out).mono ?_
  rintro e w1 ⟨x, hx0, hx1, rfl, hd1⟩
  have hs1 := hd1.2.size
  have HO2 : Hid (Own .i64 3 (w1.alloc (.cells #[.int .i64 (1 + x)] 3)) w.heap.size (some ⟨w1.heap.size, 0, none⟩) 1 1 [1 + x]) := Lib.hid (own_oneV w1 (1 + x) 3 hs1)
  have HD2 : Hid (Drawn b a n c w (w1.alloc (.cells #[.int .i64 (1 + x)] 3))) := Lib.hid (hd1.same (alloc_same _ _))
  have HS0 : Hid (Small [1 + x]) := Lib.hid (fun z hz => by rw [List.mem_singleton.1 hz]; omega)
  clear hd1
  go_wp2_with fail
  refine (below_any b a n c 4 (by omega) (by omega) _ HD2.out.1).mono ?_
  rintro e w3 ⟨y, hy0, hy1, rfl, hd3⟩
  obtain ⟨r0, rfl⟩ : ∃ r : Nat, y = r := ⟨y.toNat, by omega⟩
  have HO3 := Lib.hid (HO2.out.only hd3.2 HO2.out.span (Or.inl hblt))
  have HD3 := Lib.hid (HD2.out.trans hd3)
  clear hd3 HO2 HD2
  go_wp2_with fail
  go_loopw [3, 4] (fun s i wr => ∃ (r : Nat) (q : Option Addr) (m d : Nat) (l : List Int), s = .slice q m d ∧ i = .int .i64 r ∧ 1 ≤ m ∧ m + r ≤ 5 ∧ Own .i64 3 wr w.heap.size q m d l ∧ Hid (Small l) ∧ Drawn b a n c w wr) (fun _ i _ => (intOf i).toNat)
  case atStart => exact ⟨r0, _, 1, 1, [1 + x], rfl, rfl, by omega, by omega, HO3.out, HS0, HD3.out⟩
  case round =>
    clear HO3 HD3
    obtain ⟨r, q, m, d, l, rfl, rfl, hm1, hr, ho, HS, hd⟩ := hrel
    have HO := Lib.hid ho
    have HD := Lib.hid hd
    have hsr := hd.2.size
    clear ho hd
    by_cases h0 : 0 < r
    · have h0I : (0 : Int) < (r : Int) := by omega
      go_wp2_with fail
      refine (below_any b a n c 6 (by omega) (by omega) _ HD.out.1).mono ?_
      rintro e w4 ⟨z, hz0, hz1, rfl, hd4⟩
      have HO4 := Lib.hid (HO.out.only hd4.2 HO.out.span (Or.inl hblt))
      have HD4 := Lib.hid (HD.out.trans hd4)
      have hs4 := hd4.2.size
      obtain ⟨g, rfl, _, _⟩ := HO.out.head (by omega)
      clear hd4
      go_wp2_with fail
      refine (specPut_any g m d l (1 + z) w4 HO4.out.nums HO4.out.room (by omega)).mono ?_
      rintro e w5 ⟨q5, m5, d5, rfl, ho5, hb5⟩
      have HO5 := Lib.hid (ho5.lower (show w.heap.size ≤ w4.heap.size by omega))
      have HD5 := Lib.hid (HD4.out.same hb5)
      have hm5 : 1 ≤ m5 ∧ m5 ≤ m + 1 := by
        have e1 := ho5.len
        have e2 := HO4.out.len
        have e3 := putL_len (1 + z) l
        have e4 := putL_more (1 + z) l
        omega
      have HS5 : Hid (Small (putL l (1 + z))) := Lib.hid (HS.out.put (by omega) (by omega))
      clear ho5 hb5
      go_wp2_with fail
      go_roundw
      case rel => exact ⟨r - 1, q5, m5, d5, _, rfl, by go_num, by omega, by omega, HO5.out, HS5, HD5.out⟩
      case measure => simp [intOf]; omega
    · obtain rfl : r = 0 := by omega
      go_wp2_with fail
      go_ret
      exact ⟨q, m, d, l, rfl, HO.out, hm1, by omega, HS.out, HD.out⟩
theorem small_set {l : List Int} (h : Small l) (k : Nat) {x : Int} (h0 : -1 ≤ x) (h1 : x ≤ 10) : Small (l.set k x) := fun z hz => by
  rcases List.mem_or_eq_of_mem_set hz with q | rfl
  · exact h z q
  · omega
set_option maxHeartbeats 2000000 in
set_option maxRecDepth 100000 in
theorem l12Any_any (b : Nat) (a : Option Addr) (n c : Nat) (w : World) (hc : Curs w b a n c) :
    Calls Try.prog 66 #[.pointer (some ⟨b, 0, none⟩)] w (DrewL b a n c w) := by
  have HC := Lib.hid hc
  have hblt := hc.lt
  obtain ⟨i0, hi, hz0, hz1, hz2⟩ := info_parts infoIntS
  have HI := Lib.hid (And.intro hi (And.intro hz0 (And.intro hz1 hz2)))
  clear hi hz0 hz1 hz2 hc
  unfold DrewL
  go_enter Try.func66, Try.ntmps66
  go_wp2_with fail
  refine (l12Draw_any b a n c w HC.out).mono ?_
  rintro e w1 ⟨q, m, d, l, rfl, ho, hm1, hm, hs, hd⟩
  have HO1 := Lib.hid ho
  have HS := Lib.hid hs
  have HD1 := Lib.hid hd
  clear ho hs hd
  go_wp2_with fail
  refine (below_any b a n c 9 (by omega) (by omega) _ HD1.out.1).mono ?_
  rintro e w3 ⟨s, hs0, hs1, rfl, hd3⟩
  have HO3 := Lib.hid (HO1.out.only hd3.2 HO1.out.span (Or.inl hblt))
  have HD3 := Lib.hid (HD1.out.trans hd3)
  have hsz3 := HD3.out.2.size
  clear hd3 HO1 HD1
  by_cases e0 : s = 0
  · subst e0
    go_wp2_with fail
    refine (pickNew b a n c [0, -1, 9, 10] 4 (by omega) (by omega) rfl rfl w3 HD3.out.1).mono ?_
    rintro e w4 ⟨z, hz4, rfl, hd4⟩
    have hzb : -1 ≤ z ∧ z ≤ 10 := by
      simp only [List.mem_cons, List.not_mem_nil, or_false] at hz4
      omega
    have HO4 := Lib.hid (HO3.out.only hd4.2 HO3.out.span (Or.inl hblt))
    have HD4 := Lib.hid (HD3.out.trans hd4)
    clear hd4 hz4
    obtain ⟨g, rfl, hg1, hg2⟩ := HO4.out.head (by omega)
    have hf := HO4.out.row.frozenAt 0
    obtain ⟨u, hu⟩ : ∃ u, w4.cell? ⟨g, 0, none⟩ = some u := by
      rw [HO4.out.row.cellAt 0 (by omega)]
      have : 0 < (l.map (Value.int .i64)).length := by rw [List.length_map, HO4.out.len]; omega
      exact ⟨_, List.getElem?_eq_getElem this⟩
    have hst := HO4.out.row.stored 0 (.int .i64 z)
    rw [← List.map_set] at hst
    have HO5 : Hid (Own .i64 3 (w4.setCell ⟨g, 0, none⟩ (.int .i64 z)) w.heap.size (some ⟨g, 0, none⟩) m d (l.set 0 z)) := Lib.hid ⟨by rw [List.length_set]; exact HO4.out.len, hst.1⟩
    have HB5 : Hid (Below w.heap.size w4 (w4.setCell ⟨g, 0, none⟩ (.int .i64 z))) := Lib.hid ((Below.refl _ w4).setCell hg1 _)
    have HD5 := Lib.hid (HD4.out.under HC.out HB5.out (Nat.le_refl _))
    clear hst
    go_wp2_with fail
    go_ret
    exact ⟨_, _, _, _, rfl, HO5.out, by omega, small_set HS.out 0 hzb.1 hzb.2, HD5.out⟩
  · have n0 : (s == 0) = false := by simp [e0]
    by_cases e1 : s = 1
    · subst e1
      obtain ⟨g, rfl, hg1, hg2⟩ := HO3.out.head (by omega)
      obtain ⟨ad, z, e9, hz, hcell⟩ := HO3.out.nums.at_ (show 0 < m by omega)
      cases e9
      have hzb := HS.out z (List.mem_of_getElem? hz)
      have hcell2 : w3.cell? ⟨g, 0, none⟩ = some (.int .i64 z) := by simpa [Addr.add] using hcell
      clear hcell hz
      go_wp2_with (at_builtin; refine wpl_app _ rfl (.tmp 17) (.tmp 21) 24 rfl .i64 3 i0 (.int .i64 0) 8 Try.underlying24 HI.out.1 HI.out.2.1 HI.out.2.2.1 HI.out.2.2.2 rfl rfl (HO3.out.alloc _) rfl (nums_new _ _ _ _) (by omega) ?c6 ?c7 ?_)
      case c6 => omega
      case c7 => simp; omega
      intro a4 c4 w4 ho4 hb4
      have HO4 := Lib.hid ho4
      have HD4 := Lib.hid (HD3.out.under HC.out (((alloc_same _ _).mono hsz3).trans hb4) (Nat.le_refl _))
      clear ho4 hb4
      go_wp2_with fail
      go_ret
      exact ⟨_, _, _, _, rfl, HO4.out, by omega, (fun y hy => by
        rcases List.mem_append.1 hy with q | q
        · exact HS.out y q
        · rw [List.mem_singleton.1 q]; exact hzb), HD4.out⟩
    · have n1 : (s == 1) = false := by simp [e1]
      by_cases e2 : s = 2
      · subst e2
        have HO4 := Lib.hid (Own.empty (k := .i64) (t := 3) (w := w3) (B := w.heap.size) hsz3)
        have HD4 := Lib.hid (HD3.out.same (alloc_same w3 (.cells #[] 3)))
        go_wp2_with fail
        go_ret
        exact ⟨_, _, _, _, rfl, HO4.out, by omega, (fun y hy => by cases hy), HD4.out⟩
      · have n2 : (s == 2) = false := by simp [e2]
        go_wp2_with fail
        go_ret
        exact ⟨_, _, _, _, rfl, HO3.out, by omega, HS.out, HD3.out⟩
end Go.Proofs.Ytcpnchjgklemgaa
namespace Go.Proofs.Ytcpnchjgklemgaa
open Go.ChangeShapes Go.WideShapes Go.ChangeAt Go.RowKit
set_option linter.unusedVariables false

section
variable {α : Type} {enc : α → List Value} {s : Nat}
theorem flatOf_one (x : α) : flatOf enc [x] = enc x := by simp [flatOf]
theorem items_flat (hs : ∀ x, (enc x).length = s) (h0 : 0 < s) {w : World} {b o m : Nat} {l : List α} (h : Items enc s w (some ⟨b, o, none⟩) m l) : ∀ p u, (flatOf enc l)[p]? = some u → w.cell? ((⟨b, o, none⟩ : Addr).add p) = some u := by
  intro p u hp
  have hlt : p < l.length * s := by
    rcases Nat.lt_or_ge p (l.length * s) with h1 | h1
    · exact h1
    · rw [List.getElem?_eq_none (by rw [flatOf_len hs]; exact h1)] at hp; cases hp
  have hj : p / s < l.length := Nat.div_lt_of_lt_mul (by rw [Nat.mul_comm]; exact hlt)
  have hi : p % s < s := Nat.mod_lt _ h0
  have e : p / s * s + p % s = p := by rw [Nat.mul_comm]; exact Nat.div_add_mod p s
  have h2 := flatOf_at hs l (p / s) _ (p % s) (List.getElem?_eq_getElem hj) hi
  rw [e, hp] at h2
  obtain ⟨b', o', e', hc⟩ := h.cell (p / s) _ (List.getElem?_eq_getElem hj)
  cases e'
  have h3 := hc (p % s) u h2.symm
  rw [Nat.add_assoc, e] at h3
  have e2 : (⟨b, o, none⟩ : Addr).add p = ⟨b, o + p, none⟩ := by
    unfold Addr.add
    by_cases hq : p = 0 <;> simp [hq]
  rw [e2]
  exact h3
theorem items_new (hs : ∀ x, (enc x).length = s) (w : World) (x : α) (t : TypeId) : Items enc s (w.alloc (.cells (enc x).toArray t)) (some ⟨w.heap.size, 0, none⟩) 1 [x] :=
  ⟨rfl, by omega, fun j y hj => by
    have hj0 : j = 0 := by
      rcases Nat.eq_zero_or_pos j with h | h
      · exact h
      · rw [List.getElem?_eq_none (by simp; omega)] at hj; cases hj
    subst hj0
    have : y = x := by simpa using hj.symm
    subst this
    refine ⟨_, _, rfl, fun i v hv => ?_⟩
    unfold World.cell?
    rw [show (⟨w.heap.size, 0 + 0 * s + i, none⟩ : Addr).block = w.heap.size from rfl, heap_alloc_new]
    simpa using hv⟩
variable {P : Program} (w : World)
theorem run_appI (hs : ∀ x, (enc x).length = s) (h0 : 0 < s) (h1 : ∀ x, ∀ u ∈ enc x, u.oneCell' = true) (t ty e : TypeId) (i : TypeInfo) (z : Value) (bytes : Nat) (ht : P.underlying t = some (.slice e)) (hi : P.info? e = some i) (hz : i.zero = some z) (hsize : i.size = s) (hby : i.bytes = bytes) (hzs : z.cells.size = s)
    {B n c m d b o : Nat} {a : Option Addr} {l l' : List α} (ho : OwnI enc s e w B a n c l) (hn : Items enc s w (some ⟨b, o, none⟩) m l') (hbytes : (n + m) * bytes ≤ 140737488355328) (h63 : n + m ≤ maxLen) (hB : B ≤ w.heap.size) :
    ∃ a' c' w', (Builtin.append_ #[t, t] ty #[.slice a n c, .slice (some ⟨b, o, none⟩) m d]).run P w = .ok (.slice a' (n + m) c') w' ∧ OwnI enc s e w' B a' (n + m) c' (l ++ l') ∧ w.grownBy w' (Value.ownBlock (.slice a n c)) := by
  obtain ⟨v', w', hr, h2, h3, _, _⟩ := run_append_own_at (P := P) w B t ty e i z s bytes ht hi hz hsize hby hzs h0 (.slice a n c) n (flatOf enc l) ho.2 ⟨b, o, none⟩ m d (flatOf enc l') (by rw [flatOf_len hs, hn.len]) (items_flat hs h0 hn) (fun u hu => by
      obtain ⟨x, _, hx⟩ := List.mem_flatMap.1 hu
      exact h1 x u hx) h63 hbytes hB
  rw [← flatOf_app] at h2
  have hl : (l ++ l').length = n + m := by rw [List.length_append, ho.1, hn.len]
  rcases h2.2 with ⟨rfl, hn'⟩ | ⟨g, cap, cur, rfl, hrest⟩
  · exact ⟨none, 0, w', by rw [hn']; exact hr, ⟨hl, by rw [hn'] at h2 ⊢; exact h2⟩, h3⟩
  · exact ⟨_, cap, w', hr, ⟨hl, h2⟩, h3⟩
theorem wpl_appI (hs : ∀ x, (enc x).length = s) (h0 : 0 < s) (h1 : ∀ x, ∀ u ∈ enc x, u.oneCell' = true) {ops : Array Oper} {rest : List Oper} {o : Oper} {act : Act} {Q : Exit → Act → World → Prop} (hgd : o.guard = none) (q x : Operand) (t : TypeId)
    (ho : o.op = .call { callee := .builtin .append, args := #[q, x], argTypes := #[t, t] })
    (e : TypeId) (i : TypeInfo) (z : Value) (bytes : Nat) (ht : P.underlying t = some (.slice e)) (hi : P.info? e = some i) (hz : i.zero = some z) (hsize : i.size = s) (hby : i.bytes = bytes) (hzs : z.cells.size = s)
    {B n c m d b off : Nat} {a : Option Addr} {l l' : List α} (hq : act.eval q = .slice a n c) (hown : OwnI enc s e w B a n c l) (hx : act.eval x = .slice (some ⟨b, off, none⟩) m d) (hnew : Items enc s w (some ⟨b, off, none⟩) m l')
    (hb1 : 0 < bytes) (hbytes : (n + m) * bytes ≤ 140737488355328) (hB : B ≤ w.heap.size)
    (h : ∀ a' c' w', OwnI enc s e w' B a' (n + m) c' (l ++ l') → Below B w w' → wpList P ops Q rest (act.put o.dst (.slice a' (n + m) c')) w') : wpList P ops Q (o :: rest) act w := by
  refine wpList_plain hgd fun K hK => ?_
  have h63 : n + m ≤ maxLen := by
    have := Nat.mul_le_mul_left (n + m) hb1
    unfold maxLen
    omega
  obtain ⟨a', c', w', hr, h2, h3⟩ := run_appI (P := P) (d := d) w hs h0 h1 t o.type e i z bytes ht hi hz hsize hby hzs hown hnew hbytes h63 hB
  unfold Oper.wp execOp
  simp only [ho, resolve, invoke, builtin, Sem.run_bind, Sem.run_pure, Result.andThen_ok, List.map_toArray, List.map_cons, List.map_nil, hq, hx, hr]
  exact hK _ _ (h a' c' w' h2 (grown_to h3 (Below.refl B w) hown.span (Nat.le_refl _) hB))
end
/-- Strings, as elements. -/
def strEnc (x : ByteArray) : List Value := [.string x]
theorem strEnc_len (x : ByteArray) : (strEnc x).length = 1 := rfl
theorem strEnc_one (x : ByteArray) : ∀ u ∈ strEnc x, u.oneCell' = true := by
  intro u hu
  have : u = .string x := by simpa [strEnc] using hu
  subst this
  rfl
end Go.Proofs.Ytcpnchjgklemgaa
namespace Go.Proofs.Ytcpnchjgklemgaa
open Go.ChangeShapes Go.WideShapes Go.ChangeAt Go.RowKit
set_option linter.unusedVariables false

section
variable {α : Type} {enc : α → List Value} {s : Nat}
/-- A step of the cursor leaves what lies in other blocks. -/
theorem OwnI.only {t : TypeId} {w w' : World} {B n c b lo hi : Nat} {a : Option Addr} {l : List α} (h : OwnI enc s t w B a n c l) (ho : Only b w w') (sp : Span a lo hi) (hd : b < lo ∨ hi ≤ b) : OwnI enc s t w' B a n c l := by
  have hg := only_grown ho
  cases a with
  | none => exact ⟨h.1, h.2.kept hg (Or.inl rfl)⟩
  | some ad =>
    have h1 := sp ad rfl
    refine ⟨h.1, h.2.kept hg (Or.inr ?_)⟩
    simp only [Value.ownBlock, ne_eq, Option.some.injEq]
    omega
variable {P : Program} (w : World)
/-- Nothing is appended. -/
theorem run_app_nothingI (B : Nat) (t ty e : TypeId) (i : TypeInfo) (ht : P.underlying t = some (.slice e)) (hi : P.info? e = some i) {v : Value} {n : Nat} {xs : List Value} (hown : w.ownsRow B e s v n xs) (d : Nat) :
    (Builtin.append_ #[t, t] ty #[v, .slice none 0 d]).run P w = .ok v w := by
  rcases hown.2 with ⟨rfl, rfl⟩ | ⟨g, cap, cur, rfl, _, _, hle, _⟩
  · simp [Builtin.append_, run_underlying ht, sizeOf, typeInfo, hi, Builtin.lenOf, Builtin.firstCells]
  · simp [Builtin.append_, run_underlying ht, sizeOf, typeInfo, hi, Builtin.lenOf, Builtin.firstCells, hle, storeCells]
end

def Fd.put (x : Fd) (k : Nat) (v : Int) : Fd := match k with
  | 0 => { x with kind := v }
  | 1 => { x with max := v }
  | 2 => { x with cond := v }
  | _ => { x with is := v }
theorem Fd.put_enc (x : Fd) (k : Nat) (hk : k < 4) (v : Int) : (x.put k v).enc = x.enc.set k (.int .i64 v) := by
  match k, hk with
  | 0, _ => rfl
  | 1, _ => rfl
  | 2, _ => rfl
  | 3, _ => rfl
theorem flat_put : ∀ (l : List Fd) (i k : Nat) (x : Fd) (v : Int), l[i]? = some x → k < 4 → (flatOf Fd.enc l).set (i * 4 + k) (.int .i64 v) = flatOf Fd.enc (l.set i (x.put k v))
  | [], i, k, x, v, h, hk => by simp at h
  | y :: t, 0, k, x, v, h, hk => by
    have : y = x := by simpa using h
    subst this
    have e : flatOf Fd.enc (y :: t) = y.enc ++ flatOf Fd.enc t := by simp [flatOf]
    rw [e, Nat.zero_mul, Nat.zero_add, List.set_append_left _ _ (by rw [Fd.enc_len]; exact hk), ← Fd.put_enc y k hk v, List.set_cons_zero]
    simp [flatOf]
  | y :: t, i + 1, k, x, v, h, hk => by
    have ih := flat_put t i k x v (by simpa using h) hk
    have e : flatOf Fd.enc (y :: t) = y.enc ++ flatOf Fd.enc t := by simp [flatOf]
    rw [e, List.set_append_right _ _ (by rw [Fd.enc_len]; omega), Fd.enc_len, show (i + 1) * 4 + k - 4 = i * 4 + k by omega, ih, List.set_cons_succ]
    simp [flatOf]
/-- Each Max is an integer of 64 bits. -/
def FM (l : List Fd) : Prop := ∀ x ∈ l, I64 x.max
/-- One number is stored into a list of the call's own. -/
theorem ownf_put {t : TypeId} {w : World} {B g n c : Nat} {l : List Fd} (h : OwnF t w B (some ⟨g, 0, none⟩) n c l) {i : Nat} (hi : i < n) (k : Nat) (hk : k < 4) (v : Int) :
    ∃ l', OwnF t (w.setCell ⟨g, i * 4 + k, none⟩ (.int .i64 v)) B (some ⟨g, 0, none⟩) n c l' ∧ w.grownBy (w.setCell ⟨g, i * 4 + k, none⟩ (.int .i64 v)) (some g) ∧ (FM l → I64 v → FM l') := by
  have hs := h.2.stored (i * 4 + k) (.int .i64 v)
  have hl : i < l.length := by rw [h.1]; exact hi
  rw [flat_put l i k _ v (List.getElem?_eq_getElem hl) hk] at hs
  refine ⟨_, ⟨by rw [List.length_set]; exact h.1, hs.1⟩, hs.2, fun hf hv x hx => ?_⟩
  obtain ⟨j, hj⟩ := List.getElem?_of_mem hx
  by_cases e : j = i
  · subst e
    rw [List.getElem?_set_self hl] at hj
    cases hj
    have h0 := hf (l[j]) (List.getElem_mem hl)
    match k, hk with
    | 0, _ => exact h0
    | 1, _ => exact hv
    | 2, _ => exact h0
    | 3, _ => exact h0
  · rw [List.getElem?_set_ne (by omega)] at hj
    exact hf x (List.mem_of_getElem? hj)
/-- A write to a slice of the call's own leaves the cursor. -/
theorem Curs.far {u w : World} {b g : Nat} {a : Option Addr} {n c : Nat} (h : Curs u b a n c) (hg : u.grownBy w (some g)) (h0 : g ≠ b) {v : World} (hv : Curs v b a n c) (hd : Drawn b a n c v u) (hgv : v.heap.size ≤ g) : Drawn b a n c v w :=
  hd.under hv (B := v.heap.size) ⟨hg.os, hg.tape, hg.output, hg.size, fun k hk => hg.block k (Nat.lt_of_lt_of_le hk hd.2.size) (fun e => by cases e; omega)⟩ (Nat.le_refl _)
end Go.Proofs.Ytcpnchjgklemgaa
