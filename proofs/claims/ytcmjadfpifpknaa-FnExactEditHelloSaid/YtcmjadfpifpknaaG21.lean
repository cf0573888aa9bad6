/- Lists of versions, by the model: whether a list is one, what two have in common, the greatest common version, the runs. A number put into an ascending list, by the model. What two lists of numbers have in common, a list without a number, the greatest common version, a version added and taken away, the runs: by the model. The greatest common version, a version added and taken away, the runs of a list: by the model. -/
import Derived.Test.YtcmjadfpifpknaaG18
import Derived.Test.YtcmjadfpifpknaaG20
import Derived.Test.YtcmjadfpifpknaaG5
import Derived.Test.YtcmjadfpifpknaaG13
import Derived.Test.YtcmjadfpifpknaaG1
import Derived.Deep.RegionHeld3
import Derived.Test.YtcmjadfpifpknaaG19
namespace Go.Proofs.Ytcmjadfpifpknaa
open Go.ChangeShapes Go.WideShapes Go.ChangeAt Go.RowKit
set_option linter.unusedVariables false
set_option linter.unusedSimpArgs false

theorem quiet_of12 {P : Program} {f : FuncId} {args : Array Value} {w : World} {n : Nat} {v : Value} (h : Calls P f args (w.drewN n) fun e w' => e = .returned v ∧ w' = w.drewN n) : Calls P f args (w.drewN n) fun e w' => e = .returned v ∧ ∃ m, w' = w.drewN m :=
  h.mono fun _ _ ⟨he, hw⟩ => ⟨he, n, hw⟩
set_option maxHeartbeats 4000000 in
set_option maxRecDepth 100000 in
theorem specAreVersions_any {a : Option Addr} {n c : Nat} {l : List Int} {w : World} (h : Nums .i64 w a n l) :
    Calls Try.prog 52 #[.slice a n c] w (Told (.bool (areV l)) w) := by
  have hn := h.fits
  have H := Lib.hid h
  have HL := Lib.hid h.len
  clear h
  have mixed : Try.prog.follows .mixedOrders = true := by rfl
  go_enter Try.func52, Try.ntmps52
  go_wp2
  go_loopw [3] (fun i wr => ∃ (j : Nat), j ≤ n ∧ i = .int .i64 j ∧ Hid (∃ k : Nat, k < 512 ∧ l.take j = lw k ∧ voW (l.drop j) k = word l) ∧ Hid (Below w.heap.size w wr)) (fun i _ => n - (intOf i).toNat)
  case atStart => exact ⟨0, Nat.zero_le _, rfl, ⟨0, by omega, by rw [List.take_zero]; decide, rfl⟩, Below.refl _ _⟩
  case round =>
    obtain ⟨j, hj, rfl, HQ, HB⟩ := hrel
    by_cases hlt : j < n
    · obtain ⟨ad, x, rfl, hx, hc⟩ := (H.out.same HB.out).at_ hlt
      have HX := Lib.hid hx
      obtain ⟨k, hk, ht, hv⟩ := HQ.out
      rw [voW_step hx] at hv
      have h1 := l1R_b x 1 9
      clear HQ
      by_cases hr : 1 ≤ x ∧ x ≤ 9
      · rw [inBd_yes hr.1 hr.2] at h1
        by_cases hj0 : j = 0
        · have hz : decide (0 < j) = false := decide_eq_false (by omega)
          have hk0 : k = 0 := by
            rw [hj0, List.take_zero] at ht
            exact (lw_zero hk).1 ht.symm
          have hs : (1 ≤ x ∧ x ≤ 9) ∧ k < 2 ^ (x.toNat - 1) := ⟨hr, by rw [hk0]; exact Nat.two_pow_pos _⟩
          rw [voW_yes hs] at hv
          have HE : Hid (∃ k : Nat, k < 512 ∧ l.take (j + 1) = lw k ∧ voW (l.drop (j + 1)) k = word l) := ⟨_, or_lt hk hr, take_lw HX.out hk hs ht, hv⟩
          clear hv ht hk0 hs hr hk hj0 hx
          go_wp2_with fail
          go_quiet (first | (go_at_call 46; exact quiet_of12 (h1 _)))
          go_wp2
          go_roundw
          case rel => exact ⟨j + 1, by omega, by go_num, HE, HB.out.trans (drewN_same _ _ |>.mono HB.out.size)⟩
          case measure => simp [intOf]; omega
        · obtain ⟨i, rfl⟩ : ∃ i, j = i + 1 := ⟨j - 1, by omega⟩
          have hz : (0 : Int) < (i : Int) + 1 := by omega
          obtain ⟨ad2, y, eb, hy, hd⟩ := (H.out.same HB.out).at_ (show i < n by omega)
          cases eb
          have hc2 : wr.cell? ⟨ad.block, ad.off + (i + 1), none⟩ = some (.int .i64 x) := by
            have := hc
            unfold Addr.add at this
            simpa using this
          have h0i : (0 : Int) ≤ (i : Int) + 1 := by omega
          have hlast := take_last hy hk hr ht
          have z1 : ((i + 1 : Nat) : Int) - 1 = (i : Int) := by omega
          clear hy
          by_cases hasc : y < x
          · have hge : ¬ x ≤ y := by omega
            have hs : (1 ≤ x ∧ x ≤ 9) ∧ k < 2 ^ (x.toNat - 1) := ⟨hr, hlast.1 hasc⟩
            rw [voW_yes hs] at hv
            have HE : Hid (∃ k : Nat, k < 512 ∧ l.take (i + 1 + 1) = lw k ∧ voW (l.drop (i + 1 + 1)) k = word l) := ⟨_, or_lt hk hr, take_lw HX.out hk hs ht, hv⟩
            clear hv ht hs hr hk hlast hx hj0
            go_wp2_with fail
            go_quiet (first | (go_at_call 46; exact quiet_of12 (h1 _)))
            go_wp2
            go_roundw
            case rel => exact ⟨i + 1 + 1, by omega, by go_num, HE, HB.out.trans (drewN_same _ _ |>.mono HB.out.size)⟩
            case measure => simp [intOf]; omega
          · have hge : x ≤ y := by omega
            rw [voW_no (fun q => hasc (hlast.2 q.2))] at hv
            have HE : Hid (areV l = false) := areV_no hv.symm
            clear hv ht hr hk hlast hx hj0
            go_wp2_with fail
            go_quiet (first | (go_at_call 46; exact quiet_of12 (h1 _)))
            go_wp2
            go_ret
            exact ⟨by rw [HE.out]; rfl, HB.out.trans (drewN_same _ _ |>.mono HB.out.size)⟩
      · rw [inBd_no hr] at h1
        rw [voW_no (fun q => hr q.1)] at hv
        have HE : Hid (areV l = false) := areV_no hv.symm
        clear hv ht hr hk hx
        go_wp2_with fail
        go_quiet (first | (go_at_call 46; exact quiet_of12 (h1 _)))
        go_wp2
        go_ret
        exact ⟨by rw [HE.out]; rfl, HB.out.trans (drewN_same _ _ |>.mono HB.out.size)⟩
    · obtain rfl : j = n := by omega
      obtain ⟨k, hk, ht, hv⟩ := HQ.out
      have hv2 : word l = k := by
        rw [← HL.out, drop_all] at hv
        exact hv.symm
      rw [← HL.out, List.take_length] at ht
      by_cases h0 : j = 0
      · have HE : Hid (areV l = false) := areV_no (by
          rw [hv2]
          exact (lw_zero hk).1 (by rw [← ht]; exact List.eq_nil_of_length_eq_zero (by rw [HL.out]; exact h0)))
        subst h0
        clear hv hv2 ht hk HQ
        go_wp2
        go_ret
        exact ⟨by rw [HE.out]; rfl, HB.out⟩
      · have HE : Hid (areV l = true) := areV_yes (by
          rw [hv2]
          intro q
          rw [(lw_zero hk).2 q] at ht
          have := HL.out
          rw [ht] at this
          simp at this
          omega)
        have hz : (0 : Int) < (j : Int) := by omega
        have hz2 : decide (0 < j) = true := decide_eq_true (by omega)
        clear hv hv2 ht hk HQ h0
        go_wp2
        go_ret
        exact ⟨by rw [HE.out]; rfl, HB.out⟩
end Go.Proofs.Ytcmjadfpifpknaa
namespace Go.Proofs.Ytcmjadfpifpknaa
open Go.ChangeShapes Go.WideShapes Go.ChangeAt Go.RowKit
set_option linter.unusedVariables false
set_option linter.unusedSimpArgs false

section
variable {P : Program}
/-- Integers are appended to a slice of the call's own: where it lies alone anything has changed. -/
theorem run_app2 (w : World) {k : IntKind} (t ty e : TypeId) (i : TypeInfo) (z : Value) (bytes : Nat) (ht : P.underlying t = some (.slice e)) (hi : P.info? e = some i) (hz : i.zero = some z) (hsize : i.size = 1) (hby : i.bytes = bytes) (hzs : z.cells.size = 1)
    {B n c m d : Nat} {a b : Option Addr} {l l' : List Int} (ho : Own k e w B a n c l) (hs : Nums k w b m l') (hbytes : (n + m) * bytes ≤ 140737488355328) (h63 : n + m ≤ maxLen) (hB : B ≤ w.heap.size) :
    ∃ a' c' w', (Builtin.append_ #[t, t] ty #[.slice a n c, .slice b m d]).run P w = .ok (.slice a' (n + m) c') w' ∧ Own k e w' B a' (n + m) c' (l ++ l') ∧ w.grownBy w' (Value.ownBlock (.slice a n c)) := by
  have hsp := ho.span
  rcases b with _ | ad
  · obtain rfl : m = 0 := by
      rcases Nat.eq_zero_or_pos m with h0 | h0
      · exact h0
      · obtain ⟨ad, h, _⟩ := hs.cell 0 h0
        cases h
    obtain rfl : l' = [] := List.eq_nil_of_length_eq_zero hs.len
    exact ⟨a, c, w, run_app_nothing w B t ty e i ht hi ho.2 d, by simpa using ho, grown_below (Below.refl _ _) _⟩
  · obtain ⟨v', w', hr, h2, h3, _, _⟩ := run_append_own_at (P := P) w B t ty e i z 1 bytes ht hi hz hsize hby hzs (by omega) (.slice a n c) n (l.map (Value.int k)) ho.2 ad m d (l'.map (Value.int k)) (by simp [hs.len]) (fun j u hu => by
      have hj : j < m := by
        rcases Nat.lt_or_ge j m with h | h
        · exact h
        · rw [List.getElem?_eq_none (by simp [hs.len]; exact h)] at hu; cases hu
      obtain ⟨ad', e', hx⟩ := hs.cell j hj
      cases e'
      have hl : j < l'.length := by rw [hs.len]; exact hj
      rw [List.getElem?_map, List.getElem?_eq_getElem hl] at hu
      cases hu
      rw [hx]
      simp [List.getD, List.getElem?_eq_getElem hl]) (ints_oneCell k l') h63 hbytes hB
    rw [← List.map_append] at h2
    rcases h2.2 with ⟨rfl, hn⟩ | ⟨g, cap, cur, rfl, hrest⟩
    · exact ⟨none, 0, w', by rw [hn]; exact hr, by rw [hn] at h2 ⊢; exact ⟨by have := h2.1; simpa using this, h2⟩, h3⟩
    · exact ⟨_, cap, w', hr, ⟨by have := ho.len; have := hs.len; simp; omega, h2⟩, h3⟩
/-- An append of integers onto a slice of the call's own, at a step of a region that draws its order. -/
theorem step_app2 (w : World) {ops : Array Oper} {o : Oper} {act : Act} {K : Act → World → Prop} {Q : Exit → Act → World → Prop} {E : Prop} (hgd : o.guard = none) (s x : Operand) (t : TypeId)
    (ho : o.op = .call { callee := .builtin .append, args := #[s, x], argTypes := #[t, t] })
    (k : IntKind) (e : TypeId) (i : TypeInfo) (z : Value) (bytes : Nat) (ht : P.underlying t = some (.slice e)) (hi : P.info? e = some i) (hz : i.zero = some z) (hsize : i.size = 1) (hby : i.bytes = bytes) (hzs : z.cells.size = 1)
    {B n c m d : Nat} {a b : Option Addr} {l l' : List Int} (hs : act.eval s = .slice a n c) (hown : Own k e w B a n c l) (hx : act.eval x = .slice b m d) (hnew : Nums k w b m l')
    (hb1 : 0 < bytes) (hbytes : (n + m) * bytes ≤ 140737488355328) (hB : B ≤ w.heap.size)
    (h : ∀ a' c' w', Own k e w' B a' (n + m) c' (l ++ l') → w.grownBy w' (Value.ownBlock (.slice a n c)) → K (act.put o.dst (.slice a' (n + m) c')) w') :
    if Region.wanted o (yielded ops act.tmps) = true then Oper.wp P o act w K Q else E := by
  have hw : Region.wanted o (yielded ops act.tmps) = true := by simp [Region.wanted, hgd]
  rw [if_pos hw]
  have h63 : n + m ≤ maxLen := by
    have := Nat.mul_le_mul_left (n + m) hb1
    unfold maxLen
    omega
  obtain ⟨a', c', w', hr, h2, h3⟩ := run_app2 (P := P) (d := d) w t o.type e i z bytes ht hi hz hsize hby hzs hown hnew hbytes h63 hB
  unfold Oper.wp execOp
  simp only [ho, resolve, invoke, builtin, Sem.run_bind, Sem.run_pure, Result.andThen_ok, List.map_toArray, List.map_cons, List.map_nil, hs, hx, hr]
  exact h a' c' w' h2 h3
end
/-- What lies in other blocks than the one that was written to. -/
theorem nums_far {k : IntKind} {w w' : World} {g : Nat} {n : Nat} {l : List Int} {r : Option Nat} (h : Nums k w (some ⟨g, 0, none⟩) n l) (hg : w.grownBy w' r) (hne : r ≠ some g) : Nums k w' (some ⟨g, 0, none⟩) n l :=
  ⟨h.len, h.fits, fun j hj => by
    obtain ⟨ad, e, hx⟩ := h.cell j hj
    cases e
    refine ⟨_, rfl, ?_⟩
    have hlt := cell_in hx
    have hb : ((⟨g, 0, none⟩ : Addr).add j).block = g := addr_block _ _
    rw [← hx]
    unfold World.cell?
    rw [hg.block _ hlt (by rw [hb]; exact fun e => hne e.symm)]⟩

theorem nums_head {w : World} {g n : Nat} {l : List Int} (h : Nums .i64 w (some ⟨g, 0, none⟩) n l) {j : Nat} (hj : j ≤ n) : Nums .i64 w (some ⟨g, 0, none⟩) j (l.take j) := by
  have := h.sub 0 j (by omega) (b := some ⟨g, 0, none⟩) (fun _ ad e => by cases e; rfl)
  simpa using this
theorem nums_tail {w : World} {g n : Nat} {l : List Int} (c : Nat) (h : Nums .i64 w (some ⟨g, 0, none⟩) n l) {j : Nat} (hj : j ≤ n) (hc : n ≤ c) : Nums .i64 w (if c = j then some ⟨g, 0, none⟩ else some ⟨g, j, none⟩) (n - j) (l.drop j) := by
  have := h.sub j (n - j) (by omega) (b := if c = j then some ⟨g, 0, none⟩ else some ⟨g, j, none⟩) (fun h0 ad e => by
    cases e
    rw [if_neg (by omega), addr_zero])
  rw [List.take_of_length_le (by rw [List.length_drop, h.len]; omega)] at this
  exact this

theorem nums_tail0 {w : World} {g n : Nat} {l : List Int} (c : Nat) (h : Nums .i64 w (some ⟨g, 0, none⟩) n l) (hc : n ≤ c) : Nums .i64 w (if c = n then some ⟨g, 0, none⟩ else some ⟨g, n, none⟩) 0 [] := by
  have := nums_tail c h (Nat.le_refl n) hc
  rw [Nat.sub_self, List.drop_eq_nil_of_le (by rw [h.len]; exact Nat.le_refl _)] at this
  exact this

set_option maxHeartbeats 4000000 in
set_option maxRecDepth 100000 in
theorem specPut_any (g n c : Nat) (l : List Int) (x : Int) (w : World) (h : Nums .i64 w (some ⟨g, 0, none⟩) n l) (hc : n ≤ c ∧ (c : Int) ≤ 9223372036854775807) (hn : n ≤ 1000000000) :
    Calls Try.prog 55 #[.slice (some ⟨g, 0, none⟩) n c, .int .i64 x] w (Made .i64 3 w.heap.size (putL l x) w) := by
  have H := Lib.hid h
  have hl := Lib.hid h.len
  clear h
  obtain ⟨i0, hi, hz0, hz1, hz2⟩ := info_parts infoIntS
  have HI := Lib.hid (And.intro hi (And.intro hz0 (And.intro hz1 hz2)))
  clear hi hz0 hz1 hz2
  go_enter Try.func55, Try.ntmps55
  go_wp2_with fail
  go_loop [5] (fun i => ∃ j : Nat, j ≤ n ∧ i = .int .i64 j ∧ ∀ y ∈ l.take j, y < x) (fun i => n - (intOf i).toNat)
  case atStart => exact ⟨0, Nat.zero_le _, rfl, by simp⟩
  case round =>
    obtain ⟨j, hj, rfl, hlow⟩ := hrel
    have HL := Lib.hid hlow
    clear hlow
    by_cases hlt : j < n
    · obtain ⟨ad, y, had, hy, hcell⟩ := H.out.at_ hlt
      cases had
      rw [addr_zero] at hcell
      have HY := Lib.hid hy
      clear hy
      by_cases q : y < x
      · have e1 : decide (y < x) = true := decide_eq_true q
        go_wp2_with fail
        go_round
        case rel =>
          refine ⟨j + 1, by omega, by go_num, fun z hz => ?_⟩
          rw [List.take_add_one, HY.out] at hz
          rcases List.mem_append.1 hz with hz | hz
          · exact HL.out z hz
          · have : z = y := by simpa using hz
            omega
        case measure => simp [intOf]; omega
      · have e1 : decide (y < x) = false := decide_eq_false q
        by_cases q2 : y = x
        · subst q2
          have HP := Lib.hid (putL_there HL.out HY.out)
          go_wp2_with (at_builtin; refine wpl_app _ rfl (.tmp 32) (.tmp 33) 22 rfl .i64 3 i0 (.int .i64 0) 8 Try.underlying22 HI.out.1 HI.out.2.1 HI.out.2.2.1 HI.out.2.2.2 rfl rfl (Own.empty (Nat.le_refl _)) rfl (H.out.same (alloc_same _ _)) (by omega) ?c1 ?c2 ?_)
          case c1 => omega
          intro a' c' w' ho hb
          have HO := Lib.hid ho
          have HB := Lib.hid hb
          clear ho hb
          go_wp2
          go_ret
          refine ⟨a', _, c', rfl, ?_, ((Below.refl _ w).alloc (Nat.le_refl _) _).trans HB.out⟩
          rw [HP.out]
          simpa using HO.out
        · have e2 : (y == x) = false := by simpa using q2
          go_wp2_with fail
          have HP : Hid (putL l x = l.take j ++ x :: l.drop j) := Lib.hid (putL_new HL.out (fun z hz => by have e := HY.out; rw [hz] at e; cases e; omega))
          have hjc : j ≤ c := by omega
          have hjc2 : (j : Int) ≤ (c : Int) := by omega
          have hjn : j ≤ n := by omega
          refine wp_region_held_drew (S := fun w' => Nums .i64 w' (some ⟨g, 0, none⟩) n l) (by kernel_rfl) (H.out.same (Below.refl _ _).drew) (fun hHeld => ?_)
          refine wpAnyH_take (i := 1) (v := ?v1) (by simp only [List.getElem?_toArray, List.getElem?_cons_succ, List.getElem?_cons_zero]; rfl) (by kernel_rfl) (by kernel_rfl) (by kernel_rfl) (by exact fun _ _ _ h => h) (Or.inl ⟨by rfl, fun w9 hS9 => ?hy1⟩) hHeld ?rest1
          case hy1 =>
            clear hS9
            go_simp
            try with_reducible rfl
          try simp only [Act.put, List.setIfInBounds_toArray, List.set_cons_zero, List.set_cons_succ]
          refine wpAnyH_take (i := 2) (v := ?v2) (by simp only [List.getElem?_toArray, List.getElem?_cons_succ, List.getElem?_cons_zero]; rfl) (by kernel_rfl) (by kernel_rfl) (by kernel_rfl) (by exact fun _ _ _ h => h) (Or.inl ⟨by rfl, fun w9 hS9 => ?hy2⟩) hHeld ?rest2
          case hy2 =>
            clear hS9
            go_simp
            try with_reducible rfl
          try simp only [Act.put, List.setIfInBounds_toArray, List.set_cons_zero, List.set_cons_succ]
          refine wpAnyH_take (i := 3) (v := ?v3) (by simp only [List.getElem?_toArray, List.getElem?_cons_succ, List.getElem?_cons_zero]; rfl) (by kernel_rfl) (by kernel_rfl) (by kernel_rfl) (by exact fun _ _ _ h => h) (Or.inl ⟨by rfl, fun w9 hS9 => ?hy3⟩) hHeld ?rest3
          case hy3 =>
            clear hS9
            go_simp
            try with_reducible rfl
          try simp only [Act.put, List.setIfInBounds_toArray, List.set_cons_zero, List.set_cons_succ]
          refine wpAnyH_take (i := 5) (v := ?v4) (by simp only [List.getElem?_toArray, List.getElem?_cons_succ, List.getElem?_cons_zero]; rfl) (by kernel_rfl) (by kernel_rfl) (by kernel_rfl) (by exact fun _ _ _ h => h) (Or.inl ⟨by rfl, fun w9 hS9 => ?hy4⟩) hHeld ?rest4
          case hy4 =>
            clear hS9
            go_simp
            try with_reducible rfl
          try simp only [Act.put, List.setIfInBounds_toArray, List.set_cons_zero, List.set_cons_succ]
          refine wpAnyH_take (i := 8) (v := ?v5) (by simp only [List.getElem?_toArray, List.getElem?_cons_succ, List.getElem?_cons_zero]; rfl) (by kernel_rfl) (by kernel_rfl) (by kernel_rfl) (by exact fun _ _ _ h => h) (Or.inl ⟨by rfl, fun w9 hS9 => ?hy5⟩) hHeld ?rest5
          case hy5 =>
            clear hS9
            go_simp
            try with_reducible rfl
          try simp only [Act.put, List.setIfInBounds_toArray, List.set_cons_zero, List.set_cons_succ]
          refine wpAnyH_take (i := 9) (v := ?v6) (by simp only [List.getElem?_toArray, List.getElem?_cons_succ, List.getElem?_cons_zero]; rfl) (by kernel_rfl) (by kernel_rfl) (by kernel_rfl) (by exact fun _ _ _ h => h) (Or.inl ⟨by rfl, fun w9 hS9 => ?hy6⟩) hHeld ?rest6
          case hy6 =>
            clear hS9
            go_simp
            try with_reducible rfl
          try simp only [Act.put, List.setIfInBounds_toArray, List.set_cons_zero, List.set_cons_succ]
          refine wpAnyH_take (i := 10) (v := ?v7) (by simp only [List.getElem?_toArray, List.getElem?_cons_succ, List.getElem?_cons_zero]; rfl) (by kernel_rfl) (by kernel_rfl) (by kernel_rfl) (by exact fun _ _ _ h => h) (Or.inl ⟨by rfl, fun w9 hS9 => ?hy7⟩) hHeld ?rest7
          case hy7 =>
            clear hS9
            go_simp
            try with_reducible rfl
          try simp only [Act.put, List.setIfInBounds_toArray, List.set_cons_zero, List.set_cons_succ]
          refine wpAnyH_ready (rs := [0, 6]) (by kernel_rfl) (by simp) (AllReadyH.cons (by simp only [List.getElem?_toArray, List.getElem?_cons_succ, List.getElem?_cons_zero]; rfl) (fun K hK => ?_) (AllReadyH.cons (by simp only [List.getElem?_toArray, List.getElem?_cons_succ, List.getElem?_cons_zero]; rfl) (fun K hK => ?_) AllReadyH.nil))
          · have HB1 : Hid (Below w.heap.size w (w.alloc (.cells #[] 3)).drew) := Lib.hid ((Below.refl _ w).alloc (Nat.le_refl _) _).drew
            have O1 : Own .i64 3 (w.alloc (.cells #[] 3)).drew w.heap.size (some ⟨w.heap.size, 0, none⟩) 0 0 [] := Own.empty (Nat.le_refl _)
            go_simp
            refine hK.out _ _ (H.out.same HB1.out) (fun hHeld => ?_)
            clear hK K
            try simp only [Act.put, List.setIfInBounds_toArray, List.set_cons_zero, List.set_cons_succ]
            refine wpAnyH_ready (rs := [4, 6]) (by kernel_rfl) (by simp) (AllReadyH.cons (by simp only [List.getElem?_toArray, List.getElem?_cons_succ, List.getElem?_cons_zero]; rfl) (fun K hK => ?_) (AllReadyH.cons (by simp only [List.getElem?_toArray, List.getElem?_cons_succ, List.getElem?_cons_zero]; rfl) (fun K hK => ?_) AllReadyH.nil))
            · skip
              refine step_app2 _ (by rfl) (.tmp 35) (.tmp 38) 22 (by rfl) .i64 3 i0 (.int .i64 0) 8 Try.underlying22 HI.out.1 HI.out.2.1 HI.out.2.2.1 HI.out.2.2.2 rfl (by rfl) O1 (by rfl) (nums_head hHeld hjn) (by omega) (by omega) HB1.out.size ?_
              intro a2 c2 w2 ho2 hg2
              rw [Nat.zero_add] at ho2
              have HB2 := Lib.hid (grown_to hg2 HB1.out (Own.span O1) (Nat.le_refl _) HB1.out.size)
              refine hK.out _ _ (H.out.same HB2.out) (fun hHeld => ?_)
              clear hK K
              try simp only [Act.put, List.setIfInBounds_toArray, List.set_cons_zero, List.set_cons_succ]
              refine wpAnyH_ready (rs := [6]) (by kernel_rfl) (by simp) (AllReadyH.cons (by simp only [List.getElem?_toArray, List.getElem?_cons_succ, List.getElem?_cons_zero]; rfl) (fun K hK => ?_) AllReadyH.nil)
              have HB3 : Hid (Below w.heap.size w (w2.alloc (.cells #[.int .i64 x] 3))) := Lib.hid (HB2.out.alloc HB2.out.size _)
              have O3 := ho2.alloc (.cells #[.int .i64 x] 3)
              have N3 := nums_new w2 .i64 x 3
              go_simp
              refine hK.out _ _ (H.out.same HB3.out) (fun hHeld => ?_)
              clear hK K
              try simp only [Act.put, List.setIfInBounds_toArray, List.set_cons_zero, List.set_cons_succ]
              refine wpAnyH_ready (rs := [7]) (by kernel_rfl) (by simp) (AllReadyH.cons (by simp only [List.getElem?_toArray, List.getElem?_cons_succ, List.getElem?_cons_zero]; rfl) (fun K hK => ?_) AllReadyH.nil)
              refine step_app2 _ (by rfl) (.tmp 39) (.tmp 41) 22 (by rfl) .i64 3 i0 (.int .i64 0) 8 Try.underlying22 HI.out.1 HI.out.2.1 HI.out.2.2.1 HI.out.2.2.2 rfl (by rfl) O3 (by rfl) N3 (by omega) (by omega) HB3.out.size ?_
              intro a5 c5 w5 ho5 hg5
              skip
              have HB5 := Lib.hid (grown_to hg5 HB3.out (Own.span O3) (Nat.le_refl _) HB3.out.size)
              refine hK.out _ _ (H.out.same HB5.out) (fun hHeld => ?_)
              clear hK K
              try simp only [Act.put, List.setIfInBounds_toArray, List.set_cons_zero, List.set_cons_succ]
              refine wpAnyH_ready (rs := [11]) (by kernel_rfl) (by simp) (AllReadyH.cons (by simp only [List.getElem?_toArray, List.getElem?_cons_succ, List.getElem?_cons_zero]; rfl) (fun K hK => ?_) AllReadyH.nil)
              refine step_app2 _ (by rfl) (.tmp 42) (.tmp 45) 22 (by rfl) .i64 3 i0 (.int .i64 0) 8 Try.underlying22 HI.out.1 HI.out.2.1 HI.out.2.2.1 HI.out.2.2.2 rfl (by rfl) ho5 (by rfl) (nums_tail c hHeld hjn hc.1) (by omega) (by omega) HB5.out.size ?_
              intro a6 c6 w6 ho6 hg6
              skip
              have HB6 := Lib.hid (grown_to hg6 HB5.out (Own.span ho5) (Nat.le_refl _) HB5.out.size)
              refine hK.out _ _ (H.out.same HB6.out) (fun hHeld => ?_)
              clear hK K
              try simp only [Act.put, List.setIfInBounds_toArray, List.set_cons_zero, List.set_cons_succ]
              refine wpAnyH_take (i := 12) (v := ?v8) (by simp only [List.getElem?_toArray, List.getElem?_cons_succ, List.getElem?_cons_zero]; rfl) (by kernel_rfl) (by kernel_rfl) (by kernel_rfl) (by exact fun _ _ _ h => h) (Or.inl ⟨by rfl, fun w9 hS9 => ?hy8⟩) hHeld ?rest8
              case hy8 =>
                clear hS9
                go_simp
                try with_reducible rfl
              try simp only [Act.put, List.setIfInBounds_toArray, List.set_cons_zero, List.set_cons_succ]
              refine wpAnyH_done (by kernel_rfl) ?_ _
              go_wp2
              all_goals
                go_ret
                refine ⟨_, _, _, rfl, ?_, HB6.out⟩
                rw [HP.out]
                have e9 : [] ++ l.take j ++ [x] ++ l.drop j = l.take j ++ x :: l.drop j := by simp
                rw [e9] at ho6
                first | exact ho6 | simpa only [Nat.zero_add, Nat.add_zero] using ho6
            · have HB2 : Hid (Below w.heap.size w ((w.alloc (.cells #[] 3)).alloc (.cells #[.int .i64 x] 3)).drew) := Lib.hid (((Below.refl _ w).alloc (Nat.le_refl _) _).alloc (by simp) _).drew
              have O2 : Own .i64 3 ((w.alloc (.cells #[] 3)).alloc (.cells #[.int .i64 x] 3)).drew w.heap.size (some ⟨w.heap.size, 0, none⟩) 0 0 [] := (Own.empty (Nat.le_refl _)).alloc _
              have N2 : Nums .i64 ((w.alloc (.cells #[] 3)).alloc (.cells #[.int .i64 x] 3)).drew (some ⟨w.heap.size + 1, 0, none⟩) 1 [x] := by
                have := nums_new (w.alloc (.cells #[] 3)) .i64 x 3
                rw [World.size_alloc] at this
                exact this.same (Below.refl _ _).drew
              go_simp
              refine hK.out _ _ (H.out.same HB2.out) (fun hHeld => ?_)
              clear hK K
              try simp only [Act.put, List.setIfInBounds_toArray, List.set_cons_zero, List.set_cons_succ]
              refine wpAnyH_ready (rs := [4]) (by kernel_rfl) (by simp) (AllReadyH.cons (by simp only [List.getElem?_toArray, List.getElem?_cons_succ, List.getElem?_cons_zero]; rfl) (fun K hK => ?_) AllReadyH.nil)
              refine step_app2 _ (by rfl) (.tmp 35) (.tmp 38) 22 (by rfl) .i64 3 i0 (.int .i64 0) 8 Try.underlying22 HI.out.1 HI.out.2.1 HI.out.2.2.1 HI.out.2.2.2 rfl (by rfl) O2 (by rfl) (nums_head hHeld hjn) (by omega) (by omega) HB2.out.size ?_
              intro a3 c3 w3 ho3 hg3
              skip
              have HB3 := Lib.hid (grown_to hg3 HB2.out (Own.span O2) (Nat.le_refl _) HB2.out.size)
              have N3 := nums_far N2 hg3 (by simp [Value.ownBlock])
              refine hK.out _ _ (H.out.same HB3.out) (fun hHeld => ?_)
              clear hK K
              try simp only [Act.put, List.setIfInBounds_toArray, List.set_cons_zero, List.set_cons_succ]
              refine wpAnyH_ready (rs := [7]) (by kernel_rfl) (by simp) (AllReadyH.cons (by simp only [List.getElem?_toArray, List.getElem?_cons_succ, List.getElem?_cons_zero]; rfl) (fun K hK => ?_) AllReadyH.nil)
              refine step_app2 _ (by rfl) (.tmp 39) (.tmp 41) 22 (by rfl) .i64 3 i0 (.int .i64 0) 8 Try.underlying22 HI.out.1 HI.out.2.1 HI.out.2.2.1 HI.out.2.2.2 rfl (by rfl) ho3 (by rfl) N3 (by omega) (by omega) HB3.out.size ?_
              intro a5 c5 w5 ho5 hg5
              skip
              have HB5 := Lib.hid (grown_to hg5 HB3.out (Own.span ho3) (Nat.le_refl _) HB3.out.size)
              refine hK.out _ _ (H.out.same HB5.out) (fun hHeld => ?_)
              clear hK K
              try simp only [Act.put, List.setIfInBounds_toArray, List.set_cons_zero, List.set_cons_succ]
              refine wpAnyH_ready (rs := [11]) (by kernel_rfl) (by simp) (AllReadyH.cons (by simp only [List.getElem?_toArray, List.getElem?_cons_succ, List.getElem?_cons_zero]; rfl) (fun K hK => ?_) AllReadyH.nil)
              refine step_app2 _ (by rfl) (.tmp 42) (.tmp 45) 22 (by rfl) .i64 3 i0 (.int .i64 0) 8 Try.underlying22 HI.out.1 HI.out.2.1 HI.out.2.2.1 HI.out.2.2.2 rfl (by rfl) ho5 (by rfl) (nums_tail c hHeld hjn hc.1) (by omega) (by omega) HB5.out.size ?_
              intro a6 c6 w6 ho6 hg6
              skip
              have HB6 := Lib.hid (grown_to hg6 HB5.out (Own.span ho5) (Nat.le_refl _) HB5.out.size)
              refine hK.out _ _ (H.out.same HB6.out) (fun hHeld => ?_)
              clear hK K
              try simp only [Act.put, List.setIfInBounds_toArray, List.set_cons_zero, List.set_cons_succ]
              refine wpAnyH_take (i := 12) (v := ?v9) (by simp only [List.getElem?_toArray, List.getElem?_cons_succ, List.getElem?_cons_zero]; rfl) (by kernel_rfl) (by kernel_rfl) (by kernel_rfl) (by exact fun _ _ _ h => h) (Or.inl ⟨by rfl, fun w9 hS9 => ?hy9⟩) hHeld ?rest9
              case hy9 =>
                clear hS9
                go_simp
                try with_reducible rfl
              try simp only [Act.put, List.setIfInBounds_toArray, List.set_cons_zero, List.set_cons_succ]
              refine wpAnyH_done (by kernel_rfl) ?_ _
              go_wp2
              all_goals
                go_ret
                refine ⟨_, _, _, rfl, ?_, HB6.out⟩
                rw [HP.out]
                have e9 : [] ++ l.take j ++ [x] ++ l.drop j = l.take j ++ x :: l.drop j := by simp
                rw [e9] at ho6
                first | exact ho6 | simpa only [Nat.zero_add, Nat.add_zero] using ho6
          · have HB1 : Hid (Below w.heap.size w (w.alloc (.cells #[.int .i64 x] 3)).drew) := Lib.hid ((Below.refl _ w).alloc (Nat.le_refl _) _).drew
            go_simp
            refine hK.out _ _ (H.out.same HB1.out) (fun hHeld => ?_)
            clear hK K
            try simp only [Act.put, List.setIfInBounds_toArray, List.set_cons_zero, List.set_cons_succ]
            refine wpAnyH_ready (rs := [0]) (by kernel_rfl) (by simp) (AllReadyH.cons (by simp only [List.getElem?_toArray, List.getElem?_cons_succ, List.getElem?_cons_zero]; rfl) (fun K hK => ?_) AllReadyH.nil)
            have HB2 : Hid (Below w.heap.size w ((w.alloc (.cells #[.int .i64 x] 3)).alloc (.cells #[] 3)).drew) := Lib.hid (((Below.refl _ w).alloc (Nat.le_refl _) _).alloc (by simp) _).drew
            have O2 : Own .i64 3 ((w.alloc (.cells #[.int .i64 x] 3)).alloc (.cells #[] 3)).drew w.heap.size (some ⟨w.heap.size + 1, 0, none⟩) 0 0 [] := by
              have := Own.empty (k := .i64) (t := 3) (w := w.alloc (.cells #[.int .i64 x] 3)) (B := w.heap.size) (by simp)
              rw [World.size_alloc] at this
              exact this
            have N2 : Nums .i64 ((w.alloc (.cells #[.int .i64 x] 3)).alloc (.cells #[] 3)).drew (some ⟨w.heap.size, 0, none⟩) 1 [x] := (nums_new w .i64 x 3).same (alloc_same _ _).drew
            go_simp
            refine hK.out _ _ (H.out.same HB2.out) (fun hHeld => ?_)
            clear hK K
            try simp only [Act.put, List.setIfInBounds_toArray, List.set_cons_zero, List.set_cons_succ]
            refine wpAnyH_ready (rs := [4]) (by kernel_rfl) (by simp) (AllReadyH.cons (by simp only [List.getElem?_toArray, List.getElem?_cons_succ, List.getElem?_cons_zero]; rfl) (fun K hK => ?_) AllReadyH.nil)
            refine step_app2 _ (by rfl) (.tmp 35) (.tmp 38) 22 (by rfl) .i64 3 i0 (.int .i64 0) 8 Try.underlying22 HI.out.1 HI.out.2.1 HI.out.2.2.1 HI.out.2.2.2 rfl (by rfl) O2 (by rfl) (nums_head hHeld hjn) (by omega) (by omega) HB2.out.size ?_
            intro a3 c3 w3 ho3 hg3
            skip
            have HB3 := Lib.hid (grown_to hg3 HB2.out (Own.span O2) (Nat.le_refl _) HB2.out.size)
            have N3 := nums_far N2 hg3 (by simp [Value.ownBlock])
            refine hK.out _ _ (H.out.same HB3.out) (fun hHeld => ?_)
            clear hK K
            try simp only [Act.put, List.setIfInBounds_toArray, List.set_cons_zero, List.set_cons_succ]
            refine wpAnyH_ready (rs := [7]) (by kernel_rfl) (by simp) (AllReadyH.cons (by simp only [List.getElem?_toArray, List.getElem?_cons_succ, List.getElem?_cons_zero]; rfl) (fun K hK => ?_) AllReadyH.nil)
            refine step_app2 _ (by rfl) (.tmp 39) (.tmp 41) 22 (by rfl) .i64 3 i0 (.int .i64 0) 8 Try.underlying22 HI.out.1 HI.out.2.1 HI.out.2.2.1 HI.out.2.2.2 rfl (by rfl) ho3 (by rfl) N3 (by omega) (by omega) HB3.out.size ?_
            intro a5 c5 w5 ho5 hg5
            skip
            have HB5 := Lib.hid (grown_to hg5 HB3.out (Own.span ho3) (Nat.le_refl _) HB3.out.size)
            refine hK.out _ _ (H.out.same HB5.out) (fun hHeld => ?_)
            clear hK K
            try simp only [Act.put, List.setIfInBounds_toArray, List.set_cons_zero, List.set_cons_succ]
            refine wpAnyH_ready (rs := [11]) (by kernel_rfl) (by simp) (AllReadyH.cons (by simp only [List.getElem?_toArray, List.getElem?_cons_succ, List.getElem?_cons_zero]; rfl) (fun K hK => ?_) AllReadyH.nil)
            refine step_app2 _ (by rfl) (.tmp 42) (.tmp 45) 22 (by rfl) .i64 3 i0 (.int .i64 0) 8 Try.underlying22 HI.out.1 HI.out.2.1 HI.out.2.2.1 HI.out.2.2.2 rfl (by rfl) ho5 (by rfl) (nums_tail c hHeld hjn hc.1) (by omega) (by omega) HB5.out.size ?_
            intro a6 c6 w6 ho6 hg6
            skip
            have HB6 := Lib.hid (grown_to hg6 HB5.out (Own.span ho5) (Nat.le_refl _) HB5.out.size)
            refine hK.out _ _ (H.out.same HB6.out) (fun hHeld => ?_)
            clear hK K
            try simp only [Act.put, List.setIfInBounds_toArray, List.set_cons_zero, List.set_cons_succ]
            refine wpAnyH_take (i := 12) (v := ?v10) (by simp only [List.getElem?_toArray, List.getElem?_cons_succ, List.getElem?_cons_zero]; rfl) (by kernel_rfl) (by kernel_rfl) (by kernel_rfl) (by exact fun _ _ _ h => h) (Or.inl ⟨by rfl, fun w9 hS9 => ?hy10⟩) hHeld ?rest10
            case hy10 =>
              clear hS9
              go_simp
              try with_reducible rfl
            try simp only [Act.put, List.setIfInBounds_toArray, List.set_cons_zero, List.set_cons_succ]
            refine wpAnyH_done (by kernel_rfl) ?_ _
            go_wp2
            all_goals
              go_ret
              refine ⟨_, _, _, rfl, ?_, HB6.out⟩
              rw [HP.out]
              have e9 : [] ++ l.take j ++ [x] ++ l.drop j = l.take j ++ x :: l.drop j := by simp
              rw [e9] at ho6
              first | exact ho6 | simpa only [Nat.zero_add, Nat.add_zero] using ho6
    · obtain rfl : j = n := by omega
      go_wp2_with fail
      have HP : Hid (putL l x = l.take j ++ x :: l.drop j) := Lib.hid (putL_new HL.out (fun z hz => by have e := hl.out; rw [List.getElem?_eq_none (by omega)] at hz; cases hz))
      have hjc : j ≤ c := by omega
      have hjc2 : (j : Int) ≤ (c : Int) := by omega
      have hjn : j ≤ j := by omega
      refine wp_region_held_drew (S := fun w' => Nums .i64 w' (some ⟨g, 0, none⟩) j l) (by kernel_rfl) (H.out.same (Below.refl _ _).drew) (fun hHeld => ?_)
      refine wpAnyH_take (i := 1) (v := ?v11) (by simp only [List.getElem?_toArray, List.getElem?_cons_succ, List.getElem?_cons_zero]; rfl) (by kernel_rfl) (by kernel_rfl) (by kernel_rfl) (by exact fun _ _ _ h => h) (Or.inl ⟨by rfl, fun w9 hS9 => ?hy11⟩) hHeld ?rest11
      case hy11 =>
        clear hS9
        go_simp
        try with_reducible rfl
      try simp only [Act.put, List.setIfInBounds_toArray, List.set_cons_zero, List.set_cons_succ]
      refine wpAnyH_take (i := 2) (v := ?v12) (by simp only [List.getElem?_toArray, List.getElem?_cons_succ, List.getElem?_cons_zero]; rfl) (by kernel_rfl) (by kernel_rfl) (by kernel_rfl) (by exact fun _ _ _ h => h) (Or.inl ⟨by rfl, fun w9 hS9 => ?hy12⟩) hHeld ?rest12
      case hy12 =>
        clear hS9
        go_simp
        try with_reducible rfl
      try simp only [Act.put, List.setIfInBounds_toArray, List.set_cons_zero, List.set_cons_succ]
      refine wpAnyH_take (i := 3) (v := ?v13) (by simp only [List.getElem?_toArray, List.getElem?_cons_succ, List.getElem?_cons_zero]; rfl) (by kernel_rfl) (by kernel_rfl) (by kernel_rfl) (by exact fun _ _ _ h => h) (Or.inl ⟨by rfl, fun w9 hS9 => ?hy13⟩) hHeld ?rest13
      case hy13 =>
        clear hS9
        go_simp
        try with_reducible rfl
      try simp only [Act.put, List.setIfInBounds_toArray, List.set_cons_zero, List.set_cons_succ]
      refine wpAnyH_take (i := 5) (v := ?v14) (by simp only [List.getElem?_toArray, List.getElem?_cons_succ, List.getElem?_cons_zero]; rfl) (by kernel_rfl) (by kernel_rfl) (by kernel_rfl) (by exact fun _ _ _ h => h) (Or.inl ⟨by rfl, fun w9 hS9 => ?hy14⟩) hHeld ?rest14
      case hy14 =>
        clear hS9
        go_simp
        try with_reducible rfl
      try simp only [Act.put, List.setIfInBounds_toArray, List.set_cons_zero, List.set_cons_succ]
      refine wpAnyH_take (i := 8) (v := ?v15) (by simp only [List.getElem?_toArray, List.getElem?_cons_succ, List.getElem?_cons_zero]; rfl) (by kernel_rfl) (by kernel_rfl) (by kernel_rfl) (by exact fun _ _ _ h => h) (Or.inl ⟨by rfl, fun w9 hS9 => ?hy15⟩) hHeld ?rest15
      case hy15 =>
        clear hS9
        go_simp
        try with_reducible rfl
      try simp only [Act.put, List.setIfInBounds_toArray, List.set_cons_zero, List.set_cons_succ]
      refine wpAnyH_take (i := 9) (v := ?v16) (by simp only [List.getElem?_toArray, List.getElem?_cons_succ, List.getElem?_cons_zero]; rfl) (by kernel_rfl) (by kernel_rfl) (by kernel_rfl) (by exact fun _ _ _ h => h) (Or.inl ⟨by rfl, fun w9 hS9 => ?hy16⟩) hHeld ?rest16
      case hy16 =>
        clear hS9
        go_simp
        try with_reducible rfl
      try simp only [Act.put, List.setIfInBounds_toArray, List.set_cons_zero, List.set_cons_succ]
      refine wpAnyH_take (i := 10) (v := ?v17) (by simp only [List.getElem?_toArray, List.getElem?_cons_succ, List.getElem?_cons_zero]; rfl) (by kernel_rfl) (by kernel_rfl) (by kernel_rfl) (by exact fun _ _ _ h => h) (Or.inl ⟨by rfl, fun w9 hS9 => ?hy17⟩) hHeld ?rest17
      case hy17 =>
        clear hS9
        go_simp
        try with_reducible rfl
      try simp only [Act.put, List.setIfInBounds_toArray, List.set_cons_zero, List.set_cons_succ]
      refine wpAnyH_ready (rs := [0, 6]) (by kernel_rfl) (by simp) (AllReadyH.cons (by simp only [List.getElem?_toArray, List.getElem?_cons_succ, List.getElem?_cons_zero]; rfl) (fun K hK => ?_) (AllReadyH.cons (by simp only [List.getElem?_toArray, List.getElem?_cons_succ, List.getElem?_cons_zero]; rfl) (fun K hK => ?_) AllReadyH.nil))
      · have HB1 : Hid (Below w.heap.size w (w.alloc (.cells #[] 3)).drew) := Lib.hid ((Below.refl _ w).alloc (Nat.le_refl _) _).drew
        have O1 : Own .i64 3 (w.alloc (.cells #[] 3)).drew w.heap.size (some ⟨w.heap.size, 0, none⟩) 0 0 [] := Own.empty (Nat.le_refl _)
        go_simp
        refine hK.out _ _ (H.out.same HB1.out) (fun hHeld => ?_)
        clear hK K
        try simp only [Act.put, List.setIfInBounds_toArray, List.set_cons_zero, List.set_cons_succ]
        refine wpAnyH_ready (rs := [4, 6]) (by kernel_rfl) (by simp) (AllReadyH.cons (by simp only [List.getElem?_toArray, List.getElem?_cons_succ, List.getElem?_cons_zero]; rfl) (fun K hK => ?_) (AllReadyH.cons (by simp only [List.getElem?_toArray, List.getElem?_cons_succ, List.getElem?_cons_zero]; rfl) (fun K hK => ?_) AllReadyH.nil))
        · skip
          refine step_app2 _ (by rfl) (.tmp 35) (.tmp 38) 22 (by rfl) .i64 3 i0 (.int .i64 0) 8 Try.underlying22 HI.out.1 HI.out.2.1 HI.out.2.2.1 HI.out.2.2.2 rfl (by rfl) O1 (by rfl) (nums_head hHeld hjn) (by omega) (by omega) HB1.out.size ?_
          intro a2 c2 w2 ho2 hg2
          rw [Nat.zero_add] at ho2
          have HB2 := Lib.hid (grown_to hg2 HB1.out (Own.span O1) (Nat.le_refl _) HB1.out.size)
          refine hK.out _ _ (H.out.same HB2.out) (fun hHeld => ?_)
          clear hK K
          try simp only [Act.put, List.setIfInBounds_toArray, List.set_cons_zero, List.set_cons_succ]
          refine wpAnyH_ready (rs := [6]) (by kernel_rfl) (by simp) (AllReadyH.cons (by simp only [List.getElem?_toArray, List.getElem?_cons_succ, List.getElem?_cons_zero]; rfl) (fun K hK => ?_) AllReadyH.nil)
          have HB3 : Hid (Below w.heap.size w (w2.alloc (.cells #[.int .i64 x] 3))) := Lib.hid (HB2.out.alloc HB2.out.size _)
          have O3 := ho2.alloc (.cells #[.int .i64 x] 3)
          have N3 := nums_new w2 .i64 x 3
          go_simp
          refine hK.out _ _ (H.out.same HB3.out) (fun hHeld => ?_)
          clear hK K
          try simp only [Act.put, List.setIfInBounds_toArray, List.set_cons_zero, List.set_cons_succ]
          refine wpAnyH_ready (rs := [7]) (by kernel_rfl) (by simp) (AllReadyH.cons (by simp only [List.getElem?_toArray, List.getElem?_cons_succ, List.getElem?_cons_zero]; rfl) (fun K hK => ?_) AllReadyH.nil)
          refine step_app2 _ (by rfl) (.tmp 39) (.tmp 41) 22 (by rfl) .i64 3 i0 (.int .i64 0) 8 Try.underlying22 HI.out.1 HI.out.2.1 HI.out.2.2.1 HI.out.2.2.2 rfl (by rfl) O3 (by rfl) N3 (by omega) (by omega) HB3.out.size ?_
          intro a5 c5 w5 ho5 hg5
          skip
          have HB5 := Lib.hid (grown_to hg5 HB3.out (Own.span O3) (Nat.le_refl _) HB3.out.size)
          refine hK.out _ _ (H.out.same HB5.out) (fun hHeld => ?_)
          clear hK K
          try simp only [Act.put, List.setIfInBounds_toArray, List.set_cons_zero, List.set_cons_succ]
          refine wpAnyH_ready (rs := [11]) (by kernel_rfl) (by simp) (AllReadyH.cons (by simp only [List.getElem?_toArray, List.getElem?_cons_succ, List.getElem?_cons_zero]; rfl) (fun K hK => ?_) AllReadyH.nil)
          refine step_app2 _ (by rfl) (.tmp 42) (.tmp 45) 22 (by rfl) .i64 3 i0 (.int .i64 0) 8 Try.underlying22 HI.out.1 HI.out.2.1 HI.out.2.2.1 HI.out.2.2.2 rfl (by rfl) ho5 (by rfl) (nums_tail0 c hHeld hc.1) (by omega) (by omega) HB5.out.size ?_
          intro a6 c6 w6 ho6 hg6
          skip
          have HB6 := Lib.hid (grown_to hg6 HB5.out (Own.span ho5) (Nat.le_refl _) HB5.out.size)
          refine hK.out _ _ (H.out.same HB6.out) (fun hHeld => ?_)
          clear hK K
          try simp only [Act.put, List.setIfInBounds_toArray, List.set_cons_zero, List.set_cons_succ]
          refine wpAnyH_take (i := 12) (v := ?v18) (by simp only [List.getElem?_toArray, List.getElem?_cons_succ, List.getElem?_cons_zero]; rfl) (by kernel_rfl) (by kernel_rfl) (by kernel_rfl) (by exact fun _ _ _ h => h) (Or.inl ⟨by rfl, fun w9 hS9 => ?hy18⟩) hHeld ?rest18
          case hy18 =>
            clear hS9
            go_simp
            try with_reducible rfl
          try simp only [Act.put, List.setIfInBounds_toArray, List.set_cons_zero, List.set_cons_succ]
          refine wpAnyH_done (by kernel_rfl) ?_ _
          go_wp2
          all_goals
            go_ret
            refine ⟨_, _, _, rfl, ?_, HB6.out⟩
            rw [HP.out]
            have e9 : [] ++ l.take j ++ [x] ++ [] = l.take j ++ x :: l.drop j := by rw [List.drop_eq_nil_of_le (by have := hl.out; omega)]; simp
            rw [e9] at ho6
            first | exact ho6 | simpa only [Nat.zero_add, Nat.add_zero] using ho6
        · have HB2 : Hid (Below w.heap.size w ((w.alloc (.cells #[] 3)).alloc (.cells #[.int .i64 x] 3)).drew) := Lib.hid (((Below.refl _ w).alloc (Nat.le_refl _) _).alloc (by simp) _).drew
          have O2 : Own .i64 3 ((w.alloc (.cells #[] 3)).alloc (.cells #[.int .i64 x] 3)).drew w.heap.size (some ⟨w.heap.size, 0, none⟩) 0 0 [] := (Own.empty (Nat.le_refl _)).alloc _
          have N2 : Nums .i64 ((w.alloc (.cells #[] 3)).alloc (.cells #[.int .i64 x] 3)).drew (some ⟨w.heap.size + 1, 0, none⟩) 1 [x] := by
            have := nums_new (w.alloc (.cells #[] 3)) .i64 x 3
            rw [World.size_alloc] at this
            exact this.same (Below.refl _ _).drew
          go_simp
          refine hK.out _ _ (H.out.same HB2.out) (fun hHeld => ?_)
          clear hK K
          try simp only [Act.put, List.setIfInBounds_toArray, List.set_cons_zero, List.set_cons_succ]
          refine wpAnyH_ready (rs := [4]) (by kernel_rfl) (by simp) (AllReadyH.cons (by simp only [List.getElem?_toArray, List.getElem?_cons_succ, List.getElem?_cons_zero]; rfl) (fun K hK => ?_) AllReadyH.nil)
          refine step_app2 _ (by rfl) (.tmp 35) (.tmp 38) 22 (by rfl) .i64 3 i0 (.int .i64 0) 8 Try.underlying22 HI.out.1 HI.out.2.1 HI.out.2.2.1 HI.out.2.2.2 rfl (by rfl) O2 (by rfl) (nums_head hHeld hjn) (by omega) (by omega) HB2.out.size ?_
          intro a3 c3 w3 ho3 hg3
          skip
          have HB3 := Lib.hid (grown_to hg3 HB2.out (Own.span O2) (Nat.le_refl _) HB2.out.size)
          have N3 := nums_far N2 hg3 (by simp [Value.ownBlock])
          refine hK.out _ _ (H.out.same HB3.out) (fun hHeld => ?_)
          clear hK K
          try simp only [Act.put, List.setIfInBounds_toArray, List.set_cons_zero, List.set_cons_succ]
          refine wpAnyH_ready (rs := [7]) (by kernel_rfl) (by simp) (AllReadyH.cons (by simp only [List.getElem?_toArray, List.getElem?_cons_succ, List.getElem?_cons_zero]; rfl) (fun K hK => ?_) AllReadyH.nil)
          refine step_app2 _ (by rfl) (.tmp 39) (.tmp 41) 22 (by rfl) .i64 3 i0 (.int .i64 0) 8 Try.underlying22 HI.out.1 HI.out.2.1 HI.out.2.2.1 HI.out.2.2.2 rfl (by rfl) ho3 (by rfl) N3 (by omega) (by omega) HB3.out.size ?_
          intro a5 c5 w5 ho5 hg5
          skip
          have HB5 := Lib.hid (grown_to hg5 HB3.out (Own.span ho3) (Nat.le_refl _) HB3.out.size)
          refine hK.out _ _ (H.out.same HB5.out) (fun hHeld => ?_)
          clear hK K
          try simp only [Act.put, List.setIfInBounds_toArray, List.set_cons_zero, List.set_cons_succ]
          refine wpAnyH_ready (rs := [11]) (by kernel_rfl) (by simp) (AllReadyH.cons (by simp only [List.getElem?_toArray, List.getElem?_cons_succ, List.getElem?_cons_zero]; rfl) (fun K hK => ?_) AllReadyH.nil)
          refine step_app2 _ (by rfl) (.tmp 42) (.tmp 45) 22 (by rfl) .i64 3 i0 (.int .i64 0) 8 Try.underlying22 HI.out.1 HI.out.2.1 HI.out.2.2.1 HI.out.2.2.2 rfl (by rfl) ho5 (by rfl) (nums_tail0 c hHeld hc.1) (by omega) (by omega) HB5.out.size ?_
          intro a6 c6 w6 ho6 hg6
          skip
          have HB6 := Lib.hid (grown_to hg6 HB5.out (Own.span ho5) (Nat.le_refl _) HB5.out.size)
          refine hK.out _ _ (H.out.same HB6.out) (fun hHeld => ?_)
          clear hK K
          try simp only [Act.put, List.setIfInBounds_toArray, List.set_cons_zero, List.set_cons_succ]
          refine wpAnyH_take (i := 12) (v := ?v19) (by simp only [List.getElem?_toArray, List.getElem?_cons_succ, List.getElem?_cons_zero]; rfl) (by kernel_rfl) (by kernel_rfl) (by kernel_rfl) (by exact fun _ _ _ h => h) (Or.inl ⟨by rfl, fun w9 hS9 => ?hy19⟩) hHeld ?rest19
          case hy19 =>
            clear hS9
            go_simp
            try with_reducible rfl
          try simp only [Act.put, List.setIfInBounds_toArray, List.set_cons_zero, List.set_cons_succ]
          refine wpAnyH_done (by kernel_rfl) ?_ _
          go_wp2
          all_goals
            go_ret
            refine ⟨_, _, _, rfl, ?_, HB6.out⟩
            rw [HP.out]
            have e9 : [] ++ l.take j ++ [x] ++ [] = l.take j ++ x :: l.drop j := by rw [List.drop_eq_nil_of_le (by have := hl.out; omega)]; simp
            rw [e9] at ho6
            first | exact ho6 | simpa only [Nat.zero_add, Nat.add_zero] using ho6
      · have HB1 : Hid (Below w.heap.size w (w.alloc (.cells #[.int .i64 x] 3)).drew) := Lib.hid ((Below.refl _ w).alloc (Nat.le_refl _) _).drew
        go_simp
        refine hK.out _ _ (H.out.same HB1.out) (fun hHeld => ?_)
        clear hK K
        try simp only [Act.put, List.setIfInBounds_toArray, List.set_cons_zero, List.set_cons_succ]
        refine wpAnyH_ready (rs := [0]) (by kernel_rfl) (by simp) (AllReadyH.cons (by simp only [List.getElem?_toArray, List.getElem?_cons_succ, List.getElem?_cons_zero]; rfl) (fun K hK => ?_) AllReadyH.nil)
        have HB2 : Hid (Below w.heap.size w ((w.alloc (.cells #[.int .i64 x] 3)).alloc (.cells #[] 3)).drew) := Lib.hid (((Below.refl _ w).alloc (Nat.le_refl _) _).alloc (by simp) _).drew
        have O2 : Own .i64 3 ((w.alloc (.cells #[.int .i64 x] 3)).alloc (.cells #[] 3)).drew w.heap.size (some ⟨w.heap.size + 1, 0, none⟩) 0 0 [] := by
          have := Own.empty (k := .i64) (t := 3) (w := w.alloc (.cells #[.int .i64 x] 3)) (B := w.heap.size) (by simp)
          rw [World.size_alloc] at this
          exact this
        have N2 : Nums .i64 ((w.alloc (.cells #[.int .i64 x] 3)).alloc (.cells #[] 3)).drew (some ⟨w.heap.size, 0, none⟩) 1 [x] := (nums_new w .i64 x 3).same (alloc_same _ _).drew
        go_simp
        refine hK.out _ _ (H.out.same HB2.out) (fun hHeld => ?_)
        clear hK K
        try simp only [Act.put, List.setIfInBounds_toArray, List.set_cons_zero, List.set_cons_succ]
        refine wpAnyH_ready (rs := [4]) (by kernel_rfl) (by simp) (AllReadyH.cons (by simp only [List.getElem?_toArray, List.getElem?_cons_succ, List.getElem?_cons_zero]; rfl) (fun K hK => ?_) AllReadyH.nil)
        refine step_app2 _ (by rfl) (.tmp 35) (.tmp 38) 22 (by rfl) .i64 3 i0 (.int .i64 0) 8 Try.underlying22 HI.out.1 HI.out.2.1 HI.out.2.2.1 HI.out.2.2.2 rfl (by rfl) O2 (by rfl) (nums_head hHeld hjn) (by omega) (by omega) HB2.out.size ?_
        intro a3 c3 w3 ho3 hg3
        skip
        have HB3 := Lib.hid (grown_to hg3 HB2.out (Own.span O2) (Nat.le_refl _) HB2.out.size)
        have N3 := nums_far N2 hg3 (by simp [Value.ownBlock])
        refine hK.out _ _ (H.out.same HB3.out) (fun hHeld => ?_)
        clear hK K
        try simp only [Act.put, List.setIfInBounds_toArray, List.set_cons_zero, List.set_cons_succ]
        refine wpAnyH_ready (rs := [7]) (by kernel_rfl) (by simp) (AllReadyH.cons (by simp only [List.getElem?_toArray, List.getElem?_cons_succ, List.getElem?_cons_zero]; rfl) (fun K hK => ?_) AllReadyH.nil)
        refine step_app2 _ (by rfl) (.tmp 39) (.tmp 41) 22 (by rfl) .i64 3 i0 (.int .i64 0) 8 Try.underlying22 HI.out.1 HI.out.2.1 HI.out.2.2.1 HI.out.2.2.2 rfl (by rfl) ho3 (by rfl) N3 (by omega) (by omega) HB3.out.size ?_
        intro a5 c5 w5 ho5 hg5
        skip
        have HB5 := Lib.hid (grown_to hg5 HB3.out (Own.span ho3) (Nat.le_refl _) HB3.out.size)
        refine hK.out _ _ (H.out.same HB5.out) (fun hHeld => ?_)
        clear hK K
        try simp only [Act.put, List.setIfInBounds_toArray, List.set_cons_zero, List.set_cons_succ]
        refine wpAnyH_ready (rs := [11]) (by kernel_rfl) (by simp) (AllReadyH.cons (by simp only [List.getElem?_toArray, List.getElem?_cons_succ, List.getElem?_cons_zero]; rfl) (fun K hK => ?_) AllReadyH.nil)
        refine step_app2 _ (by rfl) (.tmp 42) (.tmp 45) 22 (by rfl) .i64 3 i0 (.int .i64 0) 8 Try.underlying22 HI.out.1 HI.out.2.1 HI.out.2.2.1 HI.out.2.2.2 rfl (by rfl) ho5 (by rfl) (nums_tail0 c hHeld hc.1) (by omega) (by omega) HB5.out.size ?_
        intro a6 c6 w6 ho6 hg6
        skip
        have HB6 := Lib.hid (grown_to hg6 HB5.out (Own.span ho5) (Nat.le_refl _) HB5.out.size)
        refine hK.out _ _ (H.out.same HB6.out) (fun hHeld => ?_)
        clear hK K
        try simp only [Act.put, List.setIfInBounds_toArray, List.set_cons_zero, List.set_cons_succ]
        refine wpAnyH_take (i := 12) (v := ?v20) (by simp only [List.getElem?_toArray, List.getElem?_cons_succ, List.getElem?_cons_zero]; rfl) (by kernel_rfl) (by kernel_rfl) (by kernel_rfl) (by exact fun _ _ _ h => h) (Or.inl ⟨by rfl, fun w9 hS9 => ?hy20⟩) hHeld ?rest20
        case hy20 =>
          clear hS9
          go_simp
          try with_reducible rfl
        try simp only [Act.put, List.setIfInBounds_toArray, List.set_cons_zero, List.set_cons_succ]
        refine wpAnyH_done (by kernel_rfl) ?_ _
        go_wp2
        all_goals
          go_ret
          refine ⟨_, _, _, rfl, ?_, HB6.out⟩
          rw [HP.out]
          have e9 : [] ++ l.take j ++ [x] ++ [] = l.take j ++ x :: l.drop j := by rw [List.drop_eq_nil_of_le (by have := hl.out; omega)]; simp
          rw [e9] at ho6
          first | exact ho6 | simpa only [Nat.zero_add, Nat.add_zero] using ho6
end Go.Proofs.Ytcmjadfpifpknaa
namespace Go.Proofs.Ytcmjadfpifpknaa
open Go.ChangeShapes Go.WideShapes Go.ChangeAt Go.RowKit
set_option linter.unusedVariables false
set_option linter.unusedSimpArgs false

set_option maxHeartbeats 4000000 in
set_option maxRecDepth 100000 in
theorem without_any {a : Option Addr} {n c : Nat} {l : List Int} (v : Int) {w : World} (h : Nums .i64 w a n l) (hn : n ≤ 1048576000) :
    Calls Try.prog 54 #[.slice a n c, .int .i64 v] w (Made .i64 3 w.heap.size (without l v) w) := by
  have H := Lib.hid h
  have hl := Lib.hid h.len
  obtain ⟨i0, hi, hz0, hz1, hz2⟩ := info_parts infoIntS
  have HI := Lib.hid (And.intro hi (And.intro hz0 (And.intro hz1 hz2)))
  clear hi hz0 hz1 hz2
  unfold Made
  have KO := Lib.hid (Own.empty (k := .i64) (t := 3) (w := w) (B := w.heap.size) (Nat.le_refl _))
  clear h
  go_enter Try.func54, Try.ntmps54
  go_wp2_with fail
  go_loopw [5, 6] (fun s i wr => ∃ (a' : Option Addr) (c' n' j : Nat), s = .slice a' n' c' ∧ i = .int .i64 (j : Int) ∧ j ≤ n ∧ Own .i64 3 wr w.heap.size a' n' c' (without (l.take j) v) ∧ Below w.heap.size w wr) (fun _ i _ => n - (intOf i).toNat)
  case atStart => exact ⟨_, _, _, 0, rfl, rfl, Nat.zero_le _, by rw [List.take_zero]; exact KO.out, alloc_same _ _⟩
  case round =>
    obtain ⟨a', c', n', j, rfl, rfl, hj, ho, hb⟩ := hrel
    have HO := Lib.hid ho
    have HB := Lib.hid hb
    have hn9 : n' ≤ 1048576000 := by
      have h1 := ho.len
      have h2 := without_few (l.take j) v
      rw [List.length_take] at h2
      omega
    have hsw : w.heap.size ≤ wr.heap.size := hb.size
    clear ho hb
    by_cases hlt : j < n
    · obtain ⟨ad, z, rfl, hx, hc⟩ := (H.out.same HB.out).at_ hlt
      by_cases hq : z = v
      · have HY := Lib.hid (without_no hx hq)
        have hb0 : (z == v) = true := by simpa using hq
        have hb1 : (z != v) = false := by simp [hq]
        clear hq hx
        go_wp2
        go_roundw
        case rel => exact ⟨a', c', n', j + 1, rfl, by go_num, by omega, by rw [HY.out]; exact HO.out, HB.out⟩
        case measure => simp [intOf]; omega
      · have HY := Lib.hid (without_yes hx hq)
        have hb0 : (z == v) = false := by simpa using hq
        have hb1 : (z != v) = true := by simpa using hq
        clear hq hx
        go_wp2_with (at_builtin; refine wpl_app _ rfl (.tmp 20) (.tmp 25) 22 rfl .i64 3 i0 (.int .i64 0) 8 Try.underlying22 HI.out.1 HI.out.2.1 HI.out.2.2.1 HI.out.2.2.2 rfl rfl (HO.out.alloc _) rfl (nums_new _ _ _ _) (by omega) ?c6 ?c7 ?_)
        case c6 => omega
        case c7 => simp; omega
        intro a3 c3 w3 ho3 hb3
        have HO3 := Lib.hid ho3
        have HB3 := Lib.hid hb3
        clear ho3 hb3
        go_wp2
        go_roundw
        case rel => exact ⟨a3, c3, _, j + 1, rfl, by go_num, by omega, by rw [HY.out]; exact HO3.out, HB.out.trans (((alloc_same _ _).mono hsw).trans HB3.out)⟩
        case measure => simp [intOf]; omega
    · obtain rfl : j = n := by omega
      have HY : Hid (without (l.take j) v = without l v) := Lib.hid (by rw [← hl.out, List.take_length])
      go_wp2
      go_ret
      exact ⟨_, _, _, rfl, by rw [← HY.out]; exact HO.out, HB.out⟩
end Go.Proofs.Ytcmjadfpifpknaa
namespace Go.Proofs.Ytcmjadfpifpknaa
open Go.ChangeShapes Go.WideShapes Go.ChangeAt Go.RowKit
set_option linter.unusedVariables false
set_option linter.unusedSimpArgs false

theorem last_get {l : List Int} {k : Nat} (h : l.length = k + 1) : l[k]? = some (l.getLastD 0) := by
  rw [List.getLastD_eq_getLast?, List.getLast?_eq_getElem?, h]
  simp only [Nat.add_sub_cancel]
  rw [List.getElem?_eq_getElem (by omega)]
  rfl
end Go.Proofs.Ytcmjadfpifpknaa
