/- A list of extensions is drawn. A list of extensions is drawn, perhaps with a fault. What chapter 9's law draws: a list of extensions, a list of integers to decode, a list of extensions with a list of tags. The draws of the law of reserved values. The laws' own helpers on lists of integers: whether a number is on a list, whether all are, what is left. -/
import Derived.Test.YtnjjfagokbbelaaG16
import Derived.Test.YtnjjfagokbbelaaG9
import Derived.Test.YtnjjfagokbbelaaG2
import Derived.Deep.RegionHeld3
import Derived.Test.YtnjjfagokbbelaaG10
import Derived.Test.YtnjjfagokbbelaaG7
import Derived.Test.YtnjjfagokbbelaaG13
import Derived.Test.YtnjjfagokbbelaaG1
import Derived.RegionTactic
import Derived.Handy
namespace Go.Proofs.Ytnjjfagokbbelaa
open Go.ChangeShapes Go.WideShapes Go.ChangeAt Go.RowKit
set_option linter.unusedVariables false
set_option linter.unusedSimpArgs false

/-- While one extension of a list is drawn: it lies in block g, its integers behind it, the list below it. -/
structure BoxE (b : Nat) (a : Option Addr) (n c : Nat) (w : World) (g : Nat) (k : Int) (p : Option Addr) (m d : Nat) (y : List Int) (ao : Option Addr) (no co : Nat) (v : List Vl) (W : World) : Prop where
  cu : Curs w b a n c
  dr : Drawn b a n c w W
  box : W.heap[g]? = some (.cells #[.int .i64 k, .slice p m d] 57 (0, 0))
  own : Own .i64 3 W (g + 1) p m d y
  val : OwnVB g 57 3 W w.heap.size ao no co v
  ge : w.heap.size ≤ g
section
variable {b : Nat} {a : Option Addr} {n c : Nat} {w : World} {g : Nat} {k : Int} {p : Option Addr} {m d : Nat} {y : List Int} {ao : Option Addr} {no co : Nat} {v : List Vl} {W W' : World}
theorem BoxE.lt (h : BoxE b a n c w g k p m d y ao no co v W) : g < W.heap.size := by
  rcases Nat.lt_or_ge g W.heap.size with h1 | h1
  · exact h1
  · have := h.box
    rw [Array.getElem?_eq_none h1] at this
    cases this
theorem BoxE.new (k : Int) (cu : Curs w b a n c) (hd : Drawn b a n c w W) (ho : OwnV 57 3 W w.heap.size ao no co v) : BoxE b a n c w W.heap.size k none 0 0 [] ao no co v (W.alloc (.cells #[.int .i64 k, .slice none 0 0] 57)) :=
  ⟨cu, hd.same (alloc_same _ _), heap_alloc_new _ _, Own.nil, ho.lim.same (alloc_same _ _), hd.2.size⟩
theorem BoxE.only (h : BoxE b a n c w g k p m d y ao no co v W) (hd : Drawn b a n c W W') : BoxE b a n c w g k p m d y ao no co v W' := by
  have hb := h.cu.lt
  have hge := h.ge
  exact ⟨h.cu, h.dr.trans hd, by rw [hd.2.block g h.lt (by omega)]; exact h.box, h.own.far (only_grown hd.2) (fun ad e q => by
    have := (h.own.span ad e).1
    cases q
    omega), h.val.only hd.2 hb, hge⟩
theorem BoxE.same (h : BoxE b a n c w g k p m d y ao no co v W) (hb : Below W.heap.size W W') : BoxE b a n c w g k p m d y ao no co v W' :=
  ⟨h.cu, h.dr.same hb, by rw [hb.block g h.lt]; exact h.box, h.own.same hb, h.val.same hb, h.ge⟩
theorem BoxE.num (h : BoxE b a n c w g k p m d y ao no co v W) (k' : Int) : BoxE b a n c w g k' p m d y ao no co v (W.setCell ⟨g, 0, none⟩ (.int .i64 k')) := by
  have hge := h.ge
  have hB : Below w.heap.size W (W.setCell ⟨g, 0, none⟩ (.int .i64 k')) := (Below.refl _ W).setCell (by dsimp only; omega) _
  exact ⟨h.cu, h.dr.under h.cu hB (Nat.le_refl _), by rw [heap_setCell_same W g 0 _ _ (.int .i64 k') h.box]; rfl, h.own.set (fun ad e => by
    have := (h.own.span ad e).1
    omega) _ _, h.val.far (set_grown W g 0 _) (fun r e => by cases e; exact Or.inr (Nat.le_refl _)), hge⟩
/-- The block itself, behind an append onto the integers. -/
theorem BoxE.kept (h : BoxE b a n c w g k p m d y ao no co v W) (hg : W.grownBy W' (Value.ownBlock (.slice p m d))) : W'.heap[g]? = some (.cells #[.int .i64 k, .slice p m d] 57 (0, 0)) := by
  rw [hg.block g h.lt (fun e => ?_)]
  · exact h.box
  · cases hp : p with
    | none => rw [hp] at e; simp [Value.ownBlock] at e
    | some ad =>
      rw [hp] at e
      have := (h.own.span ad hp).1
      simp only [Value.ownBlock, Option.some.injEq] at e
      omega
theorem BoxE.items (h : BoxE b a n c w g k p m d y ao no co v W) (hg : W.grownBy W' (Value.ownBlock (.slice p m d))) {p' : Option Addr} {m' d' : Nat} {y' : List Int} (ho : Own .i64 3 W' (g + 1) p' m' d' y') :
    BoxE b a n c w g k p' m' d' y' ao no co v (W'.setCell ⟨g, 1, none⟩ (.slice p' m' d')) := by
  have hge := h.ge
  have hrow : ∀ r, Value.ownBlock (.slice p m d) = some r → g + 1 ≤ r := fun r e => by
    cases hp : p with
    | none => rw [hp] at e; simp [Value.ownBlock] at e
    | some ad =>
      rw [hp] at e
      have := (h.own.span ad hp).1
      simp only [Value.ownBlock, Option.some.injEq] at e
      omega
  have hB1 : Below w.heap.size W W' := (Below.refl _ W).grown hg h.dr.2.size (fun r e => by have := hrow r e; omega)
  have hB2 : Below w.heap.size W (W'.setCell ⟨g, 1, none⟩ (.slice p' m' d')) := hB1.setCell (by dsimp only; omega) _
  exact ⟨h.cu, h.dr.under h.cu hB2 (Nat.le_refl _), by rw [heap_setCell_same W' g 1 _ _ (.slice p' m' d') (h.kept hg)]; rfl, ho.set (fun ad e => by
    have := (ho.span ad e).1
    omega) _ _, (h.val.far hg (fun r e => Or.inr (by have := hrow r e; omega))).far (set_grown W' g 1 _) (fun r e => by cases e; exact Or.inr (Nat.le_refl _)), hge⟩
theorem BoxE.cell (h : BoxE b a n c w g k p m d y ao no co v W) {q : Addr} {u : Value} (hq : w.cell? q = some u) (hne : q.block ≠ b) : W.cell? q = some u := by
  rw [h.dr.2.cell (cell_in hq) hne]
  exact hq
end

/-- The extensions drawn so far: valid, and no two with the same tag. -/
def Xok (v : List Vl) : Prop := (∀ x ∈ v, okX x = true) ∧ (tagsX v).Nodup
theorem Xok.nil : Xok [] := ⟨fun x hx => by (cases hx), List.nodup_nil⟩
theorem Xok.app {v : List Vl} {k : Int} {y : List Int} (h : Xok v) (hk : 0 ≤ k ∧ k ≤ 255) (hy : ∀ z ∈ y, 0 ≤ z ∧ z ≤ 255) (hl : y.length ≤ 3) (hn : extOf v k < 0) : Xok (v ++ [⟨k, y⟩]) := by
  refine ⟨fun x hx => ?_, ?_⟩
  · rcases List.mem_append.1 hx with q | q
    · exact h.1 x q
    · rw [List.mem_singleton.1 q]
      unfold okX fitIts allIn
      dsimp only
      rw [decide_eq_true hk, decide_eq_true (by omega), Bool.true_and, Bool.true_and, List.all_eq_true]
      intro z hz
      exact decide_eq_true (hy z hz)
  · have hno : ¬ k ∈ tagsX v := fun hm => by
      rw [extOf_yes hm] at hn
      omega
    unfold tagsX at hno ⊢
    rw [List.map_append, List.nodup_append]
    refine ⟨h.2, by simp, fun a ha b hb e => ?_⟩
    have : b = k := by simpa using hb
    rw [e, this] at ha
    exact hno ha
theorem Xok.are {v : List Vl} (h : Xok v) (h6 : v.length ≤ 6) : areX v = true := areX_parts.2 ⟨h6, h.1, h.2⟩
theorem Xok.vok {v : List Vl} (h : Xok v) : Vok 4 v := fun x hx => by
  have h1 := h.1 x hx
  refine ⟨⟨⟨by have := okX_tag h1; omega, by have := okX_tag h1; omega⟩, fun z hz => ?_⟩, okX_few h1⟩
  unfold okX fitIts allIn at h1
  rw [Bool.and_eq_true, Bool.and_eq_true, List.all_eq_true] at h1
  have h2 := h1.2.2 z hz
  rw [decide_eq_true_eq] at h2
  exact ⟨by omega, by omega⟩
set_option maxHeartbeats 8000000 in
set_option maxRecDepth 100000 in
theorem drawE_any (b : Nat) (a : Option Addr) (n c : Nat) (w : World) (hc : Curs w b a n c) :
    Calls Try.prog 56 #[.pointer (some ⟨b, 0, none⟩)] w fun e w' => ∃ (ao : Option Addr) (m co : Nat) (v : List Vl), e = .returned (.slice ao m co) ∧ OwnV 57 3 w' w.heap.size ao m co v ∧ m ≤ 5 ∧ Xok v ∧ Drawn b a n c w w' := by
  have HC := Lib.hid hc
  clear hc
  obtain ⟨i0, hi, hz0, hz1, hz2⟩ := info_parts infoExtS
  have HI := Lib.hid (And.intro hi (And.intro hz0 (And.intro hz1 hz2)))
  clear hi hz0 hz1 hz2
  obtain ⟨i1, hi, hz0, hz1, hz2⟩ := info_parts infoIntS
  have HJ := Lib.hid (And.intro hi (And.intro hz0 (And.intro hz1 hz2)))
  clear hi hz0 hz1 hz2
  have HD0 : Hid (Drawn b a n c w (w.alloc (.cells #[] 57))) := Lib.hid ((Drawn.refl HC.out).same (alloc_same _ _))
  have HO0 : Hid (OwnV 57 3 (w.alloc (.cells #[] 57)) w.heap.size (some ⟨w.heap.size, 0, none⟩) 0 0 []) := Lib.hid (OwnV.empty (Nat.le_refl _))
  go_enter Try.func56, Try.ntmps56
  go_wp2_with fail
  refine (below_any b a n c 6 (by omega) (by omega) _ HD0.out.1).mono ?_
  rintro e w1 ⟨x, hx0, hx1, rfl, hd1⟩
  obtain ⟨q0, rfl⟩ : ∃ q0 : Nat, x = q0 := ⟨x.toNat, by omega⟩
  have HO1 := Lib.hid (HO0.out.only hd1.2 HC.out.lt)
  have HD1 := Lib.hid (HD0.out.trans hd1)
  clear hd1
  go_wp2_with fail
  go_loopw [3, 4] (fun s i wr => ∃ (q : Nat) (ao : Option Addr) (no co : Nat) (v : List Vl), s = .slice ao no co ∧ i = .int .i64 q ∧ no + q ≤ 5 ∧ OwnV 57 3 wr w.heap.size ao no co v ∧ Xok v ∧ Drawn b a n c w wr) (fun _ i _ => (intOf i).toNat)
  case atStart => exact ⟨q0, _, _, _, [], rfl, rfl, by omega, HO1.out, Xok.nil, HD1.out⟩
  case round =>
    obtain ⟨q, ao, no, co, v, rfl, rfl, hq, ho, hv, hd⟩ := hrel
    have HV := Lib.hid hv
    have HO := Lib.hid ho
    have HD := Lib.hid hd
    have hsz := hd.2.size
    clear ho hv hd
    by_cases hq0 : 0 < q
    · have hqi : (0 : Int) < (q : Int) := by omega
      go_wp2_with fail
      refine (pickNew b a n c [1, 2, 3, 10, 26, 40, 42, 200] 8 (by omega) (by omega) rfl rfl wr HD.out.1).mono ?_
      rintro e w2 ⟨x, hx, rfl, hd2⟩
      have hxi : 0 ≤ x ∧ x ≤ 255 := by
        simp only [List.mem_cons, List.not_mem_nil, or_false] at hx
        omega
      have HD2 := Lib.hid (HD.out.trans hd2)
      have HG2 := Lib.hid (BoxE.new x HC.out HD2.out (HO.out.only hd2.2 HC.out.lt))
      have hs2 := HD2.out.2.size
      clear hd2 hx
      go_wp2_with fail
      generalize hgw : w2.heap.size = g at *
      have HGW := Lib.hid hgw
      clear hgw
      generalize w2.alloc (.cells #[.int .i64 x, .slice none 0 0] 57) = w3 at *
      refine (below_any b a n c 4 (by omega) (by omega) _ HG2.out.dr.1).mono ?_
      rintro e w4 ⟨k, hk0, hk1, rfl, hd4⟩
      obtain ⟨r0, rfl⟩ : ∃ r0 : Nat, k = r0 := ⟨k.toNat, by omega⟩
      have HG4 := Lib.hid (HG2.out.only hd4)
      clear hd4
      go_wp2_with fail
      go_loopw [6] (fun s wi => ∃ (r : Nat) (p : Option Addr) (m d : Nat) (y : List Int), s = .int .i64 r ∧ r + m ≤ 3 ∧ (∀ z ∈ y, 0 ≤ z ∧ z ≤ 255) ∧ BoxE b a n c w g x p m d y ao no co v wi) (fun s _ => (intOf s).toNat)
      case atStart => exact ⟨r0, none, 0, 0, [], rfl, by omega, (fun z hz => by cases hz), HG4.out⟩
      case round =>
        obtain ⟨r, p, m, d, y, rfl, hrm, hy, hG⟩ := hrel
        have HG := Lib.hid hG
        have HY := Lib.hid hy
        clear hG hy
        by_cases hr : 0 < r
        · have hr4 : (0 : Int) < (r : Int) := by omega
          go_wp2_with fail
          have GS := Lib.hid (HG.out.same (Below.refl _ wr).drew)
          refine wp_region_held_drew (S := fun _ => True) (by kernel_rfl) trivial (fun hHeld => ?_)
          refine wpAnyH_take (i := 0) (v := ?v1) (by simp only [List.getElem?_toArray, List.getElem?_cons_succ, List.getElem?_cons_zero]; rfl) (by kernel_rfl) (by kernel_rfl) (by kernel_rfl) (by exact fun _ _ _ h => h) (Or.inl ⟨by rfl, fun w9 hS9 => ?hy1⟩) hHeld ?rest1
          case hy1 =>
            clear hS9
            go_simp
            try with_reducible rfl
          try simp only [Act.put, List.setIfInBounds_toArray, List.set_cons_zero, List.set_cons_succ]
          refine wpAnyH_take (i := 2) (v := ?v2) (by simp only [List.getElem?_toArray, List.getElem?_cons_succ, List.getElem?_cons_zero]; rfl) (by kernel_rfl) (by kernel_rfl) (by kernel_rfl) (by exact fun _ _ _ h => h) (Or.inl ⟨by rfl, fun w9 hS9 => ?hy2⟩) hHeld ?rest2
          case hy2 =>
            clear hS9
            go_simp
            try with_reducible rfl
          try simp only [Act.put, List.setIfInBounds_toArray, List.set_cons_zero, List.set_cons_succ]
          refine wpAnyH_ready (rs := [1, 3]) (by kernel_rfl) (by simp) (AllReadyH.cons (by simp only [List.getElem?_toArray, List.getElem?_cons_succ, List.getElem?_cons_zero]; rfl) (fun K hK => ?_) (AllReadyH.cons (by simp only [List.getElem?_toArray, List.getElem?_cons_succ, List.getElem?_cons_zero]; rfl) (fun K hK => ?_) AllReadyH.nil))
          · skip
            have q1 := (block_cell GS.out.box 1).trans rfl
            go_simp
            refine hK.out _ _ trivial (fun hHeld => ?_)
            clear hK K
            try simp only [Act.put, List.setIfInBounds_toArray, List.set_cons_zero, List.set_cons_succ]
            refine wpAnyH_ready (rs := [3]) (by kernel_rfl) (by simp) (AllReadyH.cons (by simp only [List.getElem?_toArray, List.getElem?_cons_succ, List.getElem?_cons_zero]; rfl) (fun K hK => ?_) AllReadyH.nil)
            go_simp
            refine (below_any b a n c 256 (by omega) (by omega) _ GS.out.dr.1).mono ?_
            rintro e x1 ⟨z, hz0, hz1, rfl, hdz⟩
            have GA := Lib.hid (GS.out.only hdz)
            clear hdz
            go_wp2_with fail
            refine hK.out _ _ trivial (fun hHeld => ?_)
            clear hK K
            try simp only [Act.put, List.setIfInBounds_toArray, List.set_cons_zero, List.set_cons_succ]
            refine wpAnyH_ready (rs := [4]) (by kernel_rfl) (by simp) (AllReadyH.cons (by simp only [List.getElem?_toArray, List.getElem?_cons_succ, List.getElem?_cons_zero]; rfl) (fun K hK => ?_) AllReadyH.nil)
            have GB := Lib.hid (GA.out.same (alloc_same x1 (.cells #[.int .i64 z] 3)))
            have NB := Lib.hid (nums_new x1 .i64 z 3)
            go_simp
            refine hK.out _ _ trivial (fun hHeld => ?_)
            clear hK K
            try simp only [Act.put, List.setIfInBounds_toArray, List.set_cons_zero, List.set_cons_succ]
            refine wpAnyH_ready (rs := [5]) (by kernel_rfl) (by simp) (AllReadyH.cons (by simp only [List.getElem?_toArray, List.getElem?_cons_succ, List.getElem?_cons_zero]; rfl) (fun K hK => ?_) AllReadyH.nil)
            have hszb := GB.out.lt
            refine step_app3 _ (by rfl) (.tmp 25) (.tmp 28) 26 (by rfl) .i64 3 i1 (.int .i64 0) 8 Try.underlying26 HJ.out.1 HJ.out.2.1 HJ.out.2.2.1 HJ.out.2.2.2 rfl (by rfl) GB.out.own (by rfl) NB.out (by omega) (by omega) (by omega) (by omega) ?_
            intro p2 d2 x2 ho2 hg2 _
            have HK2 := Lib.hid (GB.out.kept hg2)
            have GC := Lib.hid (GB.out.items hg2 ho2)
            clear ho2 hg2
            refine hK.out _ _ trivial (fun hHeld => ?_)
            clear hK K
            try simp only [Act.put, List.setIfInBounds_toArray, List.set_cons_zero, List.set_cons_succ]
            refine wpAnyH_take (i := 6) (v := ?v3) (by simp only [List.getElem?_toArray, List.getElem?_cons_succ, List.getElem?_cons_zero]; rfl) (by kernel_rfl) (by kernel_rfl) (by kernel_rfl) (by exact fun _ _ _ h => h) (Or.inl ⟨by rfl, fun w9 hS9 => ?hy3⟩) hHeld ?rest3
            case hy3 =>
              clear hS9
              go_simp
              try with_reducible rfl
            try simp only [Act.put, List.setIfInBounds_toArray, List.set_cons_zero, List.set_cons_succ]
            refine wpAnyH_ready (rs := [7]) (by kernel_rfl) (by simp) (AllReadyH.cons (by simp only [List.getElem?_toArray, List.getElem?_cons_succ, List.getElem?_cons_zero]; rfl) (fun K hK => ?_) AllReadyH.nil)
            have r1 := (block_cell HK2.out 1).trans rfl
            have r2 := block_frozen HK2.out 1
            go_simp
            refine hK.out _ _ trivial (fun hHeld => ?_)
            clear hK K
            try simp only [Act.put, List.setIfInBounds_toArray, List.set_cons_zero, List.set_cons_succ]
            refine wpAnyH_done (by kernel_rfl) ?_ _
            have HY2 : Hid (∀ u ∈ y ++ [z], 0 ≤ u ∧ u ≤ 255) := Lib.hid (fun u hu => by
              rcases List.mem_append.1 hu with e | e
              · exact HY.out u e
              · rw [List.mem_singleton.1 e]; exact ⟨by omega, by omega⟩)
            go_wp2_with fail
            go_roundw
            case rel => exact ⟨r - 1, p2, m + 1, d2, y ++ [z], by go_num, by omega, HY2.out, GC.out⟩
            case measure => simp [intOf]; omega
          · skip
            go_simp
            refine (below_any b a n c 256 (by omega) (by omega) _ GS.out.dr.1).mono ?_
            rintro e x1 ⟨z, hz0, hz1, rfl, hdz⟩
            have GA := Lib.hid (GS.out.only hdz)
            clear hdz
            go_wp2_with fail
            refine hK.out _ _ trivial (fun hHeld => ?_)
            clear hK K
            try simp only [Act.put, List.setIfInBounds_toArray, List.set_cons_zero, List.set_cons_succ]
            refine wpAnyH_ready (rs := [1, 4]) (by kernel_rfl) (by simp) (AllReadyH.cons (by simp only [List.getElem?_toArray, List.getElem?_cons_succ, List.getElem?_cons_zero]; rfl) (fun K hK => ?_) (AllReadyH.cons (by simp only [List.getElem?_toArray, List.getElem?_cons_succ, List.getElem?_cons_zero]; rfl) (fun K hK => ?_) AllReadyH.nil))
            · skip
              have q1 := (block_cell GA.out.box 1).trans rfl
              go_simp
              refine hK.out _ _ trivial (fun hHeld => ?_)
              clear hK K
              try simp only [Act.put, List.setIfInBounds_toArray, List.set_cons_zero, List.set_cons_succ]
              refine wpAnyH_ready (rs := [4]) (by kernel_rfl) (by simp) (AllReadyH.cons (by simp only [List.getElem?_toArray, List.getElem?_cons_succ, List.getElem?_cons_zero]; rfl) (fun K hK => ?_) AllReadyH.nil)
              have GB := Lib.hid (GA.out.same (alloc_same x1 (.cells #[.int .i64 z] 3)))
              have NB := Lib.hid (nums_new x1 .i64 z 3)
              go_simp
              refine hK.out _ _ trivial (fun hHeld => ?_)
              clear hK K
              try simp only [Act.put, List.setIfInBounds_toArray, List.set_cons_zero, List.set_cons_succ]
              refine wpAnyH_ready (rs := [5]) (by kernel_rfl) (by simp) (AllReadyH.cons (by simp only [List.getElem?_toArray, List.getElem?_cons_succ, List.getElem?_cons_zero]; rfl) (fun K hK => ?_) AllReadyH.nil)
              have hszb := GB.out.lt
              refine step_app3 _ (by rfl) (.tmp 25) (.tmp 28) 26 (by rfl) .i64 3 i1 (.int .i64 0) 8 Try.underlying26 HJ.out.1 HJ.out.2.1 HJ.out.2.2.1 HJ.out.2.2.2 rfl (by rfl) GB.out.own (by rfl) NB.out (by omega) (by omega) (by omega) (by omega) ?_
              intro p2 d2 x2 ho2 hg2 _
              have HK2 := Lib.hid (GB.out.kept hg2)
              have GC := Lib.hid (GB.out.items hg2 ho2)
              clear ho2 hg2
              refine hK.out _ _ trivial (fun hHeld => ?_)
              clear hK K
              try simp only [Act.put, List.setIfInBounds_toArray, List.set_cons_zero, List.set_cons_succ]
              refine wpAnyH_take (i := 6) (v := ?v4) (by simp only [List.getElem?_toArray, List.getElem?_cons_succ, List.getElem?_cons_zero]; rfl) (by kernel_rfl) (by kernel_rfl) (by kernel_rfl) (by exact fun _ _ _ h => h) (Or.inl ⟨by rfl, fun w9 hS9 => ?hy4⟩) hHeld ?rest4
              case hy4 =>
                clear hS9
                go_simp
                try with_reducible rfl
              try simp only [Act.put, List.setIfInBounds_toArray, List.set_cons_zero, List.set_cons_succ]
              refine wpAnyH_ready (rs := [7]) (by kernel_rfl) (by simp) (AllReadyH.cons (by simp only [List.getElem?_toArray, List.getElem?_cons_succ, List.getElem?_cons_zero]; rfl) (fun K hK => ?_) AllReadyH.nil)
              have r1 := (block_cell HK2.out 1).trans rfl
              have r2 := block_frozen HK2.out 1
              go_simp
              refine hK.out _ _ trivial (fun hHeld => ?_)
              clear hK K
              try simp only [Act.put, List.setIfInBounds_toArray, List.set_cons_zero, List.set_cons_succ]
              refine wpAnyH_done (by kernel_rfl) ?_ _
              have HY2 : Hid (∀ u ∈ y ++ [z], 0 ≤ u ∧ u ≤ 255) := Lib.hid (fun u hu => by
                rcases List.mem_append.1 hu with e | e
                · exact HY.out u e
                · rw [List.mem_singleton.1 e]; exact ⟨by omega, by omega⟩)
              go_wp2_with fail
              go_roundw
              case rel => exact ⟨r - 1, p2, m + 1, d2, y ++ [z], by go_num, by omega, HY2.out, GC.out⟩
              case measure => simp [intOf]; omega
            · skip
              have GB := Lib.hid (GA.out.same (alloc_same x1 (.cells #[.int .i64 z] 3)))
              have NB := Lib.hid (nums_new x1 .i64 z 3)
              go_simp
              refine hK.out _ _ trivial (fun hHeld => ?_)
              clear hK K
              try simp only [Act.put, List.setIfInBounds_toArray, List.set_cons_zero, List.set_cons_succ]
              refine wpAnyH_ready (rs := [1]) (by kernel_rfl) (by simp) (AllReadyH.cons (by simp only [List.getElem?_toArray, List.getElem?_cons_succ, List.getElem?_cons_zero]; rfl) (fun K hK => ?_) AllReadyH.nil)
              have q1 := (block_cell GB.out.box 1).trans rfl
              go_simp
              refine hK.out _ _ trivial (fun hHeld => ?_)
              clear hK K
              try simp only [Act.put, List.setIfInBounds_toArray, List.set_cons_zero, List.set_cons_succ]
              refine wpAnyH_ready (rs := [5]) (by kernel_rfl) (by simp) (AllReadyH.cons (by simp only [List.getElem?_toArray, List.getElem?_cons_succ, List.getElem?_cons_zero]; rfl) (fun K hK => ?_) AllReadyH.nil)
              have hszb := GB.out.lt
              refine step_app3 _ (by rfl) (.tmp 25) (.tmp 28) 26 (by rfl) .i64 3 i1 (.int .i64 0) 8 Try.underlying26 HJ.out.1 HJ.out.2.1 HJ.out.2.2.1 HJ.out.2.2.2 rfl (by rfl) GB.out.own (by rfl) NB.out (by omega) (by omega) (by omega) (by omega) ?_
              intro p2 d2 x2 ho2 hg2 _
              have HK2 := Lib.hid (GB.out.kept hg2)
              have GC := Lib.hid (GB.out.items hg2 ho2)
              clear ho2 hg2
              refine hK.out _ _ trivial (fun hHeld => ?_)
              clear hK K
              try simp only [Act.put, List.setIfInBounds_toArray, List.set_cons_zero, List.set_cons_succ]
              refine wpAnyH_take (i := 6) (v := ?v5) (by simp only [List.getElem?_toArray, List.getElem?_cons_succ, List.getElem?_cons_zero]; rfl) (by kernel_rfl) (by kernel_rfl) (by kernel_rfl) (by exact fun _ _ _ h => h) (Or.inl ⟨by rfl, fun w9 hS9 => ?hy5⟩) hHeld ?rest5
              case hy5 =>
                clear hS9
                go_simp
                try with_reducible rfl
              try simp only [Act.put, List.setIfInBounds_toArray, List.set_cons_zero, List.set_cons_succ]
              refine wpAnyH_ready (rs := [7]) (by kernel_rfl) (by simp) (AllReadyH.cons (by simp only [List.getElem?_toArray, List.getElem?_cons_succ, List.getElem?_cons_zero]; rfl) (fun K hK => ?_) AllReadyH.nil)
              have r1 := (block_cell HK2.out 1).trans rfl
              have r2 := block_frozen HK2.out 1
              go_simp
              refine hK.out _ _ trivial (fun hHeld => ?_)
              clear hK K
              try simp only [Act.put, List.setIfInBounds_toArray, List.set_cons_zero, List.set_cons_succ]
              refine wpAnyH_done (by kernel_rfl) ?_ _
              have HY2 : Hid (∀ u ∈ y ++ [z], 0 ≤ u ∧ u ≤ 255) := Lib.hid (fun u hu => by
                rcases List.mem_append.1 hu with e | e
                · exact HY.out u e
                · rw [List.mem_singleton.1 e]; exact ⟨by omega, by omega⟩)
              go_wp2_with fail
              go_roundw
              case rel => exact ⟨r - 1, p2, m + 1, d2, y ++ [z], by go_num, by omega, HY2.out, GC.out⟩
              case measure => simp [intOf]; omega
        · obtain rfl : r = 0 := by omega
          have c0 := (block_cell HG.out.box 0).trans rfl
          have c1 := (block_cell HG.out.box 1).trans rfl
          have hge := HG.out.ge
          have hsz9 := HG.out.dr.2.size
          have KX := Lib.hid (specExtOf_any (c := co) x HG.out.val.ownV.vals)
          obtain ⟨t, ht⟩ : ∃ t, t = extOf v x := ⟨_, rfl⟩
          rw [← ht] at KX
          by_cases ht0 : t < 0
          · have HV5 : Hid (Xok (v ++ [⟨x, y⟩])) := Lib.hid (HV.out.app hxi HY.out (by have := HG.out.own.len; omega) (by rw [← ht]; exact ht0))
            have HNN : Hid (Items Vh.enc 2 (wr.alloc (.cells #[.int .i64 x, .slice p m d] 57)) (some ⟨wr.heap.size, 0, none⟩) 1 [⟨x, p, m, d⟩]) := Lib.hid (items_new Vh.enc_len wr ⟨x, p, m, d⟩ 57)
            have HFF : Hid (∀ ad, p = some ad → g ≤ ad.block) := Lib.hid (fun ad e => by
              have := (HG.out.own.span ad e).1
              omega)
            have HOX : Hid (Own .i64 3 (wr.alloc (.cells #[.int .i64 x, .slice p m d] 57)) w.heap.size p m d y) := Lib.hid ((HG.out.own.lower (by omega)).alloc _)
            clear ht
            go_wp2_with (first | (go_at_call 81; refine KX.out.mono ?_; rintro e w' ⟨rfl, rfl⟩) | (at_builtin; refine wpl_appV _ rfl (.tmp 36) (.tmp 38) 24 rfl 57 3 i0 (.agg #[.int .i64 0, .slice none 0 0]) 32 Try.underlying24 HI.out.1 HI.out.2.1 HI.out.2.2.1 HI.out.2.2.2 rfl rfl (HG.out.val.same (alloc_same _ _)) rfl HNN.out HOX.out HFF.out (by omega) ?c4 ?c5 ?_))
            case c4 => omega
            case c5 => simp; omega
            intro a5 c5 w5 ho5 hb5
            have HO5 := Lib.hid ho5
            have HD5 : Hid (Drawn b a n c w w5) := Lib.hid (HG.out.dr.under HC.out (((alloc_same _ _).mono hsz9).trans hb5) (Nat.le_refl _))
            clear ho5 hb5 c0 c1
            go_wp2_with fail
            go_roundw
            case rel => exact ⟨q - 1, a5, no + 1, c5, _, rfl, by go_num, by omega, HO5.out, HV5.out, HD5.out⟩
            case measure => simp [intOf]; omega
          · clear ht
            go_wp2_with (go_at_call 81; refine KX.out.mono ?_; rintro e w' ⟨rfl, rfl⟩)
            go_roundw
            case rel => exact ⟨q - 1, ao, no, co, v, rfl, by go_num, by omega, HG.out.val.ownV, HV.out, HG.out.dr⟩
            case measure => simp [intOf]; omega
    · obtain rfl : q = 0 := by omega
      go_wp2_with fail
      go_ret
      exact ⟨_, _, _, _, rfl, HO.out, by omega, HV.out, HD.out⟩
end Go.Proofs.Ytnjjfagokbbelaa
namespace Go.Proofs.Ytnjjfagokbbelaa
open Go.ChangeShapes Go.WideShapes Go.ChangeAt Go.RowKit
set_option linter.unusedVariables false
set_option linter.unusedSimpArgs false

theorem Drawn.row {b : Nat} {a : Option Addr} {n c : Nat} {w X X' : World} {row : Option Nat} (h : Drawn b a n c w X) (cu : Curs w b a n c) (hg : X.grownBy X' row) (hr : ∀ r, row = some r → w.heap.size ≤ r) : Drawn b a n c w X' :=
  h.under cu ((Below.refl _ X).grown hg h.2.size hr) (Nat.le_refl _)
/-- A list of extensions while it is drawn: its rows, and the cursor. -/
structure TwoE (b : Nat) (a : Option Addr) (n c : Nat) (w : World) (g m co : Nat) (hs : List Vh) (v : List Vl) (X : World) : Prop where
  cu : Curs w b a n c
  dr : Drawn b a n c w X
  own : OwnI Vh.enc 2 57 X w.heap.size (some ⟨g, 0, none⟩) m co hs
  row : RowsV 3 X w.heap.size (some ⟨g, 0, none⟩) hs v
section
variable {b : Nat} {a : Option Addr} {n c : Nat} {w : World} {X X' : World} {g m co : Nat} {hs : List Vh} {v : List Vl}
theorem TwoE.ownV (h : TwoE b a n c w g m co hs v X) : OwnV 57 3 X w.heap.size (some ⟨g, 0, none⟩) m co v := ⟨hs, h.own, h.row⟩
theorem TwoE.only (h : TwoE b a n c w g m co hs v X) (hd : Drawn b a n c X X') : TwoE b a n c w g m co hs v X' := by
  have hb := h.cu.lt
  exact ⟨h.cu, h.dr.trans hd, h.own.only hd.2 h.own.span (Or.inl (by omega)), h.row.1, fun j q x hq hx => by
    obtain ⟨e, ho, hdd⟩ := h.row.2.1 j q x hq hx
    exact ⟨e, ho.far (only_grown hd.2) (fun ad e2 q2 => by
      have := (ho.span ad e2).1
      cases q2
      omega), hdd⟩, h.row.2.2⟩
theorem TwoE.same (h : TwoE b a n c w g m co hs v X) (hb : Below X.heap.size X X') : TwoE b a n c w g m co hs v X' := ⟨h.cu, h.dr.same hb, h.own.same hb, h.row.same hb⟩
theorem TwoE.hdr (h : TwoE b a n c w g m co hs v X) {k : Nat} {u : Vh} (hk : hs[k]? = some u) : X.cell? ⟨g, k * 2 + 1, none⟩ = some (.slice u.p u.m u.c) := by
  obtain ⟨bb, o, e, hc⟩ := (h.own.items Vh.enc_len).cell k u hk
  cases e
  have := hc 1 _ rfl
  rw [Nat.zero_add] at this
  exact this
theorem TwoE.tag (h : TwoE b a n c w g m co hs v X) {k : Nat} {u : Vh} (hk : hs[k]? = some u) : X.cell? ⟨g, k * 2, none⟩ = some (.int .i64 u.num) := by
  obtain ⟨bb, o, e, hc⟩ := (h.own.items Vh.enc_len).cell k u hk
  cases e
  have := hc 0 _ rfl
  rw [Nat.zero_add] at this
  exact this
theorem TwoE.ge2 (h : TwoE b a n c w g m co hs v X) : w.heap.size ≤ g := (h.own.span _ rfl).1
/-- The rows of the list, behind an append onto one body. -/
theorem TwoE.kept (h : TwoE b a n c w g m co hs v X) {k : Nat} {u : Vh} {x : Vl} (hk : hs[k]? = some u) (hx : v[k]? = some x) (hg : X.grownBy X' (Value.ownBlock (.slice u.p u.m u.c))) : OwnI Vh.enc 2 57 X' w.heap.size (some ⟨g, 0, none⟩) m co hs ∧ Drawn b a n c w X' := by
  obtain ⟨_, ho, hd⟩ := h.row.2.1 k u x hk hx
  have hrow : ∀ ad, Value.ownBlock (.slice u.p u.m u.c) = some ad → ∃ bd, u.p = some bd ∧ bd.block = ad := fun ad e => by
    cases hvp : u.p with
    | none => rw [hvp] at e; simp [Value.ownBlock] at e
    | some bd => rw [hvp] at e; simp only [Value.ownBlock, Option.some.injEq] at e; exact ⟨bd, rfl, e⟩
  exact ⟨h.own.far hg fun ad e e2 => by
    cases e
    obtain ⟨bd, hb, hbb⟩ := hrow _ e2
    exact hd bd _ hb rfl hbb, h.dr.row h.cu hg fun r e => by
    obtain ⟨bd, hb, hbb⟩ := hrow _ e
    rw [← hbb]
    exact (ho.span bd hb).1⟩
end
/-- What a draw of a list of extensions leaves. -/
def DrewE (b : Nat) (a : Option Addr) (n c : Nat) (w : World) (e : Ending) (w' : World) : Prop :=
  ∃ (ao : Option Addr) (m co : Nat) (v : List Vl), e = .returned (.slice ao m co) ∧ OwnV 57 3 w' w.heap.size ao m co v ∧ m ≤ 6 ∧ Vok 5 v ∧ Drawn b a n c w w'

set_option maxHeartbeats 8000000 in
set_option maxRecDepth 100000 in
theorem anyE_any (b : Nat) (a : Option Addr) (n c : Nat) (w : World) (hc : Curs w b a n c) :
    Calls Try.prog 60 #[.pointer (some ⟨b, 0, none⟩)] w (DrewE b a n c w) := by
  have HC := Lib.hid hc
  have hb := hc.lt
  clear hc
  obtain ⟨i0, hi, hz0, hz1, hz2⟩ := info_parts infoExtS
  have HI := Lib.hid (And.intro hi (And.intro hz0 (And.intro hz1 hz2)))
  clear hi hz0 hz1 hz2
  obtain ⟨i1, hi, hz0, hz1, hz2⟩ := info_parts infoIntS
  have HJ := Lib.hid (And.intro hi (And.intro hz0 (And.intro hz1 hz2)))
  clear hi hz0 hz1 hz2
  go_enter Try.func60, Try.ntmps60
  go_wp2_with fail
  refine (drawE_any b a n c w HC.out).mono ?_
  rintro e w2 ⟨ao, m, co, v, rfl, ho2, hm5, hv2, hd2⟩
  have HVK := Lib.hid (hv2.vok.mono (show 4 ≤ 5 by omega))
  have HVK4 := Lib.hid hv2.vok
  clear hv2
  by_cases hm0 : m = 0
  · have HO2 := Lib.hid ho2
    have HD2 := Lib.hid hd2
    clear ho2 hd2
    subst hm0
    go_wp2_with fail
    go_ret
    exact ⟨_, _, _, v, rfl, HO2.out, by omega, HVK.out, HD2.out⟩
  obtain ⟨hs, hI2, hR2⟩ := ho2
  obtain ⟨g, rfl, hg1, hg2⟩ := hI2.head (by omega)
  have hT2 : TwoE b a n c w g m co hs v w2 := ⟨HC.out, hd2, hI2, hR2⟩
  have hlen : v.length = m := by rw [← hR2.1, hI2.len]
  have HLN := Lib.hid hlen
  have HTW := Lib.hid hT2
  have hmi : ((m : Int) == 0) = false := by simp; omega
  clear hd2 hI2 hR2 hT2 hlen
  go_wp2_with fail
  refine (below_any b a n c (m : Int) (by omega) (by omega) w2 HTW.out.dr.1).mono ?_
  rintro e w3 ⟨x, hx0, hx1, rfl, hd3⟩
  obtain ⟨k, rfl⟩ : ∃ k : Nat, x = k := ⟨x.toNat, by omega⟩
  have hkm : k < m := by omega
  replace HTW := Lib.hid (HTW.out.only hd3)
  clear hd3
  go_wp2_with fail
  refine (below_any b a n c 9 (by omega) (by omega) w3 HTW.out.dr.1).mono ?_
  rintro e w4 ⟨y, hy0, hy1, rfl, hd4⟩
  replace HTW := Lib.hid (HTW.out.only hd4)
  clear hd4
  have hgB := HTW.out.ge2
  obtain ⟨vx, hvx⟩ : ∃ vx, v[k]? = some vx := ⟨_, List.getElem?_eq_getElem (by rw [HLN.out]; exact hkm)⟩
  obtain ⟨⟨hn, hp, hm, hcc⟩, hhk⟩ : ∃ u : Vh, hs[k]? = some u := ⟨_, List.getElem?_eq_getElem (by rw [HTW.out.row.1, HLN.out]; exact hkm)⟩
  have HVX := Lib.hid hvx
  have HHK := Lib.hid hhk
  have hokx := HVK4.out vx (List.mem_of_getElem? hvx)
  have HOX := Lib.hid hokx
  clear hvx hhk hokx
  by_cases q0 : y = 0
  · have b0 : (y == 0) = true := by simpa using q0
    clear q0
    go_wp2_with fail
    refine (pickNew b a n c [-1, 0, 255, 256] 4 (by omega) (by omega) rfl rfl w4 HTW.out.dr.1).mono ?_
    rintro e w5 ⟨z, hz, rfl, hd5⟩
    have hzi : I64 z := list_i64 (l := [-1, 0, 255, 256]) (by decide) hz
    have HT5 := Lib.hid (HTW.out.only hd5)
    have fz := HT5.out.own.2.frozenAt (k * 2)
    obtain ⟨u, hu⟩ := row_cell HT5.out.own.2 (k := k * 2) (by omega)
    have hpn := HT5.out.ownV.putNum HVX.out z
    have HPV := Lib.hid hpn.1
    have HPF := Lib.hid (HT5.out.dr.row HC.out hpn.2 (fun r e => by cases e; exact hgB))
    have HVK2 := Lib.hid (HVK.out.set k hzi HOX.out.1.2 (Nat.le_trans HOX.out.2 (by omega)))
    clear hd5 hz hpn
    go_wp2_with fail
    go_ret
    exact ⟨_, _, _, _, rfl, HPV.out, by omega, HVK2.out, HPF.out⟩
  have b0 : (y == 0) = false := by simpa using q0
  by_cases q1 : y = 1
  · have b1 : (y == 1) = true := by simpa using q1
    clear q1
    go_wp2_with fail
    have HTW0 := Lib.hid (HTW.out.same (Below.refl _ w4).drew)
    refine wp_region_held_drew (S := fun _ => True) (by kernel_rfl) trivial (fun hHeld => ?_)
    refine wpAnyH_take (i := 0) (v := ?v1) (by simp only [List.getElem?_toArray, List.getElem?_cons_succ, List.getElem?_cons_zero]; rfl) (by kernel_rfl) (by kernel_rfl) (by kernel_rfl) (by exact fun _ _ _ h => h) (Or.inl ⟨by rfl, fun w9 hS9 => ?hy1⟩) hHeld ?rest1
    case hy1 =>
      clear hS9
      go_simp
      try with_reducible rfl
    try simp only [Act.put, List.setIfInBounds_toArray, List.set_cons_zero, List.set_cons_succ]
    refine wpAnyH_take (i := 1) (v := ?v2) (by simp only [List.getElem?_toArray, List.getElem?_cons_succ, List.getElem?_cons_zero]; rfl) (by kernel_rfl) (by kernel_rfl) (by kernel_rfl) (by exact fun _ _ _ h => h) (Or.inl ⟨by rfl, fun w9 hS9 => ?hy2⟩) hHeld ?rest2
    case hy2 =>
      clear hS9
      go_simp
      try with_reducible rfl
    try simp only [Act.put, List.setIfInBounds_toArray, List.set_cons_zero, List.set_cons_succ]
    refine wpAnyH_take (i := 2) (v := ?v3) (by simp only [List.getElem?_toArray, List.getElem?_cons_succ, List.getElem?_cons_zero]; rfl) (by kernel_rfl) (by kernel_rfl) (by kernel_rfl) (by exact fun _ _ _ h => h) (Or.inl ⟨by rfl, fun w9 hS9 => ?hy3⟩) hHeld ?rest3
    case hy3 =>
      clear hS9
      go_simp
      try with_reducible rfl
    try simp only [Act.put, List.setIfInBounds_toArray, List.set_cons_zero, List.set_cons_succ]
    refine wpAnyH_take (i := 3) (v := ?v4) (by simp only [List.getElem?_toArray, List.getElem?_cons_succ, List.getElem?_cons_zero]; rfl) (by kernel_rfl) (by kernel_rfl) (by kernel_rfl) (by exact fun _ _ _ h => h) (Or.inl ⟨by rfl, fun w9 hS9 => ?hy4⟩) hHeld ?rest4
    case hy4 =>
      clear hS9
      go_simp
      try with_reducible rfl
    try simp only [Act.put, List.setIfInBounds_toArray, List.set_cons_zero, List.set_cons_succ]
    refine wpAnyH_take (i := 4) (v := ?v5) (by simp only [List.getElem?_toArray, List.getElem?_cons_succ, List.getElem?_cons_zero]; rfl) (by kernel_rfl) (by kernel_rfl) (by kernel_rfl) (by exact fun _ _ _ h => h) (Or.inl ⟨by rfl, fun w9 hS9 => ?hy5⟩) hHeld ?rest5
    case hy5 =>
      clear hS9
      go_simp
      try with_reducible rfl
    try simp only [Act.put, List.setIfInBounds_toArray, List.set_cons_zero, List.set_cons_succ]
    refine wpAnyH_take (i := 5) (v := ?v6) (by simp only [List.getElem?_toArray, List.getElem?_cons_succ, List.getElem?_cons_zero]; rfl) (by kernel_rfl) (by kernel_rfl) (by kernel_rfl) (by exact fun _ _ _ h => h) (Or.inl ⟨by rfl, fun w9 hS9 => ?hy6⟩) hHeld ?rest6
    case hy6 =>
      clear hS9
      go_simp
      try with_reducible rfl
    try simp only [Act.put, List.setIfInBounds_toArray, List.set_cons_zero, List.set_cons_succ]
    refine wpAnyH_take (i := 7) (v := ?v7) (by simp only [List.getElem?_toArray, List.getElem?_cons_succ, List.getElem?_cons_zero]; rfl) (by kernel_rfl) (by kernel_rfl) (by kernel_rfl) (by exact fun _ _ _ h => h) (Or.inl ⟨by rfl, fun w9 hS9 => ?hy7⟩) hHeld ?rest7
    case hy7 =>
      clear hS9
      go_simp
      try with_reducible rfl
    try simp only [Act.put, List.setIfInBounds_toArray, List.set_cons_zero, List.set_cons_succ]
    refine wpAnyH_ready (rs := [6, 8]) (by kernel_rfl) (by simp) (AllReadyH.cons (by simp only [List.getElem?_toArray, List.getElem?_cons_succ, List.getElem?_cons_zero]; rfl) (fun K hK => ?_) (AllReadyH.cons (by simp only [List.getElem?_toArray, List.getElem?_cons_succ, List.getElem?_cons_zero]; rfl) (fun K hK => ?_) AllReadyH.nil))
    · skip
      have q1 := HTW0.out.hdr HHK.out
      dsimp only at q1
      go_simp
      refine hK.out _ _ trivial (fun hHeld => ?_)
      clear hK K
      try simp only [Act.put, List.setIfInBounds_toArray, List.set_cons_zero, List.set_cons_succ]
      refine wpAnyH_ready (rs := [8]) (by kernel_rfl) (by simp) (AllReadyH.cons (by simp only [List.getElem?_toArray, List.getElem?_cons_succ, List.getElem?_cons_zero]; rfl) (fun K hK => ?_) AllReadyH.nil)
      have TA := Lib.hid (HTW0.out.same (alloc_same w4.drew (.cells #[.int .i64 (-1), .int .i64 255, .int .i64 256] 3)))
      go_simp
      refine hK.out _ _ trivial (fun hHeld => ?_)
      clear hK K
      try simp only [Act.put, List.setIfInBounds_toArray, List.set_cons_zero, List.set_cons_succ]
      refine wpAnyH_ready (rs := [9]) (by kernel_rfl) (by simp) (AllReadyH.cons (by simp only [List.getElem?_toArray, List.getElem?_cons_succ, List.getElem?_cons_zero]; rfl) (fun K hK => ?_) AllReadyH.nil)
      go_simp
      refine (pickNew b a n c [-1, 255, 256] 3 (by omega) (by omega) rfl rfl w4.drew HTW0.out.dr.1).mono ?_
      rintro e x1 ⟨z, hz, rfl, hdz⟩
      have hzi : I64 z := list_i64 (l := [-1, 255, 256]) (by decide) hz
      have TB := Lib.hid (HTW0.out.only hdz)
      clear hdz hz
      go_wp2_with fail
      refine hK.out _ _ trivial (fun hHeld => ?_)
      clear hK K
      try simp only [Act.put, List.setIfInBounds_toArray, List.set_cons_zero, List.set_cons_succ]
      refine wpAnyH_ready (rs := [10]) (by kernel_rfl) (by simp) (AllReadyH.cons (by simp only [List.getElem?_toArray, List.getElem?_cons_succ, List.getElem?_cons_zero]; rfl) (fun K hK => ?_) AllReadyH.nil)
      have TC := Lib.hid (TB.out.same (alloc_same x1 (.cells #[.int .i64 z] 3)))
      have NB := Lib.hid (nums_new x1 .i64 z 3)
      go_simp
      refine hK.out _ _ trivial (fun hHeld => ?_)
      clear hK K
      try simp only [Act.put, List.setIfInBounds_toArray, List.set_cons_zero, List.set_cons_succ]
      refine wpAnyH_ready (rs := [11]) (by kernel_rfl) (by simp) (AllReadyH.cons (by simp only [List.getElem?_toArray, List.getElem?_cons_succ, List.getElem?_cons_zero]; rfl) (fun K hK => ?_) AllReadyH.nil)
      have ho := (TC.out.row.2.1 k _ vx HHK.out HVX.out).2.1
      dsimp only at ho
      have hol := ho.len
      have hszb := TC.out.own.span _ rfl
      dsimp only at hszb
      have HOI := Lib.hid ho
      have hox := HOX.out.2
      clear ho
      refine step_app3 _ (by rfl) (.tmp 34) (.tmp 38) 26 (by rfl) .i64 3 i1 (.int .i64 0) 8 Try.underlying26 HJ.out.1 HJ.out.2.1 HJ.out.2.2.1 HJ.out.2.2.2 rfl (by rfl) HOI.out (by rfl) NB.out (by omega) (by omega) (by omega) (by omega) ?_
      intro p2 d2 x2 ho2 hg2 hw2
      have HK2 := Lib.hid (TC.out.kept HHK.out HVX.out hg2)
      have hpi := OwnV.putItems TC.out.ownV HVX.out TC.out.own TC.out.row HHK.out hg2 ho2 (fun ad e => by
        rcases hw2 ad e with q | q
        · exact Or.inl q
        · exact Or.inr (by omega))
      have HPV := Lib.hid hpi.1
      have HPF := Lib.hid (HK2.out.2.row HC.out hpi.2 (fun r e => by cases e; exact hgB))
      have HVK2 := Lib.hid (HVK.out.set k HOX.out.1.1 (y := vx.items ++ [z]) (fun u hu => by
        rcases List.mem_append.1 hu with e | e
        · exact HOX.out.1.2 u e
        · rw [List.mem_singleton.1 e]; exact hzi) (by rw [List.length_append]; simp; omega))
      clear ho2 hg2 hw2 hpi
      refine hK.out _ _ trivial (fun hHeld => ?_)
      clear hK K
      try simp only [Act.put, List.setIfInBounds_toArray, List.set_cons_zero, List.set_cons_succ]
      refine wpAnyH_take (i := 12) (v := ?v8) (by simp only [List.getElem?_toArray, List.getElem?_cons_succ, List.getElem?_cons_zero]; rfl) (by kernel_rfl) (by kernel_rfl) (by kernel_rfl) (by exact fun _ _ _ h => h) (Or.inl ⟨by rfl, fun w9 hS9 => ?hy8⟩) hHeld ?rest8
      case hy8 =>
        clear hS9
        go_simp
        try with_reducible rfl
      try simp only [Act.put, List.setIfInBounds_toArray, List.set_cons_zero, List.set_cons_succ]
      refine wpAnyH_take (i := 13) (v := ?v9) (by simp only [List.getElem?_toArray, List.getElem?_cons_succ, List.getElem?_cons_zero]; rfl) (by kernel_rfl) (by kernel_rfl) (by kernel_rfl) (by exact fun _ _ _ h => h) (Or.inl ⟨by rfl, fun w9 hS9 => ?hy9⟩) hHeld ?rest9
      case hy9 =>
        clear hS9
        go_simp
        try with_reducible rfl
      try simp only [Act.put, List.setIfInBounds_toArray, List.set_cons_zero, List.set_cons_succ]
      refine wpAnyH_ready (rs := [14]) (by kernel_rfl) (by simp) (AllReadyH.cons (by simp only [List.getElem?_toArray, List.getElem?_cons_succ, List.getElem?_cons_zero]; rfl) (fun K hK => ?_) AllReadyH.nil)
      have r1 := HK2.out.1.2.frozenAt (k * 2 + 1)
      obtain ⟨u9, hu9⟩ := row_cell HK2.out.1.2 (k := k * 2 + 1) (by omega)
      go_simp
      refine hK.out _ _ trivial (fun hHeld => ?_)
      clear hK K
      try simp only [Act.put, List.setIfInBounds_toArray, List.set_cons_zero, List.set_cons_succ]
      refine wpAnyH_done (by kernel_rfl) ?_ _
      go_wp2_with fail
      go_ret
      exact ⟨_, _, _, _, rfl, HPV.out, by omega, HVK2.out, HPF.out⟩
    · skip
      have TA := Lib.hid (HTW0.out.same (alloc_same w4.drew (.cells #[.int .i64 (-1), .int .i64 255, .int .i64 256] 3)))
      go_simp
      refine hK.out _ _ trivial (fun hHeld => ?_)
      clear hK K
      try simp only [Act.put, List.setIfInBounds_toArray, List.set_cons_zero, List.set_cons_succ]
      refine wpAnyH_ready (rs := [6, 9]) (by kernel_rfl) (by simp) (AllReadyH.cons (by simp only [List.getElem?_toArray, List.getElem?_cons_succ, List.getElem?_cons_zero]; rfl) (fun K hK => ?_) (AllReadyH.cons (by simp only [List.getElem?_toArray, List.getElem?_cons_succ, List.getElem?_cons_zero]; rfl) (fun K hK => ?_) AllReadyH.nil))
      · skip
        have q1 : (w4.alloc (.cells #[.int .i64 (-1), .int .i64 255, .int .i64 256] 3)).cell? ⟨g, k * 2 + 1, none⟩ = some (.slice hp hm hcc) := TA.out.hdr HHK.out
        go_simp
        refine hK.out _ _ trivial (fun hHeld => ?_)
        clear hK K
        try simp only [Act.put, List.setIfInBounds_toArray, List.set_cons_zero, List.set_cons_succ]
        refine wpAnyH_ready (rs := [9]) (by kernel_rfl) (by simp) (AllReadyH.cons (by simp only [List.getElem?_toArray, List.getElem?_cons_succ, List.getElem?_cons_zero]; rfl) (fun K hK => ?_) AllReadyH.nil)
        go_simp
        refine (pickNew b a n c [-1, 255, 256] 3 (by omega) (by omega) rfl rfl w4.drew HTW0.out.dr.1).mono ?_
        rintro e x1 ⟨z, hz, rfl, hdz⟩
        have hzi : I64 z := list_i64 (l := [-1, 255, 256]) (by decide) hz
        have TB := Lib.hid (HTW0.out.only hdz)
        clear hdz hz
        go_wp2_with fail
        refine hK.out _ _ trivial (fun hHeld => ?_)
        clear hK K
        try simp only [Act.put, List.setIfInBounds_toArray, List.set_cons_zero, List.set_cons_succ]
        refine wpAnyH_ready (rs := [10]) (by kernel_rfl) (by simp) (AllReadyH.cons (by simp only [List.getElem?_toArray, List.getElem?_cons_succ, List.getElem?_cons_zero]; rfl) (fun K hK => ?_) AllReadyH.nil)
        have TC := Lib.hid (TB.out.same (alloc_same x1 (.cells #[.int .i64 z] 3)))
        have NB := Lib.hid (nums_new x1 .i64 z 3)
        go_simp
        refine hK.out _ _ trivial (fun hHeld => ?_)
        clear hK K
        try simp only [Act.put, List.setIfInBounds_toArray, List.set_cons_zero, List.set_cons_succ]
        refine wpAnyH_ready (rs := [11]) (by kernel_rfl) (by simp) (AllReadyH.cons (by simp only [List.getElem?_toArray, List.getElem?_cons_succ, List.getElem?_cons_zero]; rfl) (fun K hK => ?_) AllReadyH.nil)
        have ho := (TC.out.row.2.1 k _ vx HHK.out HVX.out).2.1
        dsimp only at ho
        have hol := ho.len
        have hszb := TC.out.own.span _ rfl
        dsimp only at hszb
        have HOI := Lib.hid ho
        have hox := HOX.out.2
        clear ho
        refine step_app3 _ (by rfl) (.tmp 34) (.tmp 38) 26 (by rfl) .i64 3 i1 (.int .i64 0) 8 Try.underlying26 HJ.out.1 HJ.out.2.1 HJ.out.2.2.1 HJ.out.2.2.2 rfl (by rfl) HOI.out (by rfl) NB.out (by omega) (by omega) (by omega) (by omega) ?_
        intro p2 d2 x2 ho2 hg2 hw2
        have HK2 := Lib.hid (TC.out.kept HHK.out HVX.out hg2)
        have hpi := OwnV.putItems TC.out.ownV HVX.out TC.out.own TC.out.row HHK.out hg2 ho2 (fun ad e => by
          rcases hw2 ad e with q | q
          · exact Or.inl q
          · exact Or.inr (by omega))
        have HPV := Lib.hid hpi.1
        have HPF := Lib.hid (HK2.out.2.row HC.out hpi.2 (fun r e => by cases e; exact hgB))
        have HVK2 := Lib.hid (HVK.out.set k HOX.out.1.1 (y := vx.items ++ [z]) (fun u hu => by
          rcases List.mem_append.1 hu with e | e
          · exact HOX.out.1.2 u e
          · rw [List.mem_singleton.1 e]; exact hzi) (by rw [List.length_append]; simp; omega))
        clear ho2 hg2 hw2 hpi
        refine hK.out _ _ trivial (fun hHeld => ?_)
        clear hK K
        try simp only [Act.put, List.setIfInBounds_toArray, List.set_cons_zero, List.set_cons_succ]
        refine wpAnyH_take (i := 12) (v := ?v10) (by simp only [List.getElem?_toArray, List.getElem?_cons_succ, List.getElem?_cons_zero]; rfl) (by kernel_rfl) (by kernel_rfl) (by kernel_rfl) (by exact fun _ _ _ h => h) (Or.inl ⟨by rfl, fun w9 hS9 => ?hy10⟩) hHeld ?rest10
        case hy10 =>
          clear hS9
          go_simp
          try with_reducible rfl
        try simp only [Act.put, List.setIfInBounds_toArray, List.set_cons_zero, List.set_cons_succ]
        refine wpAnyH_take (i := 13) (v := ?v11) (by simp only [List.getElem?_toArray, List.getElem?_cons_succ, List.getElem?_cons_zero]; rfl) (by kernel_rfl) (by kernel_rfl) (by kernel_rfl) (by exact fun _ _ _ h => h) (Or.inl ⟨by rfl, fun w9 hS9 => ?hy11⟩) hHeld ?rest11
        case hy11 =>
          clear hS9
          go_simp
          try with_reducible rfl
        try simp only [Act.put, List.setIfInBounds_toArray, List.set_cons_zero, List.set_cons_succ]
        refine wpAnyH_ready (rs := [14]) (by kernel_rfl) (by simp) (AllReadyH.cons (by simp only [List.getElem?_toArray, List.getElem?_cons_succ, List.getElem?_cons_zero]; rfl) (fun K hK => ?_) AllReadyH.nil)
        have r1 := HK2.out.1.2.frozenAt (k * 2 + 1)
        obtain ⟨u9, hu9⟩ := row_cell HK2.out.1.2 (k := k * 2 + 1) (by omega)
        go_simp
        refine hK.out _ _ trivial (fun hHeld => ?_)
        clear hK K
        try simp only [Act.put, List.setIfInBounds_toArray, List.set_cons_zero, List.set_cons_succ]
        refine wpAnyH_done (by kernel_rfl) ?_ _
        go_wp2_with fail
        go_ret
        exact ⟨_, _, _, _, rfl, HPV.out, by omega, HVK2.out, HPF.out⟩
      · skip
        go_simp
        refine (pickNew b a n c [-1, 255, 256] 3 (by omega) (by omega) rfl rfl w4.drew HTW0.out.dr.1).mono ?_
        rintro e x1 ⟨z, hz, rfl, hdz⟩
        have hzi : I64 z := list_i64 (l := [-1, 255, 256]) (by decide) hz
        have TB := Lib.hid (HTW0.out.only hdz)
        clear hdz hz
        go_wp2_with fail
        refine hK.out _ _ trivial (fun hHeld => ?_)
        clear hK K
        try simp only [Act.put, List.setIfInBounds_toArray, List.set_cons_zero, List.set_cons_succ]
        refine wpAnyH_ready (rs := [6, 10]) (by kernel_rfl) (by simp) (AllReadyH.cons (by simp only [List.getElem?_toArray, List.getElem?_cons_succ, List.getElem?_cons_zero]; rfl) (fun K hK => ?_) (AllReadyH.cons (by simp only [List.getElem?_toArray, List.getElem?_cons_succ, List.getElem?_cons_zero]; rfl) (fun K hK => ?_) AllReadyH.nil))
        · skip
          have q1 := TB.out.hdr HHK.out
          dsimp only at q1
          go_simp
          refine hK.out _ _ trivial (fun hHeld => ?_)
          clear hK K
          try simp only [Act.put, List.setIfInBounds_toArray, List.set_cons_zero, List.set_cons_succ]
          refine wpAnyH_ready (rs := [10]) (by kernel_rfl) (by simp) (AllReadyH.cons (by simp only [List.getElem?_toArray, List.getElem?_cons_succ, List.getElem?_cons_zero]; rfl) (fun K hK => ?_) AllReadyH.nil)
          have TC := Lib.hid (TB.out.same (alloc_same x1 (.cells #[.int .i64 z] 3)))
          have NB := Lib.hid (nums_new x1 .i64 z 3)
          go_simp
          refine hK.out _ _ trivial (fun hHeld => ?_)
          clear hK K
          try simp only [Act.put, List.setIfInBounds_toArray, List.set_cons_zero, List.set_cons_succ]
          refine wpAnyH_ready (rs := [11]) (by kernel_rfl) (by simp) (AllReadyH.cons (by simp only [List.getElem?_toArray, List.getElem?_cons_succ, List.getElem?_cons_zero]; rfl) (fun K hK => ?_) AllReadyH.nil)
          have ho := (TC.out.row.2.1 k _ vx HHK.out HVX.out).2.1
          dsimp only at ho
          have hol := ho.len
          have hszb := TC.out.own.span _ rfl
          dsimp only at hszb
          have HOI := Lib.hid ho
          have hox := HOX.out.2
          clear ho
          refine step_app3 _ (by rfl) (.tmp 34) (.tmp 38) 26 (by rfl) .i64 3 i1 (.int .i64 0) 8 Try.underlying26 HJ.out.1 HJ.out.2.1 HJ.out.2.2.1 HJ.out.2.2.2 rfl (by rfl) HOI.out (by rfl) NB.out (by omega) (by omega) (by omega) (by omega) ?_
          intro p2 d2 x2 ho2 hg2 hw2
          have HK2 := Lib.hid (TC.out.kept HHK.out HVX.out hg2)
          have hpi := OwnV.putItems TC.out.ownV HVX.out TC.out.own TC.out.row HHK.out hg2 ho2 (fun ad e => by
            rcases hw2 ad e with q | q
            · exact Or.inl q
            · exact Or.inr (by omega))
          have HPV := Lib.hid hpi.1
          have HPF := Lib.hid (HK2.out.2.row HC.out hpi.2 (fun r e => by cases e; exact hgB))
          have HVK2 := Lib.hid (HVK.out.set k HOX.out.1.1 (y := vx.items ++ [z]) (fun u hu => by
            rcases List.mem_append.1 hu with e | e
            · exact HOX.out.1.2 u e
            · rw [List.mem_singleton.1 e]; exact hzi) (by rw [List.length_append]; simp; omega))
          clear ho2 hg2 hw2 hpi
          refine hK.out _ _ trivial (fun hHeld => ?_)
          clear hK K
          try simp only [Act.put, List.setIfInBounds_toArray, List.set_cons_zero, List.set_cons_succ]
          refine wpAnyH_take (i := 12) (v := ?v12) (by simp only [List.getElem?_toArray, List.getElem?_cons_succ, List.getElem?_cons_zero]; rfl) (by kernel_rfl) (by kernel_rfl) (by kernel_rfl) (by exact fun _ _ _ h => h) (Or.inl ⟨by rfl, fun w9 hS9 => ?hy12⟩) hHeld ?rest12
          case hy12 =>
            clear hS9
            go_simp
            try with_reducible rfl
          try simp only [Act.put, List.setIfInBounds_toArray, List.set_cons_zero, List.set_cons_succ]
          refine wpAnyH_take (i := 13) (v := ?v13) (by simp only [List.getElem?_toArray, List.getElem?_cons_succ, List.getElem?_cons_zero]; rfl) (by kernel_rfl) (by kernel_rfl) (by kernel_rfl) (by exact fun _ _ _ h => h) (Or.inl ⟨by rfl, fun w9 hS9 => ?hy13⟩) hHeld ?rest13
          case hy13 =>
            clear hS9
            go_simp
            try with_reducible rfl
          try simp only [Act.put, List.setIfInBounds_toArray, List.set_cons_zero, List.set_cons_succ]
          refine wpAnyH_ready (rs := [14]) (by kernel_rfl) (by simp) (AllReadyH.cons (by simp only [List.getElem?_toArray, List.getElem?_cons_succ, List.getElem?_cons_zero]; rfl) (fun K hK => ?_) AllReadyH.nil)
          have r1 := HK2.out.1.2.frozenAt (k * 2 + 1)
          obtain ⟨u9, hu9⟩ := row_cell HK2.out.1.2 (k := k * 2 + 1) (by omega)
          go_simp
          refine hK.out _ _ trivial (fun hHeld => ?_)
          clear hK K
          try simp only [Act.put, List.setIfInBounds_toArray, List.set_cons_zero, List.set_cons_succ]
          refine wpAnyH_done (by kernel_rfl) ?_ _
          go_wp2_with fail
          go_ret
          exact ⟨_, _, _, _, rfl, HPV.out, by omega, HVK2.out, HPF.out⟩
        · skip
          have TC := Lib.hid (TB.out.same (alloc_same x1 (.cells #[.int .i64 z] 3)))
          have NB := Lib.hid (nums_new x1 .i64 z 3)
          go_simp
          refine hK.out _ _ trivial (fun hHeld => ?_)
          clear hK K
          try simp only [Act.put, List.setIfInBounds_toArray, List.set_cons_zero, List.set_cons_succ]
          refine wpAnyH_ready (rs := [6]) (by kernel_rfl) (by simp) (AllReadyH.cons (by simp only [List.getElem?_toArray, List.getElem?_cons_succ, List.getElem?_cons_zero]; rfl) (fun K hK => ?_) AllReadyH.nil)
          have q1 := TC.out.hdr HHK.out
          dsimp only at q1
          go_simp
          refine hK.out _ _ trivial (fun hHeld => ?_)
          clear hK K
          try simp only [Act.put, List.setIfInBounds_toArray, List.set_cons_zero, List.set_cons_succ]
          refine wpAnyH_ready (rs := [11]) (by kernel_rfl) (by simp) (AllReadyH.cons (by simp only [List.getElem?_toArray, List.getElem?_cons_succ, List.getElem?_cons_zero]; rfl) (fun K hK => ?_) AllReadyH.nil)
          have ho := (TC.out.row.2.1 k _ vx HHK.out HVX.out).2.1
          dsimp only at ho
          have hol := ho.len
          have hszb := TC.out.own.span _ rfl
          dsimp only at hszb
          have HOI := Lib.hid ho
          have hox := HOX.out.2
          clear ho
          refine step_app3 _ (by rfl) (.tmp 34) (.tmp 38) 26 (by rfl) .i64 3 i1 (.int .i64 0) 8 Try.underlying26 HJ.out.1 HJ.out.2.1 HJ.out.2.2.1 HJ.out.2.2.2 rfl (by rfl) HOI.out (by rfl) NB.out (by omega) (by omega) (by omega) (by omega) ?_
          intro p2 d2 x2 ho2 hg2 hw2
          have HK2 := Lib.hid (TC.out.kept HHK.out HVX.out hg2)
          have hpi := OwnV.putItems TC.out.ownV HVX.out TC.out.own TC.out.row HHK.out hg2 ho2 (fun ad e => by
            rcases hw2 ad e with q | q
            · exact Or.inl q
            · exact Or.inr (by omega))
          have HPV := Lib.hid hpi.1
          have HPF := Lib.hid (HK2.out.2.row HC.out hpi.2 (fun r e => by cases e; exact hgB))
          have HVK2 := Lib.hid (HVK.out.set k HOX.out.1.1 (y := vx.items ++ [z]) (fun u hu => by
            rcases List.mem_append.1 hu with e | e
            · exact HOX.out.1.2 u e
            · rw [List.mem_singleton.1 e]; exact hzi) (by rw [List.length_append]; simp; omega))
          clear ho2 hg2 hw2 hpi
          refine hK.out _ _ trivial (fun hHeld => ?_)
          clear hK K
          try simp only [Act.put, List.setIfInBounds_toArray, List.set_cons_zero, List.set_cons_succ]
          refine wpAnyH_take (i := 12) (v := ?v14) (by simp only [List.getElem?_toArray, List.getElem?_cons_succ, List.getElem?_cons_zero]; rfl) (by kernel_rfl) (by kernel_rfl) (by kernel_rfl) (by exact fun _ _ _ h => h) (Or.inl ⟨by rfl, fun w9 hS9 => ?hy14⟩) hHeld ?rest14
          case hy14 =>
            clear hS9
            go_simp
            try with_reducible rfl
          try simp only [Act.put, List.setIfInBounds_toArray, List.set_cons_zero, List.set_cons_succ]
          refine wpAnyH_take (i := 13) (v := ?v15) (by simp only [List.getElem?_toArray, List.getElem?_cons_succ, List.getElem?_cons_zero]; rfl) (by kernel_rfl) (by kernel_rfl) (by kernel_rfl) (by exact fun _ _ _ h => h) (Or.inl ⟨by rfl, fun w9 hS9 => ?hy15⟩) hHeld ?rest15
          case hy15 =>
            clear hS9
            go_simp
            try with_reducible rfl
          try simp only [Act.put, List.setIfInBounds_toArray, List.set_cons_zero, List.set_cons_succ]
          refine wpAnyH_ready (rs := [14]) (by kernel_rfl) (by simp) (AllReadyH.cons (by simp only [List.getElem?_toArray, List.getElem?_cons_succ, List.getElem?_cons_zero]; rfl) (fun K hK => ?_) AllReadyH.nil)
          have r1 := HK2.out.1.2.frozenAt (k * 2 + 1)
          obtain ⟨u9, hu9⟩ := row_cell HK2.out.1.2 (k := k * 2 + 1) (by omega)
          go_simp
          refine hK.out _ _ trivial (fun hHeld => ?_)
          clear hK K
          try simp only [Act.put, List.setIfInBounds_toArray, List.set_cons_zero, List.set_cons_succ]
          refine wpAnyH_done (by kernel_rfl) ?_ _
          go_wp2_with fail
          go_ret
          exact ⟨_, _, _, _, rfl, HPV.out, by omega, HVK2.out, HPF.out⟩
  have b1 : (y == 1) = false := by simpa using q1
  by_cases q2 : y = 2
  · have b2 : (y == 2) = true := by simpa using q2
    clear q2
    have hs4 := HTW.out.dr.2.size
    have HT5 := Lib.hid (HTW.out.same (alloc_same w4 (.cells #[.int .i64 1, .int .i64 2, .int .i64 3, .int .i64 4, .int .i64 5] 3)))
    have fz := HT5.out.own.2.frozenAt (k * 2 + 1)
    obtain ⟨u, hu⟩ := row_cell HT5.out.own.2 (k := k * 2 + 1) (by omega)
    have hpi := OwnV.putItems HTW.out.ownV HVX.out HTW.out.own HTW.out.row HHK.out (grown_below (alloc_same w4 (.cells #[.int .i64 1, .int .i64 2, .int .i64 3, .int .i64 4, .int .i64 5] 3)) _) (p := some ⟨w4.heap.size, 0, none⟩) (m := 5) (d := 5) (y := [1, 2, 3, 4, 5]) ⟨rfl, World.ownsRow_lit w4 #[.int .i64 1, .int .i64 2, .int .i64 3, .int .i64 4, .int .i64 5] 5 hs4 (by unfold maxLen; omega) rfl⟩ (fun ad e => Or.inr (by cases e; exact Nat.le_refl _))
    have HPV := Lib.hid hpi.1
    have HPF := Lib.hid (HT5.out.dr.row HC.out hpi.2 (fun r e => by cases e; exact hgB))
    have HVK2 := Lib.hid (HVK.out.set k HOX.out.1.1 (y := [1, 2, 3, 4, 5]) (fun z hz => list_i64 (l := [1, 2, 3, 4, 5]) (by decide) hz) (by simp))
    clear hpi
    go_wp2_with fail
    go_ret
    exact ⟨_, _, _, _, rfl, HPV.out, by omega, HVK2.out, HPF.out⟩
  have b2 : (y == 2) = false := by simpa using q2
  by_cases q3 : y = 3
  · have b3 : (y == 3) = true := by simpa using q3
    clear q3
    obtain ⟨v0, hv0⟩ : ∃ v0, v[0]? = some v0 := ⟨_, List.getElem?_eq_getElem (by rw [HLN.out]; omega)⟩
    obtain ⟨⟨z, zp, zm, zc⟩, hh0⟩ : ∃ u : Vh, hs[0]? = some u := ⟨_, List.getElem?_eq_getElem (by rw [HTW.out.row.1, HLN.out]; omega)⟩
    have hz0 := HTW.out.tag hh0
    have hzi : I64 z := by
      have h1 := (HTW.out.row.2.1 0 _ v0 hh0 hv0).1
      have h2 := (HVK4.out v0 (List.mem_of_getElem? hv0)).1.1
      rw [h1] at h2
      exact h2
    rw [Nat.zero_mul] at hz0
    dsimp only at hz0
    have hmi2 : (0 : Int) < (m : Int) := by omega
    have HLM := Lib.hid HTW.out.ownV.lim
    have HNN : Hid (Items Vh.enc 2 (w4.alloc (.cells #[.int .i64 z, .slice none 0 0] 57)) (some ⟨w4.heap.size, 0, none⟩) 1 [⟨z, none, 0, 0⟩]) := Lib.hid (items_new Vh.enc_len w4 ⟨z, none, 0, 0⟩ 57)
    have hsz4 := HTW.out.own.span _ rfl
    dsimp only at hsz4
    clear hv0 hh0
    go_wp2_with (at_builtin; refine wpl_appV2 _ rfl (.tmp 51) (.tmp 57) 24 rfl 57 3 i0 (.agg #[.int .i64 0, .slice none 0 0]) 32 Try.underlying24 HI.out.1 HI.out.2.1 HI.out.2.2.1 HI.out.2.2.2 rfl rfl (HLM.out.same (alloc_same _ _)) rfl HNN.out (Own.nil) (fun ad e => by cases e) (by omega) ?c4 ?c5 ?_)
    case c4 => omega
    case c5 => simp; omega
    intro a5 c5 w5 ho5 hg5
    have HPV := Lib.hid ho5
    have HPF := Lib.hid ((HTW.out.same (alloc_same w4 (.cells #[.int .i64 z, .slice none 0 0] 57))).dr.row HC.out hg5 (fun r e => by
      simp only [Value.ownBlock, Option.some.injEq] at e
      omega))
    have HVK2 := Lib.hid (HVK.out.app (k := z) (y := []) hzi (fun z hz => by cases hz) (by simp))
    clear ho5 hg5
    go_wp2_with fail
    go_ret
    exact ⟨_, _, _, _, rfl, HPV.out, by omega, HVK2.out, HPF.out⟩
  have b3 : (y == 3) = false := by simpa using q3
  clear q0 q1 q2 q3
  have HPV := Lib.hid HTW.out.ownV
  have HPF := Lib.hid HTW.out.dr
  go_wp2_with fail
  go_ret
  exact ⟨_, _, _, _, rfl, HPV.out, by omega, HVK.out, HPF.out⟩
end Go.Proofs.Ytnjjfagokbbelaa
namespace Go.Proofs.Ytnjjfagokbbelaa
open Go.ChangeShapes Go.WideShapes Go.ChangeAt Go.RowKit
set_option linter.unusedVariables false
set_option linter.unusedSimpArgs false

/-- A list of extensions that is drawn off a code. -/
def DrawnX (w : World) (e : Ending) (w' : World) : Prop :=
  ∃ (ao : Option Addr) (m co : Nat) (v : List Vl), e = .returned (.slice ao m co) ∧ OwnV 57 3 w' w.heap.size ao m co v ∧ m ≤ 6 ∧ Vok 5 v ∧ Below w.heap.size w w'
set_option maxRecDepth 100000 in
theorem drawAreExts_any (a : Option Addr) (n c : Nat) (w : World) (hC : Code w a n) :
    Calls Try.prog 47 #[.slice a n c] w (DrawnX w) := by
  have HC := Lib.hid hC
  clear hC
  go_enter Try.func47, Try.ntmps47
  go_wp2_with fail
  refine (new_any a n c HC.out.2 w HC.out.1).mono ?_
  rintro e w1 ⟨rfl, hcu, hb1⟩
  have HCU := Lib.hid hcu
  have HB1 := Lib.hid hb1
  have hs1 := hb1.size
  clear hcu hb1
  go_wp2_with fail
  refine (anyE_any w.heap.size a n c w1 HCU.out).mono ?_
  rintro e w2 ⟨ao, m, co, v, rfl, ho, hm, hv, hd⟩
  have HO := Lib.hid (ho.lower hs1)
  have HB2 := Lib.hid (HB1.out.trans (hd.below (Nat.le_refl _) hs1))
  have HV := Lib.hid hv
  clear ho hv hd
  go_wp2_with fail
  go_ret
  exact ⟨_, _, _, v, rfl, HO.out, hm, HV.out, HB2.out⟩
set_option maxRecDepth 100000 in
theorem drawEncodeExts_any (a : Option Addr) (n c : Nat) (w : World) (hC : Code w a n) :
    Calls Try.prog 12 #[.slice a n c] w (DrawnX w) := by
  have K := Lib.hid (drawAreExts_any a n c w hC)
  clear hC
  unfold DrawnX at K ⊢
  go_enter Try.func12, Try.ntmps12
  go_wp2_with fail
  refine K.out.mono ?_
  rintro e w2 ⟨ao, m, co, v, rfl, ho, hm, hv, hb⟩
  have HO := Lib.hid ho
  have HB := Lib.hid hb
  have HV := Lib.hid hv
  clear ho hv hb
  go_wp2_with fail
  go_ret
  exact ⟨_, _, _, v, rfl, HO.out, hm, HV.out, HB.out⟩
set_option maxHeartbeats 4000000 in
set_option maxRecDepth 100000 in
theorem drawDecodeExts_any (a : Option Addr) (n c : Nat) (w : World) (hC : Code w a n) :
    Calls Try.prog 17 #[.slice a n c] w fun e w' => ∃ (q : Option Addr) (m d : Nat) (y : List Int), e = .returned (.slice q m d) ∧ Own .i64 3 w' w.heap.size q m d y ∧ m ≤ 40 ∧ Below w.heap.size w w' := by
  have HC := Lib.hid hC
  clear hC
  obtain ⟨i0, hi, hz0, hz1, hz2⟩ := info_parts infoIntS
  have HI := Lib.hid (And.intro hi (And.intro hz0 (And.intro hz1 hz2)))
  clear hi hz0 hz1 hz2
  go_enter Try.func17, Try.ntmps17
  go_wp2_with fail
  refine (new_any a n c HC.out.2 w HC.out.1).mono ?_
  rintro e w1 ⟨rfl, hcu, hb1⟩
  have HCU := Lib.hid hcu
  have HB1 := Lib.hid hb1
  have hs1 := hb1.size
  have hb := hcu.lt
  obtain ⟨b, hbe⟩ : ∃ b, b = w.heap.size := ⟨_, rfl⟩
  have HBE := Lib.hid hbe
  rw [← hbe] at HCU hb ⊢
  clear hcu hb1 hbe
  have hfin : Hid (∀ w9, Drawn b a n c w1 w9 → Below w.heap.size w w9) := Lib.hid (fun w9 h9 => HB1.out.trans (h9.below (by rw [HBE.out]; exact Nat.le_refl _) hs1))
  go_wp2_with fail
  refine (drawE_any b a n c w1 HCU.out).mono ?_
  rintro e w2 ⟨ao, m, co, v, rfl, ho, hm, hv, hd2⟩
  have ha : areX v = true := hv.are (by rw [ho.len]; omega)
  have HEV := Lib.hid ho.vals
  have HD2 := Lib.hid hd2
  have hs2 := hd2.2.size
  have KE := Lib.hid (specEncodeExts_any (c := co) ho.vals)
  unfold EncXT at KE
  have hew := encW_yes ha
  rw [ha, hew] at KE
  have hfew := encX_few ha
  have hpos : 1 ≤ (encX v).length := by simp [encX]
  obtain ⟨y, hy⟩ : ∃ y, y = encX v := ⟨_, rfl⟩
  rw [← hy] at KE hfew hpos
  clear ho hv hd2 ha hew hy
  go_wp2_with fail
  refine KE.out.mono ?_
  rintro e w3 ⟨a2, n2, c2, rfl, ho3, hb3⟩
  have hn2 : n2 = y.length := ho3.len.symm
  have hn2a : n2 ≤ 37 := by omega
  have hn0 : 0 < n2 := by omega
  have HO3 := Lib.hid (ho3.lower hs2)
  have HD3 := Lib.hid (HD2.out.same hb3)
  clear ho3 hb3 hn2 KE hfew hpos
  go_wp2_with fail
  refine (below_any b a n c 7 (by omega) (by omega) _ HD3.out.1).mono ?_
  rintro e w4 ⟨x, hx0, hx1, rfl, hd4⟩
  have HO4 := Lib.hid (HO3.out.only hd4.2 HO3.out.span (Or.inl hb))
  have HD4 := Lib.hid (HD3.out.trans hd4)
  have hs4 := HD4.out.2.size
  have hrm := HO4.out.room
  clear hd4
  by_cases q0 : x = 0
  · have b0 : (x == 0) = true := by simpa using q0
    clear q0
    go_wp2_with fail
    refine (below_any b a n c 3 (by omega) (by omega) _ HD4.out.1).mono ?_
    rintro e w5 ⟨z, hz0, hz1, rfl, hd5⟩
    have HO5 := Lib.hid (HO4.out.only hd5.2 HO4.out.span (Or.inl hb))
    have HD5 := Lib.hid (HD4.out.trans hd5)
    have hs5 := HD5.out.2.size
    clear hd5
    go_wp2_with (at_builtin; refine wpl_app _ rfl (.tmp 18) (.tmp 21) 26 rfl .i64 3 i0 (.int .i64 0) 8 Try.underlying26 HI.out.1 HI.out.2.1 HI.out.2.2.1 HI.out.2.2.2 rfl rfl (HO5.out.alloc _) rfl (nums_new _ _ _ _) (by omega) ?c1 ?c2 ?_)
    case c1 => omega
    case c2 => simp; omega
    intro a6 c6 w6 ho6 hb6
    have HO6 := Lib.hid ho6
    have HB6 : Hid (Below w.heap.size w w6) := Lib.hid (hfin.out _ (HD5.out.under HCU.out (((alloc_same _ _).mono hs5).trans hb6) (Nat.le_refl _)))
    clear ho6 hb6
    go_wp2_with fail
    go_ret
    exact ⟨_, _, _, _, rfl, HO6.out.lower hs1, by omega, HB6.out⟩
  have b0 : (x == 0) = false := by simpa using q0
  by_cases q1 : x = 1
  · have b1 : (x == 1) = true := by simpa using q1
    clear q0 q1
    have hni : (0 : Int) < (n2 : Int) := by omega
    obtain ⟨g, rfl, hg0, hg1⟩ := HO4.out.head hn0
    have HO5 := Lib.hid (HO4.out.cut (m := n2 - 1) (by omega) hn0)
    go_wp2_with fail
    go_ret
    exact ⟨_, n2 - 1, _, _, rfl, HO5.out.lower hs1, by omega, hfin.out _ HD4.out⟩
  have b1 : (x == 1) = false := by simpa using q1
  by_cases q2 : x = 2
  · have b2 : (x == 2) = true := by simpa using q2
    clear q0 q1 q2
    have hni : (0 : Int) < (n2 : Int) := by omega
    obtain ⟨g, rfl, hg0, hg1⟩ := HO4.out.head hn0
    go_wp2_with fail
    refine (below_any b a n c (n2 : Int) (by omega) (by omega) _ HD4.out.1).mono ?_
    rintro e w5 ⟨z, hz0, hz1, rfl, hd5⟩
    obtain ⟨k, rfl⟩ : ∃ k : Nat, z = k := ⟨z.toNat, by omega⟩
    have HO5 := Lib.hid (HO4.out.only hd5.2 HO4.out.span (Or.inl hb))
    have HD5 := Lib.hid (HD4.out.trans hd5)
    clear hd5
    go_wp2_with fail
    refine (pickNew b a n c [0, 1, 2, 7, 255, 256, -1, 9223372036854775807] 8 (by omega) (by omega) rfl rfl w5 HD5.out.1).mono ?_
    rintro e w6 ⟨z, hz, rfl, hd6⟩
    have HO6 := Lib.hid (HO5.out.only hd6.2 HO5.out.span (Or.inl hb))
    have HD6 := Lib.hid (HD5.out.trans hd6)
    have hf := HO6.out.2.frozenAt k
    obtain ⟨u, hu⟩ : ∃ u, w6.cell? ⟨g, k, none⟩ = some u := by
      rw [HO6.out.2.cellAt k (by omega)]
      exact ⟨_, List.getElem?_eq_getElem (by rw [HO6.out.2.1]; omega)⟩
    have hst := HO6.out.2.stored k (.int .i64 z)
    rw [← List.map_set] at hst
    have HO7 : Hid (Own .i64 3 (w6.setCell ⟨g, k, none⟩ (.int .i64 z)) w1.heap.size (some ⟨g, 0, none⟩) n2 c2 (y.set k z)) := Lib.hid ⟨by rw [List.length_set]; exact HO6.out.1, hst.1⟩
    have HB7 := Lib.hid (hfin.out _ (HD6.out.1.far hst.2 (by omega) HCU.out HD6.out hg0))
    clear hst hd6 hz
    go_wp2_with fail
    go_ret
    exact ⟨_, _, _, _, rfl, HO7.out.lower hs1, by omega, HB7.out⟩
  have b2 : (x == 2) = false := by simpa using q2
  clear q0 q1 q2
  go_wp2_with fail
  go_ret
  exact ⟨_, _, _, _, rfl, HO4.out.lower hs1, by omega, hfin.out _ HD4.out⟩
set_option maxHeartbeats 4000000 in
set_option maxRecDepth 100000 in
theorem drawKnownOf_any (a : Option Addr) (n c : Nat) (w : World) (hC : Code w a n) :
    Calls Try.prog 19 #[.slice a n c] w fun e w' => ∃ (ao : Option Addr) (m co : Nat) (v : List Vl) (q : Option Addr) (tn td : Nat) (y : List Int), e = .returned (.tuple #[.slice ao m co, .slice q tn td]) ∧
      OwnV 57 3 w' w.heap.size ao m co v ∧ m ≤ 6 ∧ Vok 5 v ∧ Own .i64 3 w' w.heap.size q tn td y ∧ tn ≤ 3 ∧ (∀ z ∈ y, I64 z) ∧ Below w.heap.size w w' := by
  have HC := Lib.hid hC
  clear hC
  obtain ⟨i0, hi, hz0, hz1, hz2⟩ := info_parts infoIntS
  have HI := Lib.hid (And.intro hi (And.intro hz0 (And.intro hz1 hz2)))
  clear hi hz0 hz1 hz2
  go_enter Try.func19, Try.ntmps19
  go_wp2_with fail
  refine (new_any a n c HC.out.2 w HC.out.1).mono ?_
  rintro e w1 ⟨rfl, hcu, hb1⟩
  have HCU := Lib.hid hcu
  have HB1 := Lib.hid hb1
  have hs1 := hb1.size
  have hb := hcu.lt
  obtain ⟨b, hbe⟩ : ∃ b, b = w.heap.size := ⟨_, rfl⟩
  have HBE := Lib.hid hbe
  rw [← hbe] at HCU hb ⊢
  clear hcu hb1 hbe
  have hfin : Hid (∀ w9, Drawn b a n c w1 w9 → Below w.heap.size w w9) := Lib.hid (fun w9 h9 => HB1.out.trans (h9.below (by rw [HBE.out]; exact Nat.le_refl _) hs1))
  go_wp2_with fail
  refine (anyE_any b a n c w1 HCU.out).mono ?_
  rintro e w2 ⟨ao, m, co, v, rfl, ho, hm, hv, hd2⟩
  have HV := Lib.hid hv
  have HL2 := Lib.hid (ho.lim.same (alloc_same w2 (.cells #[] 3)))
  have HD2 := Lib.hid (hd2.same (alloc_same w2 (.cells #[] 3)))
  have hs2 := hd2.2.size
  have HT2 : Hid (Own .i64 3 (w2.alloc (.cells #[] 3)) w2.heap.size (some ⟨w2.heap.size, 0, none⟩) 0 0 []) := Lib.hid (Own.empty (Nat.le_refl _))
  have hb2 : b < w2.heap.size := by omega
  clear ho hv hd2
  go_wp2_with fail
  refine (below_any b a n c 4 (by omega) (by omega) _ HD2.out.1).mono ?_
  rintro e w3 ⟨x, hx0, hx1, rfl, hd3⟩
  obtain ⟨q0, rfl⟩ : ∃ q0 : Nat, x = q0 := ⟨x.toNat, by omega⟩
  have HL3 := Lib.hid (HL2.out.only hd3.2 hb)
  have HT3 := Lib.hid (HT2.out.only hd3.2 HT2.out.span (Or.inl hb2))
  have HD3 := Lib.hid (HD2.out.trans hd3)
  have hs3 : w2.heap.size ≤ w3.heap.size := by have := hd3.2.size; simp at this; omega
  clear hd3
  go_wp2_with fail
  go_loopw [6, 7] (fun s i wr => ∃ (r : Nat) (q : Option Addr) (tn td : Nat) (y : List Int), s = .slice q tn td ∧ i = .int .i64 r ∧ tn + r ≤ 3 ∧ (∀ z ∈ y, I64 z) ∧ Own .i64 3 wr w2.heap.size q tn td y ∧ OwnVB w2.heap.size 57 3 wr w1.heap.size ao m co v ∧ w2.heap.size ≤ wr.heap.size ∧ Drawn b a n c w1 wr) (fun _ i _ => (intOf i).toNat)
  case atStart => exact ⟨q0, _, _, _, [], rfl, rfl, by omega, (fun z hz => by cases hz), HT3.out, HL3.out, hs3, HD3.out⟩
  case round =>
    obtain ⟨r, q, tn, td, y, rfl, rfl, hr, hy, ht, hl, hsr, hd⟩ := hrel
    have HT := Lib.hid ht
    have HL := Lib.hid hl
    have HD := Lib.hid hd
    have HY := Lib.hid hy
    clear ht hl hd hy
    by_cases hr0 : 0 < r
    · have hri : (0 : Int) < (r : Int) := by omega
      go_wp2_with fail
      refine (pickNew b a n c [1, 2, 3, 10, 200] 5 (by omega) (by omega) rfl rfl wr HD.out.1).mono ?_
      rintro e w4 ⟨z, hz, rfl, hd4⟩
      have hzi : I64 z := list_i64 (l := [1, 2, 3, 10, 200]) (by decide) hz
      have HT4 := Lib.hid (HT.out.only hd4.2 HT.out.span (Or.inl hb2))
      have HL4 := Lib.hid (HL.out.only hd4.2 hb)
      have HD4 := Lib.hid (HD.out.trans hd4)
      have hsp := HT4.out.span
      have hrow : ∀ rr, Value.ownBlock (.slice q tn td) = some rr → w2.heap.size ≤ rr := fun rr e => by
        cases q with
        | none => simp [Value.ownBlock] at e
        | some ad =>
          have := (hsp ad rfl).1
          simp only [Value.ownBlock, Option.some.injEq] at e
          omega
      have HROW := Lib.hid hrow
      have hs4 : w2.heap.size ≤ (w4.alloc (.cells #[.int .i64 z] 3)).heap.size := by have := hd4.2.size; simp at this ⊢; omega
      clear hd4 hz hsp hrow
      go_wp2_with (at_builtin; refine wpl_app_g _ rfl (.tmp 19) (.tmp 23) 26 rfl .i64 3 i0 (.int .i64 0) 8 Try.underlying26 HI.out.1 HI.out.2.1 HI.out.2.2.1 HI.out.2.2.2 rfl rfl (HT4.out.alloc _) rfl (nums_new _ _ _ _) (by omega) ?c1 ?c2 ?_)
      case c1 => omega
      case c2 => exact hs4
      intro a5 c5 w5 ho5 hg5
      have HT5 := Lib.hid ho5
      have hs5 : w2.heap.size ≤ w5.heap.size := Nat.le_trans hs4 hg5.size
      have HL5 := Lib.hid ((HL4.out.same (alloc_same w4 (.cells #[.int .i64 z] 3))).far hg5 (fun rr e => Or.inr (HROW.out rr e)))
      have HD5 : Hid (Drawn b a n c w1 w5) := Lib.hid ((HD4.out.same (alloc_same w4 (.cells #[.int .i64 z] 3))).row HCU.out hg5 (fun rr e => Nat.le_trans hs2 (HROW.out rr e)))
      have HY5 : Hid (∀ u ∈ y ++ [z], I64 u) := Lib.hid (fun u hu => by
        rcases List.mem_append.1 hu with e | e
        · exact HY.out u e
        · rw [List.mem_singleton.1 e]; exact hzi)
      clear ho5 hg5
      go_wp2_with fail
      go_roundw
      case rel => exact ⟨r - 1, a5, _, c5, _, rfl, by go_num, by omega, HY5.out, HT5.out, HL5.out, hs5, HD5.out⟩
      case measure => simp [intOf]; omega
    · obtain rfl : r = 0 := by omega
      go_wp2_with fail
      go_ret2
      exact ⟨_, _, _, v, _, _, _, y, rfl, HL.out.ownV.lower hs1, hm, HV.out, HT.out.lower (Nat.le_trans hs1 hs2), by omega, HY.out, hfin.out _ HD.out⟩
end Go.Proofs.Ytnjjfagokbbelaa
namespace Go.Proofs.Ytnjjfagokbbelaa
open Go.ChangeShapes Go.WideShapes Go.ChangeAt Go.RowKit
set_option linter.unusedVariables false
set_option linter.unusedSimpArgs false

/-- Numbers written out lie in a block of their own. -/
theorem nums_lit (w : World) (l : List Int) (t : TypeId) (hl : l.length ≤ 1000) : Nums .i64 (w.alloc (.cells (l.map fun z => Value.int .i64 z).toArray t)) (some ⟨w.heap.size, 0, none⟩) l.length l :=
  ⟨rfl, by omega, fun j hj => ⟨_, rfl, by
    have hb : (w.alloc (.cells (l.map fun z => Value.int .i64 z).toArray t)).heap[w.heap.size]? = some (.cells (l.map fun z => Value.int .i64 z).toArray t (0, 0)) := heap_alloc_new w _
    rw [addr_add0, Nat.zero_add, block_cell hb]
    simp [hj]⟩⟩
/-- Extensions written out, each without bytes. -/
theorem own_lit (w : World) {B : Nat} (hB : B ≤ w.heap.size) (zs : List Int) (hl : zs.length ≤ 1000) :
    OwnV 57 3 (w.alloc (.cells (flatOf Vh.enc (zs.map fun z => ⟨z, none, 0, 0⟩)).toArray 57)) B (some ⟨w.heap.size, 0, none⟩) zs.length zs.length (zs.map fun z => ⟨z, []⟩) := by
  have hlen : (flatOf Vh.enc (zs.map fun z => (⟨z, none, 0, 0⟩ : Vh))).length = zs.length * 2 := by rw [flatOf_len Vh.enc_len, List.length_map]
  refine ⟨zs.map fun z => ⟨z, none, 0, 0⟩, ⟨by simp, hlen, .inr ⟨w.heap.size, zs.length, _, rfl, hB, heap_alloc_new w _, Nat.le_refl _, by unfold maxLen; omega, by rw [List.size_toArray, hlen], List.take_of_length_le (by simp; omega)⟩⟩, by simp, ?_, ?_⟩
  · intro j h x h1 h2
    rw [List.getElem?_map] at h1 h2
    rcases hz : zs[j]? with _ | z
    · rw [hz] at h1; cases h1
    · rw [hz] at h1 h2
      cases h1
      cases h2
      exact ⟨rfl, Own.nil, fun ad bd e => by cases e⟩
  · intro i j h k _ h1 h2 ad bd e
    rw [List.getElem?_map] at h1
    rcases hz : zs[i]? with _ | z
    · rw [hz] at h1; cases h1
    · rw [hz] at h1
      cases h1
      cases e
def DrawnG (w : World) (e : Ending) (w' : World) : Prop :=
  ∃ (ao : Option Addr) (m co : Nat) (v : List Vl) (s : Int), e = .returned (.tuple #[.slice ao m co, .int .i64 s]) ∧ OwnV 57 3 w' w.heap.size ao m co v ∧ m ≤ 6 ∧ Vok 5 v ∧ 0 ≤ s ∧ s < 100 ∧ Below w.heap.size w w'
set_option maxHeartbeats 2000000 in
set_option maxRecDepth 100000 in
theorem drawAddGrease_any (a : Option Addr) (n c : Nat) (w : World) (hC : Code w a n) : Calls Try.prog 24 #[.slice a n c] w (DrawnG w) := by
  have HC := Lib.hid hC
  clear hC
  go_enter Try.func24, Try.ntmps24
  go_wp2_with fail
  refine (new_any a n c HC.out.2 w HC.out.1).mono ?_
  rintro e w1 ⟨rfl, hcu, hb1⟩
  have HCU := Lib.hid hcu
  have HB1 := Lib.hid hb1
  have hs1 := hb1.size
  have hlt := hcu.lt
  clear hcu hb1
  go_wp2_with fail
  refine (anyE_any w.heap.size a n c w1 HCU.out).mono ?_
  rintro e w2 ⟨ao, m, co, v, rfl, ho, hm, hv, hd2⟩
  have HO2 := Lib.hid ho
  have HV := Lib.hid hv
  have HD2 := Lib.hid hd2
  clear ho hv hd2
  go_wp2_with fail
  refine (once_any w.heap.size a n c 8 (by omega) (by omega) w2 HD2.out.1).mono ?_
  rintro e w3 ⟨t, rfl, hd3⟩
  have HO3 := Lib.hid (HO2.out.only hd3.2 hlt)
  have HD3 := Lib.hid (HD2.out.trans hd3)
  have hs3 := HD3.out.2.size
  clear hd3
  cases t with
  | true =>
    have HO4 : Hid (OwnV 57 3 (w3.alloc (.cells #[.int .i64 1, .slice none 0 0, .int .i64 2, .slice none 0 0, .int .i64 3, .slice none 0 0, .int .i64 4, .slice none 0 0, .int .i64 5, .slice none 0 0, .int .i64 6, .slice none 0 0] 57)) w1.heap.size (some ⟨w3.heap.size, 0, none⟩) 6 6 [⟨1, []⟩, ⟨2, []⟩, ⟨3, []⟩, ⟨4, []⟩, ⟨5, []⟩, ⟨6, []⟩]) := Lib.hid (own_lit w3 hs3 [1, 2, 3, 4, 5, 6] (by simp))
    have HD4 := Lib.hid (HD3.out.same (alloc_same w3 (.cells #[.int .i64 1, .slice none 0 0, .int .i64 2, .slice none 0 0, .int .i64 3, .slice none 0 0, .int .i64 4, .slice none 0 0, .int .i64 5, .slice none 0 0, .int .i64 6, .slice none 0 0] 57)))
    go_wp2_with fail
    refine (below_any w.heap.size a n c 100 (by omega) (by omega) _ HD4.out.1).mono ?_
    rintro e w5 ⟨x, hx0, hx1, rfl, hd5⟩
    have HO5 := Lib.hid ((HO4.out.only hd5.2 hlt).lower hs1)
    have HB5 := Lib.hid (HB1.out.trans ((HD4.out.trans hd5).below (Nat.le_refl _) hs1))
    clear hd5
    go_wp2_with fail
    go_ret2
    refine ⟨_, _, _, _, x, rfl, HO5.out, by omega, ?_, hx0, hx1, HB5.out⟩
    intro y hy
    simp only [List.mem_cons, List.not_mem_nil, or_false] at hy
    rcases hy with rfl | rfl | rfl | rfl | rfl | rfl <;> exact ⟨⟨⟨by dsimp only; omega, by dsimp only; omega⟩, fun z hz => by cases hz⟩, by simp⟩
  | false =>
    go_wp2_with fail
    refine (below_any w.heap.size a n c 100 (by omega) (by omega) _ HD3.out.1).mono ?_
    rintro e w5 ⟨x, hx0, hx1, rfl, hd5⟩
    have HO5 := Lib.hid ((HO3.out.only hd5.2 hlt).lower hs1)
    have HB5 := Lib.hid (HB1.out.trans ((HD3.out.trans hd5).below (Nat.le_refl _) hs1))
    clear hd5
    go_wp2_with fail
    go_ret2
    exact ⟨_, _, _, _, x, rfl, HO5.out, hm, HV.out, hx0, hx1, HB5.out⟩
set_option maxRecDepth 100000 in
theorem drawStripGrease_any (a : Option Addr) (n c : Nat) (w : World) (hC : Code w a n) :
    Calls Try.prog 30 #[.slice a n c] w (DrawnX w) := by
  have K := Lib.hid (drawAreExts_any a n c w hC)
  clear hC
  unfold DrawnX at K ⊢
  go_enter Try.func30, Try.ntmps30
  go_wp2_with fail
  refine K.out.mono ?_
  rintro e w2 ⟨ao, m, co, v, rfl, ho, hm, hv, hb⟩
  have HO := Lib.hid ho
  have HB := Lib.hid hb
  have HV := Lib.hid hv
  clear ho hv hb
  go_wp2_with fail
  go_ret
  exact ⟨_, _, _, v, rfl, HO.out, hm, HV.out, HB.out⟩
end Go.Proofs.Ytnjjfagokbbelaa
namespace Go.Proofs.Ytnjjfagokbbelaa
open Go.ChangeShapes Go.WideShapes Go.ChangeAt Go.RowKit
set_option linter.unusedVariables false
set_option linter.unusedSimpArgs false

set_option maxRecDepth 100000 in
theorem contains_any {p : Option Addr} {m c : Nat} {y : List Int} (t : Int) {w : World} (h : Nums .i64 w p m y) :
    Calls Try.prog 63 #[.slice p m c, .int .i64 t] w fun e w' => e = .returned (.bool (decide (t ∈ y))) ∧ w = w' := by
  have H := Lib.hid h
  have hl := h.len
  have hfit := h.fits
  clear h
  go_enter Try.func63, Try.ntmps63
  go_wp2_with fail
  go_loop [5] (fun i => ∃ j : Nat, j ≤ m ∧ i = .int .i64 j ∧ ¬ t ∈ y.take j) (fun i => m - (intOf i).toNat)
  case atStart => exact ⟨0, Nat.zero_le _, rfl, by simp⟩
  case round =>
    obtain ⟨j, hj, rfl, hno⟩ := hrel
    have HN := Lib.hid hno
    clear hno
    by_cases hlt : j < m
    · obtain ⟨ad, z, rfl, hz, hc⟩ := H.out.at_ hlt
      by_cases hk : z = t
      · have HE : Hid (decide (t ∈ y) = true) := Lib.hid (decide_eq_true (by rw [← hk]; exact List.mem_of_getElem? hz))
        have hb : (z == t) = true := by simpa using hk
        clear hz hk
        go_wp2_with fail
        go_ret
        exact ⟨by rw [HE.out]; rfl, rfl⟩
      · have hb : (z == t) = false := by simpa using hk
        have HS : Hid (¬ t ∈ y.take (j + 1)) := Lib.hid (by
          rw [List.take_add_one, hz]
          intro hm
          rcases List.mem_append.1 hm with q | q
          · exact HN.out q
          · have : t = z := by simpa using q
            exact hk this.symm)
        clear hz hk
        go_wp2_with fail
        go_round
        case rel => exact ⟨j + 1, by omega, by go_num, HS.out⟩
        case measure => simp [intOf]; omega
    · obtain rfl : j = m := by omega
      have h1 := HN.out
      rw [List.take_of_length_le (by omega)] at h1
      have HE := Lib.hid (decide_eq_false h1)
      clear h1
      go_wp2_with fail
      go_ret
      exact ⟨by rw [HE.out]; rfl, rfl⟩
set_option maxRecDepth 100000 in
theorem within_yes {p q : Option Addr} {m c n d : Nat} {y z : List Int} {w : World} (h : Nums .i64 w p m y) (h' : Nums .i64 w q n z) (hs : ∀ x ∈ y, x ∈ z) :
    Calls Try.prog 21 #[.slice p m c, .slice q n d] w (Told (.bool true) w) := by
  have H := Lib.hid h
  have hfit := h.fits
  have K := Lib.hid (fun t => contains_any (c := d) t h')
  have HS := Lib.hid hs
  clear h h' hs
  go_enter Try.func21, Try.ntmps21
  go_wp2_with fail
  go_loop [5] (fun i => ∃ j : Nat, j ≤ m ∧ i = .int .i64 j) (fun i => m - (intOf i).toNat)
  case atStart => exact ⟨0, Nat.zero_le _, rfl⟩
  case round =>
    obtain ⟨j, hj, rfl⟩ := hrel
    by_cases hlt : j < m
    · obtain ⟨ad, x, rfl, hx, hc⟩ := H.out.at_ hlt
      have KC := K.out x
      rw [decide_eq_true (HS.out x (List.mem_of_getElem? hx))] at KC
      have KC := Lib.hid KC
      clear hx
      go_wp2_with (go_at_call 63; refine KC.out.mono ?_; rintro e w' ⟨rfl, rfl⟩)
      go_round
      case rel => exact ⟨j + 1, by omega, by go_num⟩
      case measure => simp [intOf]; omega
    · go_wp2_with fail
      go_ret
      exact ⟨rfl, Below.refl _ _⟩
def leftX (y ts : List Int) : List Int := y.filter fun x => !decide (x ∈ ts)
theorem left_yes {y ts : List Int} {j : Nat} {x : Int} (hx : y[j]? = some x) (h : x ∈ ts) : leftX (y.take (j + 1)) ts = leftX (y.take j) ts := by
  rw [List.take_add_one, hx]
  simp [leftX, h]
theorem left_no {y ts : List Int} {j : Nat} {x : Int} (hx : y[j]? = some x) (h : ¬ x ∈ ts) : leftX (y.take (j + 1)) ts = leftX (y.take j) ts ++ [x] := by
  rw [List.take_add_one, hx]
  simp [leftX, h]
theorem left_few (y ts : List Int) : (leftX y ts).length ≤ y.length := List.length_filter_le _ _
set_option maxHeartbeats 2000000 in
set_option maxRecDepth 100000 in
theorem left_any {p q : Option Addr} {m c n d : Nat} {y ts : List Int} {w : World} (h : Nums .i64 w p m y) (h' : Nums .i64 w q n ts) (hm : m ≤ 1048576) :
    Calls Try.prog 23 #[.slice p m c, .slice q n d] w (Made .i64 3 w.heap.size (leftX y ts) w) := by
  have H := Lib.hid h
  have HT := Lib.hid h'
  have hln := Lib.hid h.len
  clear h h'
  obtain ⟨i0, hi, hz0, hz1, hz2⟩ := info_parts infoIntS
  have HI := Lib.hid (And.intro hi (And.intro hz0 (And.intro hz1 hz2)))
  clear hi hz0 hz1 hz2
  have HO : Hid (Own .i64 3 (w.alloc (.cells #[] 3)) w.heap.size (some ⟨w.heap.size, 0, none⟩) 0 0 (leftX (y.take 0) ts)) := Lib.hid (by rw [List.take_zero]; exact Own.empty (Nat.le_refl _))
  go_enter Try.func23, Try.ntmps23
  go_wp2_with fail
  go_loopw [5, 6] (fun v i wr => ∃ (j : Nat) (a : Option Addr) (r e : Nat), j ≤ m ∧ i = .int .i64 j ∧ v = .slice a r e ∧ Own .i64 3 wr w.heap.size a r e (leftX (y.take j) ts) ∧ Below w.heap.size w wr) (fun _ i _ => m - (intOf i).toNat)
  case atStart => exact ⟨0, _, _, _, Nat.zero_le _, rfl, rfl, HO.out, alloc_same _ _⟩
  case round =>
    obtain ⟨j, a, r, e, hj, rfl, rfl, hown, hb⟩ := hrel
    have HO2 := Lib.hid hown
    have HB2 := Lib.hid hb
    have hsz := hb.size
    have hr : r ≤ m := by
      have h1 := hown.len
      have h2 := left_few (y.take j) ts
      rw [List.length_take] at h2
      omega
    clear hown hb
    by_cases hlt : j < m
    · obtain ⟨ad, x, rfl, hx, hd⟩ := H.out.at_ hlt
      have hc := cell_stay hd HB2.out
      have KC := contains_any (c := d) x (HT.out.same HB2.out)
      by_cases hk : x ∈ ts
      · rw [decide_eq_true hk] at KC
        have KC := Lib.hid KC
        have HX := Lib.hid (left_yes hx hk)
        clear hx hk hd
        go_wp2_with (go_at_call 63; refine KC.out.mono ?_; rintro e9 w' ⟨rfl, rfl⟩)
        go_roundw
        case rel => exact ⟨j + 1, a, r, e, by omega, by go_num, rfl, by rw [HX.out]; exact HO2.out, HB2.out⟩
        case measure => simp [intOf]; omega
      · rw [decide_eq_false hk] at KC
        have KC := Lib.hid KC
        have HX := Lib.hid (left_no hx hk)
        clear hx hk hd
        go_wp2_with (first | (go_at_call 63; refine KC.out.mono ?_; rintro e9 w' ⟨rfl, rfl⟩) | (at_builtin; refine wpl_app _ rfl (.tmp 21) (.tmp 26) 26 rfl .i64 3 i0 (.int .i64 0) 8 Try.underlying26 HI.out.1 HI.out.2.1 HI.out.2.2.1 HI.out.2.2.2 rfl rfl (HO2.out.alloc _) rfl (nums_new _ _ _ _) (by omega) ?c1 ?c2 ?_))
        case c1 => omega
        case c2 => simp; omega
        intro a3 c3 w3 ho3 hb3
        have HO3 := Lib.hid ho3
        have HB3 : Hid (Below w.heap.size w w3) := Lib.hid (HB2.out.trans (((alloc_same _ _).mono hsz).trans hb3))
        clear ho3 hb3
        go_wp2_with fail
        go_roundw
        case rel => exact ⟨j + 1, a3, _, c3, by omega, by go_num, rfl, by rw [HX.out]; exact HO3.out, HB3.out⟩
        case measure => simp [intOf]; omega
    · obtain rfl : j = m := by omega
      go_wp2_with fail
      go_ret
      have h1 := HO2.out
      rw [List.take_of_length_le (by rw [hln.out]; omega)] at h1
      exact ⟨_, _, _, rfl, h1, HB2.out⟩
end Go.Proofs.Ytnjjfagokbbelaa
