/- Whether a machine is valid: IsMachine by the program. -/
import Derived.Test.YtckmgbobkffabaaIm
namespace Go.Proofs.Ytckmgbobkffabaa
open Go.ChangeShapes Go.WideShapes Go.ChangeAt Go.RowKit
set_option linter.unusedVariables false
set_option linter.unusedSimpArgs false

section
variable {P : Program}
/-- 'len(m)' at a step of a region that draws its order. -/
theorem step_len {H : Type} {w : World} {ops : Array Oper} {o : Oper} {a : Act} {K' : Act → World → Prop} {Q : Exit → Act → World → Prop} {E : Prop}
    (hg : o.guard = none) (m : Operand) (t : TypeId) (hop : o.op = Op.call { callee := Callee.builtin Builtin.len, args := #[m], argTypes := #[t] })
    (k e : TypeId) (ht : P.underlying t = some (.map k e)) (R : Value → Option (DataW H × List MemPlace)) (b n : Nat) (D : DataW H) (hm : a.eval m = .map (some b)) (hown : w.ownsMap P k R b n D)
    (hK : K' (a.put o.dst (.int .i64 (Maps.size D))) w) :
    if Region.wanted o (yielded ops a.tmps) = true then Oper.wp P o a w K' Q else E := by
  have hw : Region.wanted o (yielded ops a.tmps) = true := by simp [Region.wanted, hg]
  rw [if_pos hw]
  unfold Oper.wp
  simp [execOp, hop, resolve, invoke, builtin, hm, hown.len ht o.type, Result.andThen]
  exact hK
end
/-- Whether a map has as many entries as there are moves. -/
theorem size_distinct {l : List Mv} (h : Keyed2 l) : ((Maps.size (mr l.reverse) : Int) == (l.length : Int)) = decide (Distinct l) := by
  have h1 := mr_size l.reverse (fun x hx => h x (List.mem_reverse.1 hx))
  rw [List.length_reverse, List.pairwise_reverse] at h1
  have h2 : (List.Pairwise (fun a b => sameKey b a = false) l) ↔ Distinct l := by
    unfold Distinct
    have : (fun a b : Mv => sameKey b a = false) = fun a b => sameKey a b = false := by
      funext a b
      unfold sameKey
      have e : hitM b.frm b.send b.msg a = hitM a.frm a.send a.msg b := by
        rw [Bool.eq_iff_iff, hitM_iff, hitM_iff]
        exact ⟨fun ⟨p, q, r⟩ => ⟨p.symm, q.symm, r.symm⟩, fun ⟨p, q, r⟩ => ⟨p.symm, q.symm, r.symm⟩⟩
      rw [e]
    rw [this]
  rw [h2] at h1
  by_cases hd : Distinct l
  · rw [decide_eq_true hd, h1.2 hd]; simp
  · rw [decide_eq_false hd]
    have : ¬ Maps.size (mr l.reverse) = l.length := fun e => hd (h1.1 e)
    simp; omega
theorem take_all {p : Mv → Bool} {l : List Mv} {j : Nat} {x : Mv} (hx : l[j]? = some x) (h : (l.take j).all p = true) (hp : p x = true) : (l.take (j + 1)).all p = true := by
  rw [List.take_add_one, hx, List.all_append, h]
  simp [hp]

set_option maxHeartbeats 4000000 in
set_option maxRecDepth 100000 in
theorem isMachine_any {w : World} {v : Value} {x : Mac} (h : MacW w v x) : Calls Try.prog 18 #[v] w (Told (.bool (isMac x)) w) := by
  obtain ⟨a, n, c, q, m, d, rfl, h1, h2, h3, h4⟩ := h
  have e1 := h1.len
  have e2 := h2.len
  have HB : Hid (Below w.heap.size w (w.alloc (.cells #[.int .i64 x.st, .slice a n c, .slice q m d] 27))) := Lib.hid (alloc_same w _)
  have HX : Hid ((w.alloc (.cells #[.int .i64 x.st, .slice a n c, .slice q m d] 27)).heap[w.heap.size]? = some (.cells #[.int .i64 x.st, .slice a n c, .slice q m d] 27 (0, 0))) := Lib.hid (heap_alloc_new w (.cells #[.int .i64 x.st, .slice a n c, .slice q m d] 27 (0, 0)))
  have hsz : (w.alloc (.cells #[.int .i64 x.st, .slice a n c, .slice q m d] 27)).heap.size = w.heap.size + 1 := by simp
  have H2 := Lib.hid (h2.same HB.out)
  have HE := Lib.hid (And.intro e1 e2)
  have hn64 : (n : Int) ≤ 9223372036854775807 := by omega
  have hm64 : (m : Int) ≤ 9223372036854775807 := by omega
  clear h1 h2 h3 h4 e1 e2
  have HI := Lib.hid (inRange_told x.st 1 6)
  cases q0 : inB x.st 1 6 with
  | false =>
    have HR : Hid (isMac x = false) := Lib.hid (by simp [isMac, q0])
    unfold inB at q0
    rw [q0] at HI
    clear q0
    go_enter Try.func18, Try.ntmps18
    go_wp2_with fail
    generalize (w.alloc (.cells #[.int .i64 x.st, .slice a n c, .slice q m d] 27)) = W0 at *
    refine (HI.out _).mono ?_
    rintro e w1 ⟨rfl, hb⟩
    have HD1 := Lib.hid hb
    have HB1 := Lib.hid (HB.out.trans (hb.mono HB.out.size))
    obtain ⟨b0, b1, b2, _, _, _⟩ := three_cells ((hb.block w.heap.size (by omega)).trans HX.out)
    clear hb HI
    go_wp2_with fail
    go_ret
    exact ⟨by rw [HR.out]; try rfl, HB1.out⟩
  | true =>
    have hst : 1 ≤ x.st ∧ x.st ≤ 6 := by simpa [inB] using q0
    have HQ0 := Lib.hid q0
    unfold inB at q0
    rw [q0] at HI
    clear q0
    by_cases q1 : (n : Int) = x.st
    · have f1 : ((n : Int) != x.st) = false := by simpa using q1
      by_cases q2 : m ≤ 12
      · have f2 : decide ((m : Int) > 12) = false := by simp; omega
        have f3 : decide ((12 : Int) < (m : Int)) = false := by simp; omega
        have HQ : Hid (isMac x = (x.moves.all (goodM x) && decide (Distinct x.moves))) := Lib.hid (by simp [isMac, HQ0.out, HE.out.1, HE.out.2, q1, q2])
        clear q1
        go_enter Try.func18, Try.ntmps18
        go_wp2_with fail
        generalize (w.alloc (.cells #[.int .i64 x.st, .slice a n c, .slice q m d] 27)) = W0 at *
        refine (HI.out _).mono ?_
        rintro e w1 ⟨rfl, hb⟩
        have HD1 := Lib.hid hb
        have HB1 := Lib.hid (HB.out.trans (hb.mono HB.out.size))
        obtain ⟨b0, b1, b2, _, _, _⟩ := three_cells ((hb.block w.heap.size (by omega)).trans HX.out)
        clear hb HI
        have HX2 := Lib.hid (And.intro b0 (And.intro b1 b2))
        go_wp2_with fail
        clear f1 f2 f3 b0 b1 b2
        go_loopw [26] (fun i wr => ∃ j : Nat, j ≤ m ∧ i = .int .i64 j ∧ (x.moves.take j).all (goodM x) = true ∧ Below W0.heap.size W0 wr) (fun i _ => m - (intOf i).toNat)
        case atStart => exact ⟨0, Nat.zero_le _, rfl, by simp, HD1.out⟩
        case round =>
          obtain ⟨j, hj, rfl, hall, hb⟩ := hrel
          have HA := Lib.hid hall
          have HB9 := Lib.hid hb
          have hX1 := (hb.block w.heap.size (by omega)).trans HX.out
          obtain ⟨b0, b1, b2, _, _, _⟩ := three_cells hX1
          clear hall hb hX1
          by_cases hlt : j < m
          · obtain ⟨y1, o1, z, rfl, hx, hc0, hc1, hc2, hc3⟩ := mvs_at (H2.out.same HB9.out) hlt
            have HXJ := Lib.hid hx
            have HM := Lib.hid (alloc_same wr (.cells #[.int .i64 z.frm, .bool z.send, .int .i64 z.msg, .int .i64 z.to] 63))
            have C := Lib.hid (four_at (heap_alloc_new wr (.cells #[.int .i64 z.frm, .bool z.send, .int .i64 z.msg, .int .i64 z.to] 63 (0, 0))))
            have a0 := cell_stay b0 HM.out
            have a1 := cell_stay b1 HM.out
            have a2 := cell_stay b2 HM.out
            have HBM : Hid (Below W0.heap.size W0 (wr.alloc (.cells #[.int .i64 z.frm, .bool z.send, .int .i64 z.msg, .int .i64 z.to] 63))) := Lib.hid (HB9.out.trans (HM.out.mono HB9.out.size))
            have HW := Lib.hid (isMoveWithin_any z x.st hst.1 hst.2 (wr.alloc (.cells #[.int .i64 z.frm, .bool z.send, .int .i64 z.msg, .int .i64 z.to] 63)))
            have HT := fun w' => hasOtherTurn_any z (a := some ⟨y1, o1, none⟩) (n := m) (c := d) (l := x.moves) (w := w')
            unfold Mv.val at HW HT
            have HT2 := Lib.hid HT
            clear hx HT
            cases q3 : okM x.st z with
            | false =>
              have HR : Hid (isMac x = false) := Lib.hid (by
                rw [HQ.out]
                have : x.moves.all (goodM x) = false := by
                  rw [List.all_eq_false]
                  exact ⟨z, List.mem_of_getElem? HXJ.out, by simp [goodM, q3]⟩
                rw [this]; rfl)
              rw [q3] at HW
              clear q3
              go_wp2_with fail
              clear hc0 hc1 hc2 hc3
              generalize (wr.alloc (.cells #[.int .i64 z.frm, .bool z.send, .int .i64 z.msg, .int .i64 z.to] 63)) = W2 at *
              refine HW.out.mono ?_
              rintro e w3 ⟨rfl, hb⟩
              have HB3 := Lib.hid (HBM.out.trans (hb.mono HBM.out.size))
              clear hb
              go_wp2_with fail
              go_ret
              exact ⟨by rw [HR.out]; try rfl, HB.out.trans (HB3.out.mono HB.out.size)⟩
            | true =>
              rw [q3] at HW
              cases q4 : hasOther x.moves z with
              | true =>
                have HR : Hid (isMac x = false) := Lib.hid (by
                  rw [HQ.out]
                  have : x.moves.all (goodM x) = false := by
                    rw [List.all_eq_false]
                    exact ⟨z, List.mem_of_getElem? HXJ.out, by simp [goodM, q4]⟩
                  rw [this]; rfl)
                clear q3
                go_wp2_with fail
                clear hc0 hc1 hc2 hc3
                generalize (wr.alloc (.cells #[.int .i64 z.frm, .bool z.send, .int .i64 z.msg, .int .i64 z.to] 63)) = W2 at *
                refine HW.out.mono ?_
                rintro e w3 ⟨rfl, hb⟩
                have HB3 := Lib.hid (HBM.out.trans (hb.mono HBM.out.size))
                have c0 := cell_stay C.out.1 hb
                have c1 := cell_stay C.out.2.1 hb
                have c2 := cell_stay C.out.2.2.1 hb
                have c3 := cell_stay C.out.2.2.2 hb
                have k2 := cell_stay a2 hb
                have HT9 := Lib.hid (HT2.out w3 (H2.out.same HB3.out))
                clear hb
                go_wp2_with fail
                clear c0 c1 c2 c3 k2
                rw [q4] at HT9
                clear q4
                refine HT9.out.mono ?_
                rintro e w4 ⟨rfl, hb⟩
                have HB4 := Lib.hid (HB3.out.trans (hb.mono HB3.out.size))
                clear hb
                go_wp2_with fail
                go_ret
                exact ⟨by rw [HR.out]; try rfl, HB.out.trans (HB4.out.mono HB.out.size)⟩
              | false =>
                have HS := Lib.hid (take_all HXJ.out HA.out (by simp [goodM, q3, q4]))
                clear q3
                go_wp2_with fail
                clear hc0 hc1 hc2 hc3
                generalize (wr.alloc (.cells #[.int .i64 z.frm, .bool z.send, .int .i64 z.msg, .int .i64 z.to] 63)) = W2 at *
                refine HW.out.mono ?_
                rintro e w3 ⟨rfl, hb⟩
                have HB3 := Lib.hid (HBM.out.trans (hb.mono HBM.out.size))
                have c0 := cell_stay C.out.1 hb
                have c1 := cell_stay C.out.2.1 hb
                have c2 := cell_stay C.out.2.2.1 hb
                have c3 := cell_stay C.out.2.2.2 hb
                have k2 := cell_stay a2 hb
                have HT9 := Lib.hid (HT2.out w3 (H2.out.same HB3.out))
                clear hb
                go_wp2_with fail
                clear c0 c1 c2 c3 k2
                rw [q4] at HT9
                clear q4
                refine HT9.out.mono ?_
                rintro e w4 ⟨rfl, hb⟩
                have HB4 := Lib.hid (HB3.out.trans (hb.mono HB3.out.size))
                clear hb
                go_wp2_with fail
                go_roundw
                case rel => exact ⟨j + 1, by omega, by go_num, HS.out, HB4.out⟩
                case measure => simp [intOf]; omega
          · obtain rfl : j = m := by omega
            have hall : x.moves.all (goodM x) = true := by
              have h1 := HA.out
              rwa [List.take_of_length_le (by rw [HE.out.2]; omega)] at h1
            have HK : Hid (Keyed2 x.moves) := Lib.hid (fun z hz => okM_wf hst.2 (by
              have := List.all_eq_true.1 hall z hz
              simp only [goodM, Bool.and_eq_true] at this
              exact this.1))
            have HR : Hid (isMac x = ((Maps.size (mr x.moves.reverse) : Int) == (j : Int))) := Lib.hid (by rw [HQ.out, hall, Bool.true_and, ← size_distinct HK.out, HE.out.2])
            have C := Lib.hid b2
            have HMB := Lib.hid (movesByKey_any (c := d) (H2.out.same (HB9.out.drew)) HK.out (by omega))
            clear hall b0 b1 b2
            go_wp2_with fail
            refine wp_region_held_drew (S := fun w9 => w9.cell? ⟨w.heap.size, 2, none⟩ = some (.slice q j d)) (by kernel_rfl) (cell_stay C.out (Below.refl _ wr).drew) (fun hHeld => ?_)
            refine wpAnyH_take (i := 0) (v := ?v1) (by simp only [List.getElem?_toArray, List.getElem?_cons_succ, List.getElem?_cons_zero]; rfl) (by kernel_rfl) (by kernel_rfl) (by kernel_rfl) (by exact fun _ _ _ h => h) (Or.inl ⟨by rfl, fun w9 hS9 => ?hy1⟩) hHeld ?rest1
            case hy1 =>
              dsimp only at hS9
              skip
              go_simp
              try with_reducible rfl
            try simp only [Act.put, List.setIfInBounds_toArray, List.set_cons_zero, List.set_cons_succ]
            refine wpAnyH_take (i := 1) (v := ?v2) (by simp only [List.getElem?_toArray, List.getElem?_cons_succ, List.getElem?_cons_zero]; rfl) (by kernel_rfl) (by kernel_rfl) (by kernel_rfl) (by exact fun _ _ _ h => h) (Or.inl ⟨by rfl, fun w9 hS9 => ?hy2⟩) hHeld ?rest2
            case hy2 =>
              dsimp only at hS9
              skip
              go_simp
              try with_reducible rfl
            try simp only [Act.put, List.setIfInBounds_toArray, List.set_cons_zero, List.set_cons_succ]
            refine wpAnyH_take (i := 4) (v := ?v3) (by simp only [List.getElem?_toArray, List.getElem?_cons_succ, List.getElem?_cons_zero]; rfl) (by kernel_rfl) (by kernel_rfl) (by kernel_rfl) (by exact fun _ _ _ h => h) (Or.inl ⟨by rfl, fun w9 hS9 => ?hy3⟩) hHeld ?rest3
            case hy3 =>
              dsimp only at hS9
              skip
              go_simp
              try with_reducible rfl
            try simp only [Act.put, List.setIfInBounds_toArray, List.set_cons_zero, List.set_cons_succ]
            refine wpAnyH_take (i := 5) (v := ?v4) (by simp only [List.getElem?_toArray, List.getElem?_cons_succ, List.getElem?_cons_zero]; rfl) (by kernel_rfl) (by kernel_rfl) (by kernel_rfl) (by exact fun _ _ _ h => h) (Or.inl ⟨by rfl, fun w9 hS9 => ?hy4⟩) hHeld ?rest4
            case hy4 =>
              dsimp only at hS9
              skip
              go_simp
              try with_reducible rfl
            try simp only [Act.put, List.setIfInBounds_toArray, List.set_cons_zero, List.set_cons_succ]
            refine wpAnyH_take (i := 6) (v := ?v5) (by simp only [List.getElem?_toArray, List.getElem?_cons_succ, List.getElem?_cons_zero]; rfl) (by kernel_rfl) (by kernel_rfl) (by kernel_rfl) (by exact fun _ _ _ h => h) (Or.inl ⟨by rfl, fun w9 hS9 => ?hy5⟩) hHeld ?rest5
            case hy5 =>
              dsimp only at hS9
              skip
              go_simp
              try with_reducible rfl
            try simp only [Act.put, List.setIfInBounds_toArray, List.set_cons_zero, List.set_cons_succ]
            refine wpAnyH_ready (rs := [2]) (by kernel_rfl) (by simp) (AllReadyH.cons (by simp only [List.getElem?_toArray, List.getElem?_cons_succ, List.getElem?_cons_zero]; rfl) (fun K hK => ?_) AllReadyH.nil)
            go_simp
            refine HMB.out.mono ?_
            rintro e w5 ⟨rfl, hm, hb⟩
            have HM5 := Lib.hid hm
            have HB5 : Hid (Below wr.heap.size wr w5) := Lib.hid ((Below.refl _ wr).drew.trans hb)
            clear hm hb
            go_wp2_with fail
            refine hK.out _ _ (cell_stay C.out HB5.out) (fun hHeld => ?_)
            clear hK K
            try simp only [Act.put, List.setIfInBounds_toArray, List.set_cons_zero, List.set_cons_succ]
            refine wpAnyH_ready (rs := [3]) (by kernel_rfl) (by simp) (AllReadyH.cons (by simp only [List.getElem?_toArray, List.getElem?_cons_succ, List.getElem?_cons_zero]; rfl) (fun K hK => ?_) AllReadyH.nil)
            refine step_len (by rfl) (.tmp 44) 66 (by rfl) 103 63 Try.underlying66 heldR _ _ _ (by rfl) HM5.out ?_
            refine hK.out _ _ (cell_stay C.out HB5.out) (fun hHeld => ?_)
            clear hK K
            try simp only [Act.put, List.setIfInBounds_toArray, List.set_cons_zero, List.set_cons_succ]
            refine wpAnyH_take (i := 7) (v := ?v6) (by simp only [List.getElem?_toArray, List.getElem?_cons_succ, List.getElem?_cons_zero]; rfl) (by kernel_rfl) (by kernel_rfl) (by kernel_rfl) (by exact fun _ _ _ h => h) (Or.inl ⟨by rfl, fun w9 hS9 => ?hy6⟩) hHeld ?rest6
            case hy6 =>
              dsimp only at hS9
              skip
              go_simp
              try with_reducible rfl
            try simp only [Act.put, List.setIfInBounds_toArray, List.set_cons_zero, List.set_cons_succ]
            refine wpAnyH_take (i := 8) (v := ?v7) (by simp only [List.getElem?_toArray, List.getElem?_cons_succ, List.getElem?_cons_zero]; rfl) (by kernel_rfl) (by kernel_rfl) (by kernel_rfl) (by exact fun _ _ _ h => h) (Or.inl ⟨by rfl, fun w9 hS9 => ?hy7⟩) hHeld ?rest7
            case hy7 =>
              dsimp only at hS9
              skip
              go_simp
              try with_reducible rfl
            try simp only [Act.put, List.setIfInBounds_toArray, List.set_cons_zero, List.set_cons_succ]
            refine wpAnyH_done (by kernel_rfl) ?_ _
            go_wp2_with fail
            go_ret
            exact ⟨by rw [HR.out]; try rfl, HB.out.trans ((HB9.out.trans (HB5.out.mono HB9.out.size)).mono HB.out.size)⟩
      · have f1 : decide ((m : Int) > 12) = true := by simp; omega
        have f2 : decide ((12 : Int) < (m : Int)) = true := by simp; omega
        have f0 : ((n : Int) != x.st) = false := by simpa using q1
        have HR : Hid (isMac x = false) := Lib.hid (by
          have : decide (x.moves.length ≤ 12) = false := by rw [HE.out.2]; simpa using q2
          simp [isMac, this])
        clear q1 q2
        go_enter Try.func18, Try.ntmps18
        go_wp2_with fail
        generalize (w.alloc (.cells #[.int .i64 x.st, .slice a n c, .slice q m d] 27)) = W0 at *
        refine (HI.out _).mono ?_
        rintro e w1 ⟨rfl, hb⟩
        have HD1 := Lib.hid hb
        have HB1 := Lib.hid (HB.out.trans (hb.mono HB.out.size))
        obtain ⟨b0, b1, b2, _, _, _⟩ := three_cells ((hb.block w.heap.size (by omega)).trans HX.out)
        clear hb HI
        go_wp2_with fail
        go_ret
        exact ⟨by rw [HR.out]; try rfl, HB1.out⟩
    · have f0 : ((n : Int) != x.st) = true := by simpa using q1
      have HR : Hid (isMac x = false) := Lib.hid (by
        have : decide ((x.ends.length : Int) = x.st) = false := by rw [HE.out.1]; simpa using q1
        simp [isMac, this])
      clear q1
      go_enter Try.func18, Try.ntmps18
      go_wp2_with fail
      generalize (w.alloc (.cells #[.int .i64 x.st, .slice a n c, .slice q m d] 27)) = W0 at *
      refine (HI.out _).mono ?_
      rintro e w1 ⟨rfl, hb⟩
      have HD1 := Lib.hid hb
      have HB1 := Lib.hid (HB.out.trans (hb.mono HB.out.size))
      obtain ⟨b0, b1, b2, _, _, _⟩ := three_cells ((hb.block w.heap.size (by omega)).trans HX.out)
      clear hb HI
      go_wp2_with fail
      go_ret
      exact ⟨by rw [HR.out]; try rfl, HB1.out⟩
end Go.Proofs.Ytckmgbobkffabaa
