/- The message that is made of a format and a seed, and its bytes, by the model. -/
import Derived.Test.YtpbmmepoddbefaaMk
import Derived.Test.YtpbmmepoddbefaaEncM
import Derived.Test.YtpbmmepoddbefaaValS
import Derived.Test.YtpbmmepoddbefaaThereM
import Derived.Deep.RegionHeld3
import Derived.IntWalk
namespace Go.Proofs.Ytpbmmepoddbefaa
open Go.ChangeShapes Go.WideShapes Go.ChangeAt Go.RowKit
set_option linter.unusedVariables false
set_option linter.unusedSimpArgs false

/-- While one value of a list is made: the value lies in block g, its integers behind it, the list below it. -/
structure Bx (w : World) (g : Nat) (k : Int) (p : Option Addr) (m d : Nat) (y : List Int) (ao : Option Addr) (no co : Nat) (v : List Vl) (W : World) : Prop where
  low : Below w.heap.size w W
  box : W.heap[g]? = some (.cells #[.int .i64 k, .slice p m d] 59 (0, 0))
  own : Own .i64 3 W (g + 1) p m d y
  val : OwnVB g 59 3 W w.heap.size ao no co v
  ge : w.heap.size ≤ g
section
variable {w : World} {g : Nat} {k : Int} {p : Option Addr} {m d : Nat} {y : List Int} {ao : Option Addr} {no co : Nat} {v : List Vl} {W W' : World}
theorem Bx.lt (h : Bx w g k p m d y ao no co v W) : g < W.heap.size := by
  rcases Nat.lt_or_ge g W.heap.size with h1 | h1
  · exact h1
  · have := h.box
    rw [Array.getElem?_eq_none h1] at this
    cases this
theorem Bx.new (hb : Below w.heap.size w W) (ho : OwnV 59 3 W w.heap.size ao no co v) : Bx w W.heap.size 0 none 0 0 [] ao no co v (W.alloc (.cells #[.int .i64 0, .slice none 0 0] 59)) :=
  ⟨hb.alloc hb.size _, heap_alloc_new _ _, Own.nil, ho.lim.same (alloc_same _ _), hb.size⟩
theorem Bx.same (h : Bx w g k p m d y ao no co v W) (hb : Below W.heap.size W W') : Bx w g k p m d y ao no co v W' :=
  ⟨h.low.trans (hb.mono h.low.size), by rw [hb.block g h.lt]; exact h.box, h.own.same hb, h.val.same hb, h.ge⟩
theorem Bx.num (h : Bx w g k p m d y ao no co v W) (k' : Int) : Bx w g k' p m d y ao no co v (W.setCell ⟨g, 0, none⟩ (.int .i64 k')) := by
  have hge := h.ge
  exact ⟨h.low.setCell (by dsimp only; omega) _, by rw [heap_setCell_same W g 0 _ _ (.int .i64 k') h.box]; rfl, h.own.set (fun ad e => by
    have := (h.own.span ad e).1
    omega) _ _, h.val.far (set_grown W g 0 _) (fun r e => by cases e; exact Or.inr (Nat.le_refl _)), hge⟩
theorem Bx.kept (h : Bx w g k p m d y ao no co v W) (hg : W.grownBy W' (Value.ownBlock (.slice p m d))) : W'.heap[g]? = some (.cells #[.int .i64 k, .slice p m d] 59 (0, 0)) := by
  rw [hg.block g h.lt (fun e => ?_)]
  · exact h.box
  · cases hp : p with
    | none => rw [hp] at e; simp [Value.ownBlock] at e
    | some ad =>
      rw [hp] at e
      have := (h.own.span ad hp).1
      simp only [Value.ownBlock, Option.some.injEq] at e
      omega
theorem Bx.items (h : Bx w g k p m d y ao no co v W) (hg : W.grownBy W' (Value.ownBlock (.slice p m d))) {p' : Option Addr} {m' d' : Nat} {y' : List Int} (ho : Own .i64 3 W' (g + 1) p' m' d' y') :
    Bx w g k p' m' d' y' ao no co v (W'.setCell ⟨g, 1, none⟩ (.slice p' m' d')) := by
  have hge := h.ge
  have hrow : ∀ r, Value.ownBlock (.slice p m d) = some r → g + 1 ≤ r := fun r e => by
    cases hp : p with
    | none => rw [hp] at e; simp [Value.ownBlock] at e
    | some ad =>
      rw [hp] at e
      have := (h.own.span ad hp).1
      simp only [Value.ownBlock, Option.some.injEq] at e
      omega
  have hB1 : Below w.heap.size w W' := h.low.grown hg h.low.size (fun r e => by have := hrow r e; omega)
  exact ⟨hB1.setCell (by dsimp only; omega) _, by rw [heap_setCell_same W' g 1 _ _ (.slice p' m' d') (h.kept hg)]; rfl, ho.set (fun ad e => by
    have := (ho.span ad e).1
    omega) _ _, (h.val.far hg (fun r e => Or.inr (by have := hrow r e; omega))).far (set_grown W' g 1 _) (fun r e => by cases e; exact Or.inr (Nat.le_refl _)), hge⟩
theorem Bx.cell (h : Bx w g k p m d y ao no co v W) {q : Addr} {u : Value} (hq : w.cell? q = some u) : W.cell? q = some u := cell_stay hq h.low
end
theorem told_eq {P : Program} {f : FuncId} {args : Array Value} {w : World} {x y : Value} (e : x = y) (h : Calls P f args w (Told x w)) : Calls P f args w (Told y w) := e ▸ h

set_option maxHeartbeats 8000000 in
set_option maxRecDepth 100000 in
theorem specMakeMessage_any (a : Option Addr) (n c : Nat) (l : List Fd) (s : Int) (w : World) (h : Fds w a n l) (hn : n ≤ 1000000000) (hs : Fit64 s) :
    Calls Try.prog 24 #[.slice a n c, .int .i64 s] w (MadeV 59 3 w.heap.size (mkMsg l s) w) := by
  have H := Lib.hid h
  have hl := Lib.hid h.len
  have HS := Lib.hid hs
  have KF := Lib.hid (fun (w0 : World) (hb : Below w.heap.size w w0) => specIsFormat_any a n c l w0 (h.same hb) hn)
  obtain ⟨i0, hi, hz0, hz1, hz2⟩ := info_parts infoValueS
  have HI := Lib.hid (And.intro hi (And.intro hz0 (And.intro hz1 hz2)))
  clear hi hz0 hz1 hz2
  obtain ⟨i1, hi, hz0, hz1, hz2⟩ := info_parts infoIntS
  have HJ := Lib.hid (And.intro hi (And.intro hz0 (And.intro hz1 hz2)))
  clear h hs hi hz0 hz1 hz2
  have HB0 : Hid (Below w.heap.size w (w.alloc (.cells #[] 59))) := Lib.hid (alloc_same _ _)
  have HO0 : Hid (OwnV 59 3 (w.alloc (.cells #[] 59)) w.heap.size (some ⟨w.heap.size, 0, none⟩) 0 0 []) := Lib.hid (OwnV.empty (Nat.le_refl _))
  unfold MadeV
  cases hf : isFmt l with
  | false =>
    have HE := Lib.hid (mkMsg_no s hf)
    rw [hf] at KF
    clear hf
    go_enter Try.func24, Try.ntmps24
    go_wp2_with fail
    go_loopw [5, 6] (fun u i wr => u = .slice (some ⟨w.heap.size, 0, none⟩) 0 0 ∧ i = .int .i64 0 ∧ OwnV 59 3 wr w.heap.size (some ⟨w.heap.size, 0, none⟩) 0 0 [] ∧ Below w.heap.size w wr) (fun _ _ _ => 0)
    case atStart => exact ⟨rfl, rfl, HO0.out, HB0.out⟩
    case round =>
      obtain ⟨rfl, rfl, ho, hb⟩ := hrel
      have HO := Lib.hid ho
      have HB := Lib.hid hb
      clear ho hb
      by_cases h0 : 0 < n
      · have hq3 : decide ((0 : Int) < (n : Int)) = true := decide_eq_true (by omega)
        have hq4 : (0 : Int) < (n : Int) := by omega
        go_wp2_with fail
        refine (KF.out _ HB.out).mono ?_
        rintro e w1 ⟨rfl, hb1⟩
        have HB1 := Lib.hid (HB.out.trans (hb1.mono HB.out.size))
        have HO1 := Lib.hid (HO.out.same hb1)
        clear hb1
        go_wp2_with fail
        go_ret
        exact ⟨_, _, _, rfl, by rw [HE.out]; exact HO1.out, HB1.out⟩
      · obtain rfl : n = 0 := by omega
        go_wp2_with fail
        go_ret
        exact ⟨_, _, _, rfl, by rw [HE.out]; exact HO.out, HB.out⟩
  | true =>
    have hF := isFmt_iff.1 hf
    have hn6 : n ≤ 6 := by have := hF.1; have := hl.out; omega
    have HOK := Lib.hid hF.2
    have HE := Lib.hid (mkMsg_yes s hf)
    rw [hf] at KF
    clear hf hF
    go_enter Try.func24, Try.ntmps24
    go_wp2_with fail
    go_loopw [5, 6] (fun u i wr => ∃ (a' : Option Addr) (c' j : Nat), u = .slice a' j c' ∧ i = .int .i64 j ∧ j ≤ n ∧ OwnV 59 3 wr w.heap.size a' j c' (mkTo l s j) ∧ Below w.heap.size w wr) (fun _ i _ => n - (intOf i).toNat)
    case atStart => exact ⟨_, _, 0, rfl, rfl, Nat.zero_le _, HO0.out, HB0.out⟩
    case round =>
      obtain ⟨a', c', j, rfl, rfl, hj, ho, hb⟩ := hrel
      have HO := Lib.hid ho
      have HB := Lib.hid hb
      clear ho hb
      by_cases hlt : j < n
      · have hltI : (j : Int) < (n : Int) := by omega
        have hlj : j < l.length := by rw [hl.out]; exact hlt
        have hq3 : decide ((j : Int) < (n : Int)) = true := decide_eq_true (by omega)
        obtain ⟨bb, o, ⟨xk, xm, xt, xi⟩, rfl, hx, hc0, hc1, hc2, hc3⟩ := fds_at H.out hlt
        dsimp only at hc0 hc1
        have HC0 := Lib.hid hc0
        have HC1 := Lib.hid hc1
        have hmax := okTo_max HOK.out hlj hx
        have hmax9 : 1 ≤ xm ∧ xm ≤ 99 := ⟨hmax.1, Int.le_trans hmax.2 (mostOf_le _)⟩
        clear hc0 hc1 hc2 hc3 hmax
        go_wp2_with fail
        refine (KF.out _ HB.out).mono ?_
        rintro e w1 ⟨rfl, hb1⟩
        have HB1 := Lib.hid (HB.out.trans (hb1.mono HB.out.size))
        have HG1 := Lib.hid (Bx.new HB1.out (HO.out.same hb1))
        have KT := specIsThere_any _ n c l a' j c' (mkTo l s j) j _ (H.out.same HG1.out.low) HG1.out.val.ownV.vals hn (by omega)
        clear hb1 hq3
        cases ht : isThere l (mkTo l s j) j with
        | false =>
          have HSTEP := Lib.hid (mkTo_no hx ht)
          have HVAL : Hid (True ↔ True) := Lib.hid Iff.rfl
          rw [ht] at KT
          clear ht hx
          go_wp2_with fail
          refine KT.mono ?_
          rintro e w2 ⟨rfl, hb2⟩
          have HG2 := Lib.hid (HG1.out.same hb2)
          clear hb2 KT HG1
          generalize w1.heap.size = g at *
          have c0 := (block_cell HG2.out.box 0).trans rfl
          have c1 := (block_cell HG2.out.box 1).trans rfl
          have hge := HG2.out.ge
          have hsz9 := HG2.out.low.size
          have HNN := Lib.hid (fun X (z0 : Int) p m d => items_new Vh.enc_len X ⟨z0, p, m, d⟩ 59)
          have hf : ∀ ad : Addr, (none : Option Addr) = some ad → g ≤ ad.block := fun ad e => by
            have := (HG2.out.own.span ad e).1
            omega
          have HFF := Lib.hid hf
          clear hf
          go_wp2_with (at_builtin; refine wpl_appV _ rfl (.tmp 69) (.tmp 71) 27 rfl 59 3 i0 (.agg #[.int .i64 0, .slice none 0 0]) 32 Try.underlying27 HI.out.1 HI.out.2.1 HI.out.2.2.1 HI.out.2.2.2 rfl rfl (HG2.out.val.same (alloc_same _ _)) rfl (HNN.out _ _ _ _ _) ((HG2.out.own.lower (by omega)).alloc _) HFF.out (by omega) ?c4 ?c5 ?_)
          case c4 => omega
          case c5 => first | (simp; omega) | omega
          intro a5 c5 w5 ho5 hb5
          have HO5 := Lib.hid ho5
          have HB5 : Hid (Below w.heap.size w w5) := Lib.hid (HG2.out.low.trans (((alloc_same _ _).mono hsz9).trans hb5))
          clear ho5 hb5 c0 c1
          go_wp2_with fail
          go_roundw
          case rel => exact ⟨a5, c5, j + 1, rfl, by go_num, by omega, by rw [HSTEP.out]; exact HO5.out, HB5.out⟩
          case measure => first | (simp [intOf]; omega) | omega
        | true =>
          have HSTEP := Lib.hid (mkTo_yes hx ht)
          rw [ht] at KT
          clear ht hx
          have hbd := pickOf_bd s (16 * j) (xm + 1)
          obtain ⟨q, hq⟩ : ∃ q : Nat, pickOf s (16 * j) (xm + 1) = q := ⟨(pickOf s (16 * j) (xm + 1)).toNat, by omega⟩
          have hq99 : q ≤ 99 := by have := hbd.2.2 (by omega); omega
          have KV1 : Hid (xk = 1 → mkVal ⟨xk, xm, xt, xi⟩ s (16 * j) = ⟨(q : Int), []⟩) := Lib.hid fun h => by rw [mkVal_num h, hq]
          have KV2 : Hid (xk ≠ 1 → mkVal ⟨xk, xm, xt, xi⟩ s (16 * j) = ⟨0, picks s (16 * j + 1) q⟩) := Lib.hid fun h => by rw [mkVal_more h, hq, Int.toNat_natCast]
          have KP := Lib.hid (fun w0 : World => specPickOf_any s (16 * j) (xm + 1) w0 HS.out (fit_mk (by omega) (by omega)) (fit_mk (by omega) (by omega)))
          rw [hq] at KP
          have KPK : Hid (∀ (m : Nat), m < q → ∀ z : Int, z = 16 * j + 1 + m → ∀ w0 : World, Calls Try.prog 21 #[.int .i64 s, .int .i64 z, .int .i64 100] w0 (Told (.int .i64 (pickOf s (16 * j + 1 + m) 100)) w0)) := Lib.hid fun m hm z hz w0 => by
            rw [hz]
            exact specPickOf_any s _ 100 w0 HS.out (fit_mk (by omega) (by omega)) (fit_mk (by omega) (by omega))
          clear hbd hq
          go_wp2_with fail
          refine KT.mono ?_
          rintro e w2 ⟨rfl, hb2⟩
          have HG2 := Lib.hid (HG1.out.same hb2)
          clear hb2 KT HG1
          generalize w1.heap.size = g at *
          have e1 := HG2.out.cell HC1.out
          go_wp2_with fail
          refine (KP.out _).mono ?_
          rintro e w3 ⟨rfl, hb3⟩
          have HG3 := Lib.hid (HG2.out.same hb3)
          have e0 := HG3.out.cell HC0.out
          clear hb3 e1
          by_cases hk : xk = 1
          · have bk : (xk == 1) = true := by simpa using hk
            have bk2 : (xk != 1) = false := by simpa using hk
            have c0 := (block_cell HG3.out.box 0).trans rfl
            have f0 := block_frozen HG3.out.box 0
            have HG5 := Lib.hid (HG3.out.num q)
            go_wp2_with fail
            clear c0 f0 e0
            go_loopw [9] (fun c9 wi => c9 = .int .i64 0 ∧ Bx w g (q : Int) none 0 0 [] a' j c' (mkTo l s j) wi) (fun _ _ => 0)
            case atStart => exact ⟨rfl, HG5.out⟩
            case round =>
              obtain ⟨rfl, hG⟩ := hrel
              have HGj := Lib.hid hG
              clear hG
              have HVAL := Lib.hid (KV1.out hk)
              have e0 := HGj.out.cell (HC0.out)
              by_cases hq : 0 < q
              · have hq3 : decide ((0 : Int) < (q : Int)) = true := decide_eq_true (by omega)
                have hq4 : (0 : Int) < (q : Int) := by omega
                have c0 := (block_cell HGj.out.box 0).trans rfl
                have c1 := (block_cell HGj.out.box 1).trans rfl
                have hge := HGj.out.ge
                have hsz9 := HGj.out.low.size
                have HNN := Lib.hid (fun X (z0 : Int) p m d => items_new Vh.enc_len X ⟨z0, p, m, d⟩ 59)
                have hf : ∀ ad : Addr, (none : Option Addr) = some ad → g ≤ ad.block := fun ad e => by
                  have := (HGj.out.own.span ad e).1
                  omega
                have HFF := Lib.hid hf
                clear hf
                go_wp2_with (at_builtin; refine wpl_appV _ rfl (.tmp 69) (.tmp 71) 27 rfl 59 3 i0 (.agg #[.int .i64 0, .slice none 0 0]) 32 Try.underlying27 HI.out.1 HI.out.2.1 HI.out.2.2.1 HI.out.2.2.2 rfl rfl (HGj.out.val.same (alloc_same _ _)) rfl (HNN.out _ _ _ _ _) ((HGj.out.own.lower (by omega)).alloc _) HFF.out (by omega) ?c4 ?c5 ?_)
                case c4 => omega
                case c5 => first | (simp; omega) | omega
                intro a5 c5 w5 ho5 hb5
                have HO5 := Lib.hid ho5
                have HB5 : Hid (Below w.heap.size w w5) := Lib.hid (HGj.out.low.trans (((alloc_same _ _).mono hsz9).trans hb5))
                clear ho5 hb5 c0 c1
                go_wp2_with fail
                go_roundw
                case rel => exact ⟨a5, c5, j + 1, rfl, by go_num, by omega, by rw [HSTEP.out, HVAL.out]; exact HO5.out, HB5.out⟩
                case measure => first | (simp [intOf]; omega) | omega
              · have hq3 : decide ((0 : Int) < (q : Int)) = false := decide_eq_false (by omega)
                have hq4 : ¬ (0 : Int) < (q : Int) := by omega
                have c0 := (block_cell HGj.out.box 0).trans rfl
                have c1 := (block_cell HGj.out.box 1).trans rfl
                have hge := HGj.out.ge
                have hsz9 := HGj.out.low.size
                have HNN := Lib.hid (fun X (z0 : Int) p m d => items_new Vh.enc_len X ⟨z0, p, m, d⟩ 59)
                have hf : ∀ ad : Addr, (none : Option Addr) = some ad → g ≤ ad.block := fun ad e => by
                  have := (HGj.out.own.span ad e).1
                  omega
                have HFF := Lib.hid hf
                clear hf
                go_wp2_with (at_builtin; refine wpl_appV _ rfl (.tmp 69) (.tmp 71) 27 rfl 59 3 i0 (.agg #[.int .i64 0, .slice none 0 0]) 32 Try.underlying27 HI.out.1 HI.out.2.1 HI.out.2.2.1 HI.out.2.2.2 rfl rfl (HGj.out.val.same (alloc_same _ _)) rfl (HNN.out _ _ _ _ _) ((HGj.out.own.lower (by omega)).alloc _) HFF.out (by omega) ?c4 ?c5 ?_)
                case c4 => omega
                case c5 => first | (simp; omega) | omega
                intro a5 c5 w5 ho5 hb5
                have HO5 := Lib.hid ho5
                have HB5 : Hid (Below w.heap.size w w5) := Lib.hid (HGj.out.low.trans (((alloc_same _ _).mono hsz9).trans hb5))
                clear ho5 hb5 c0 c1
                go_wp2_with fail
                go_roundw
                case rel => exact ⟨a5, c5, j + 1, rfl, by go_num, by omega, by rw [HSTEP.out, HVAL.out]; exact HO5.out, HB5.out⟩
                case measure => first | (simp [intOf]; omega) | omega
          · have bk : (xk == 1) = false := by simpa using hk
            have bk2 : (xk != 1) = true := by simpa using hk
            have HG4 := HG3
            go_wp2_with fail
            clear e0
            go_loopw [9] (fun c9 wi => ∃ (m : Nat) (p : Option Addr) (d : Nat), c9 = .int .i64 m ∧ m ≤ q ∧ Bx w g 0 p m d (picks s (16 * j + 1) m) a' j c' (mkTo l s j) wi) (fun c9 _ => q - (intOf c9).toNat)
            case atStart => exact ⟨0, none, 0, rfl, Nat.zero_le _, HG4.out⟩
            case round =>
              obtain ⟨m, p, d, rfl, hmq0, hG⟩ := hrel
              have HGj := Lib.hid hG
              clear hG
              have e0 := HGj.out.cell (HC0.out)
              by_cases hmq : m < q
              · have hq3 : decide ((m : Int) < (q : Int)) = true := decide_eq_true (by omega)
                have hq4 : (m : Int) < (q : Int) := by omega
                have HWR : Hid (IntKind.i64.wrap (IntKind.i64.wrap (IntKind.i64.wrap (16 * (j : Int)) + (m : Int)) + 1) = 16 * j + 1 + m) := Lib.hid (by rw [IntWalk.i64_in (16 * (j : Int)) ⟨by omega, by omega⟩, IntWalk.i64_in (16 * (j : Int) + m) ⟨by omega, by omega⟩, IntWalk.i64_in _ ⟨by omega, by omega⟩]; omega)
                go_wp2_with fail
                clear e0
                have GS := Lib.hid (HGj.out.same (Below.refl _ wr).drew)
                refine wp_region_held_drew (S := fun _ => True) (by kernel_rfl) trivial (fun hHeld => ?_)
                refine wpAnyH_take (i := 0) (v := ?v1) (by simp only [List.getElem?_toArray, List.getElem?_cons_succ, List.getElem?_cons_zero]; rfl) (by kernel_rfl) (by kernel_rfl) (by kernel_rfl) (by exact fun _ _ _ h => h) (Or.inl ⟨by rfl, fun w9 hS9 => ?hy1⟩) hHeld ?rest1
                case hy1 =>
                  clear hS9
                  go_simp
                  try with_reducible rfl
                try simp only [Act.put, List.setIfInBounds_toArray, List.set_cons_zero, List.set_cons_succ]
                refine wpAnyH_take (i := 2) (v := ?v2) (by simp only [List.getElem?_toArray, List.getElem?_cons_succ, List.getElem?_cons_zero]; rfl) (by kernel_rfl) (by kernel_rfl) (by kernel_rfl) (by exact fun _ _ _ h => h) (Or.inl ⟨by rfl, fun w9 hS9 => ?hy2⟩) hHeld ?rest2
                case hy2 =>
                  clear hS9
                  go_simp
                  try with_reducible rfl
                try simp only [Act.put, List.setIfInBounds_toArray, List.set_cons_zero, List.set_cons_succ]
                refine wpAnyH_take (i := 3) (v := ?v3) (by simp only [List.getElem?_toArray, List.getElem?_cons_succ, List.getElem?_cons_zero]; rfl) (by kernel_rfl) (by kernel_rfl) (by kernel_rfl) (by exact fun _ _ _ h => h) (Or.inl ⟨by rfl, fun w9 hS9 => ?hy3⟩) hHeld ?rest3
                case hy3 =>
                  clear hS9
                  go_simp
                  try with_reducible rfl
                try simp only [Act.put, List.setIfInBounds_toArray, List.set_cons_zero, List.set_cons_succ]
                refine wpAnyH_take (i := 4) (v := ?v4) (by simp only [List.getElem?_toArray, List.getElem?_cons_succ, List.getElem?_cons_zero]; rfl) (by kernel_rfl) (by kernel_rfl) (by kernel_rfl) (by exact fun _ _ _ h => h) (Or.inl ⟨by rfl, fun w9 hS9 => ?hy4⟩) hHeld ?rest4
                case hy4 =>
                  clear hS9
                  go_simp
                  try with_reducible rfl
                try simp only [Act.put, List.setIfInBounds_toArray, List.set_cons_zero, List.set_cons_succ]
                refine wpAnyH_take (i := 5) (v := ?v5) (by simp only [List.getElem?_toArray, List.getElem?_cons_succ, List.getElem?_cons_zero]; rfl) (by kernel_rfl) (by kernel_rfl) (by kernel_rfl) (by exact fun _ _ _ h => h) (Or.inl ⟨by rfl, fun w9 hS9 => ?hy5⟩) hHeld ?rest5
                case hy5 =>
                  clear hS9
                  go_simp
                  try with_reducible rfl
                try simp only [Act.put, List.setIfInBounds_toArray, List.set_cons_zero, List.set_cons_succ]
                refine wpAnyH_take (i := 6) (v := ?v6) (by simp only [List.getElem?_toArray, List.getElem?_cons_succ, List.getElem?_cons_zero]; rfl) (by kernel_rfl) (by kernel_rfl) (by kernel_rfl) (by exact fun _ _ _ h => h) (Or.inl ⟨by rfl, fun w9 hS9 => ?hy6⟩) hHeld ?rest6
                case hy6 =>
                  clear hS9
                  go_simp
                  try with_reducible rfl
                try simp only [Act.put, List.setIfInBounds_toArray, List.set_cons_zero, List.set_cons_succ]
                refine wpAnyH_take (i := 7) (v := ?v7) (by simp only [List.getElem?_toArray, List.getElem?_cons_succ, List.getElem?_cons_zero]; rfl) (by kernel_rfl) (by kernel_rfl) (by kernel_rfl) (by exact fun _ _ _ h => h) (Or.inl ⟨by rfl, fun w9 hS9 => ?hy7⟩) hHeld ?rest7
                case hy7 =>
                  clear hS9
                  go_simp
                  try with_reducible rfl
                try simp only [Act.put, List.setIfInBounds_toArray, List.set_cons_zero, List.set_cons_succ]
                refine wpAnyH_ready (rs := [1, 8]) (by kernel_rfl) (by simp) (AllReadyH.cons (by simp only [List.getElem?_toArray, List.getElem?_cons_succ, List.getElem?_cons_zero]; rfl) (fun K hK => ?_) (AllReadyH.cons (by simp only [List.getElem?_toArray, List.getElem?_cons_succ, List.getElem?_cons_zero]; rfl) (fun K hK => ?_) AllReadyH.nil))
                · skip
                  have q1 := (block_cell GS.out.box 1).trans rfl
                  go_simp
                  refine hK.out _ _ trivial (fun hHeld => ?_)
                  clear hK K
                  try simp only [Act.put, List.setIfInBounds_toArray, List.set_cons_zero, List.set_cons_succ]
                  refine wpAnyH_ready (rs := [8]) (by kernel_rfl) (by simp) (AllReadyH.cons (by simp only [List.getElem?_toArray, List.getElem?_cons_succ, List.getElem?_cons_zero]; rfl) (fun K hK => ?_) AllReadyH.nil)
                  go_simp
                  refine (KPK.out m hmq _ HWR.out _).mono ?_
                  rintro e x1 ⟨rfl, hdz⟩
                  have GA := Lib.hid (GS.out.same hdz)
                  clear hdz
                  go_wp2_with fail
                  refine hK.out _ _ trivial (fun hHeld => ?_)
                  clear hK K
                  try simp only [Act.put, List.setIfInBounds_toArray, List.set_cons_zero, List.set_cons_succ]
                  refine wpAnyH_ready (rs := [9]) (by kernel_rfl) (by simp) (AllReadyH.cons (by simp only [List.getElem?_toArray, List.getElem?_cons_succ, List.getElem?_cons_zero]; rfl) (fun K hK => ?_) AllReadyH.nil)
                  have GB := Lib.hid (GA.out.same (alloc_same x1 (.cells #[.int .i64 (pickOf s (16 * j + 1 + m) 100)] 3)))
                  have NB := Lib.hid (nums_new x1 .i64 (pickOf s (16 * j + 1 + m) 100) 3)
                  go_simp
                  refine hK.out _ _ trivial (fun hHeld => ?_)
                  clear hK K
                  try simp only [Act.put, List.setIfInBounds_toArray, List.set_cons_zero, List.set_cons_succ]
                  refine wpAnyH_ready (rs := [10]) (by kernel_rfl) (by simp) (AllReadyH.cons (by simp only [List.getElem?_toArray, List.getElem?_cons_succ, List.getElem?_cons_zero]; rfl) (fun K hK => ?_) AllReadyH.nil)
                  have hszb := GB.out.lt
                  refine step_app3 _ (by rfl) (.tmp 58) (.tmp 66) 29 (by rfl) .i64 3 i1 (.int .i64 0) 8 Try.underlying29 HJ.out.1 HJ.out.2.1 HJ.out.2.2.1 HJ.out.2.2.2 rfl (by rfl) GB.out.own (by rfl) NB.out (by omega) (by omega) (by omega) (by omega) ?_
                  intro p2 d2 x2 ho2 hg2 _
                  have HK2 := Lib.hid (GB.out.kept hg2)
                  have GC := Lib.hid (GB.out.items hg2 ho2)
                  clear ho2 hg2
                  refine hK.out _ _ trivial (fun hHeld => ?_)
                  clear hK K
                  try simp only [Act.put, List.setIfInBounds_toArray, List.set_cons_zero, List.set_cons_succ]
                  refine wpAnyH_take (i := 11) (v := ?v8) (by simp only [List.getElem?_toArray, List.getElem?_cons_succ, List.getElem?_cons_zero]; rfl) (by kernel_rfl) (by kernel_rfl) (by kernel_rfl) (by exact fun _ _ _ h => h) (Or.inl ⟨by rfl, fun w9 hS9 => ?hy8⟩) hHeld ?rest8
                  case hy8 =>
                    clear hS9
                    go_simp
                    try with_reducible rfl
                  try simp only [Act.put, List.setIfInBounds_toArray, List.set_cons_zero, List.set_cons_succ]
                  refine wpAnyH_ready (rs := [12]) (by kernel_rfl) (by simp) (AllReadyH.cons (by simp only [List.getElem?_toArray, List.getElem?_cons_succ, List.getElem?_cons_zero]; rfl) (fun K hK => ?_) AllReadyH.nil)
                  have r1 := (block_cell HK2.out 1).trans rfl
                  have r2 := block_frozen HK2.out 1
                  go_simp
                  refine hK.out _ _ trivial (fun hHeld => ?_)
                  clear hK K
                  try simp only [Act.put, List.setIfInBounds_toArray, List.set_cons_zero, List.set_cons_succ]
                  refine wpAnyH_done (by kernel_rfl) ?_ _
                  go_wp2_with fail
                  go_roundw
                  case rel => exact ⟨m + 1, p2, d2, by go_num, by omega, GC.out⟩
                  case measure => first | (simp [intOf]; omega) | omega
                · skip
                  go_simp
                  refine (KPK.out m hmq _ HWR.out _).mono ?_
                  rintro e x1 ⟨rfl, hdz⟩
                  have GA := Lib.hid (GS.out.same hdz)
                  clear hdz
                  go_wp2_with fail
                  refine hK.out _ _ trivial (fun hHeld => ?_)
                  clear hK K
                  try simp only [Act.put, List.setIfInBounds_toArray, List.set_cons_zero, List.set_cons_succ]
                  refine wpAnyH_ready (rs := [1, 9]) (by kernel_rfl) (by simp) (AllReadyH.cons (by simp only [List.getElem?_toArray, List.getElem?_cons_succ, List.getElem?_cons_zero]; rfl) (fun K hK => ?_) (AllReadyH.cons (by simp only [List.getElem?_toArray, List.getElem?_cons_succ, List.getElem?_cons_zero]; rfl) (fun K hK => ?_) AllReadyH.nil))
                  · skip
                    have q1 := (block_cell GA.out.box 1).trans rfl
                    go_simp
                    refine hK.out _ _ trivial (fun hHeld => ?_)
                    clear hK K
                    try simp only [Act.put, List.setIfInBounds_toArray, List.set_cons_zero, List.set_cons_succ]
                    refine wpAnyH_ready (rs := [9]) (by kernel_rfl) (by simp) (AllReadyH.cons (by simp only [List.getElem?_toArray, List.getElem?_cons_succ, List.getElem?_cons_zero]; rfl) (fun K hK => ?_) AllReadyH.nil)
                    have GB := Lib.hid (GA.out.same (alloc_same x1 (.cells #[.int .i64 (pickOf s (16 * j + 1 + m) 100)] 3)))
                    have NB := Lib.hid (nums_new x1 .i64 (pickOf s (16 * j + 1 + m) 100) 3)
                    go_simp
                    refine hK.out _ _ trivial (fun hHeld => ?_)
                    clear hK K
                    try simp only [Act.put, List.setIfInBounds_toArray, List.set_cons_zero, List.set_cons_succ]
                    refine wpAnyH_ready (rs := [10]) (by kernel_rfl) (by simp) (AllReadyH.cons (by simp only [List.getElem?_toArray, List.getElem?_cons_succ, List.getElem?_cons_zero]; rfl) (fun K hK => ?_) AllReadyH.nil)
                    have hszb := GB.out.lt
                    refine step_app3 _ (by rfl) (.tmp 58) (.tmp 66) 29 (by rfl) .i64 3 i1 (.int .i64 0) 8 Try.underlying29 HJ.out.1 HJ.out.2.1 HJ.out.2.2.1 HJ.out.2.2.2 rfl (by rfl) GB.out.own (by rfl) NB.out (by omega) (by omega) (by omega) (by omega) ?_
                    intro p2 d2 x2 ho2 hg2 _
                    have HK2 := Lib.hid (GB.out.kept hg2)
                    have GC := Lib.hid (GB.out.items hg2 ho2)
                    clear ho2 hg2
                    refine hK.out _ _ trivial (fun hHeld => ?_)
                    clear hK K
                    try simp only [Act.put, List.setIfInBounds_toArray, List.set_cons_zero, List.set_cons_succ]
                    refine wpAnyH_take (i := 11) (v := ?v9) (by simp only [List.getElem?_toArray, List.getElem?_cons_succ, List.getElem?_cons_zero]; rfl) (by kernel_rfl) (by kernel_rfl) (by kernel_rfl) (by exact fun _ _ _ h => h) (Or.inl ⟨by rfl, fun w9 hS9 => ?hy9⟩) hHeld ?rest9
                    case hy9 =>
                      clear hS9
                      go_simp
                      try with_reducible rfl
                    try simp only [Act.put, List.setIfInBounds_toArray, List.set_cons_zero, List.set_cons_succ]
                    refine wpAnyH_ready (rs := [12]) (by kernel_rfl) (by simp) (AllReadyH.cons (by simp only [List.getElem?_toArray, List.getElem?_cons_succ, List.getElem?_cons_zero]; rfl) (fun K hK => ?_) AllReadyH.nil)
                    have r1 := (block_cell HK2.out 1).trans rfl
                    have r2 := block_frozen HK2.out 1
                    go_simp
                    refine hK.out _ _ trivial (fun hHeld => ?_)
                    clear hK K
                    try simp only [Act.put, List.setIfInBounds_toArray, List.set_cons_zero, List.set_cons_succ]
                    refine wpAnyH_done (by kernel_rfl) ?_ _
                    go_wp2_with fail
                    go_roundw
                    case rel => exact ⟨m + 1, p2, d2, by go_num, by omega, GC.out⟩
                    case measure => first | (simp [intOf]; omega) | omega
                  · skip
                    have GB := Lib.hid (GA.out.same (alloc_same x1 (.cells #[.int .i64 (pickOf s (16 * j + 1 + m) 100)] 3)))
                    have NB := Lib.hid (nums_new x1 .i64 (pickOf s (16 * j + 1 + m) 100) 3)
                    go_simp
                    refine hK.out _ _ trivial (fun hHeld => ?_)
                    clear hK K
                    try simp only [Act.put, List.setIfInBounds_toArray, List.set_cons_zero, List.set_cons_succ]
                    refine wpAnyH_ready (rs := [1]) (by kernel_rfl) (by simp) (AllReadyH.cons (by simp only [List.getElem?_toArray, List.getElem?_cons_succ, List.getElem?_cons_zero]; rfl) (fun K hK => ?_) AllReadyH.nil)
                    have q1 := (block_cell GB.out.box 1).trans rfl
                    go_simp
                    refine hK.out _ _ trivial (fun hHeld => ?_)
                    clear hK K
                    try simp only [Act.put, List.setIfInBounds_toArray, List.set_cons_zero, List.set_cons_succ]
                    refine wpAnyH_ready (rs := [10]) (by kernel_rfl) (by simp) (AllReadyH.cons (by simp only [List.getElem?_toArray, List.getElem?_cons_succ, List.getElem?_cons_zero]; rfl) (fun K hK => ?_) AllReadyH.nil)
                    have hszb := GB.out.lt
                    refine step_app3 _ (by rfl) (.tmp 58) (.tmp 66) 29 (by rfl) .i64 3 i1 (.int .i64 0) 8 Try.underlying29 HJ.out.1 HJ.out.2.1 HJ.out.2.2.1 HJ.out.2.2.2 rfl (by rfl) GB.out.own (by rfl) NB.out (by omega) (by omega) (by omega) (by omega) ?_
                    intro p2 d2 x2 ho2 hg2 _
                    have HK2 := Lib.hid (GB.out.kept hg2)
                    have GC := Lib.hid (GB.out.items hg2 ho2)
                    clear ho2 hg2
                    refine hK.out _ _ trivial (fun hHeld => ?_)
                    clear hK K
                    try simp only [Act.put, List.setIfInBounds_toArray, List.set_cons_zero, List.set_cons_succ]
                    refine wpAnyH_take (i := 11) (v := ?v10) (by simp only [List.getElem?_toArray, List.getElem?_cons_succ, List.getElem?_cons_zero]; rfl) (by kernel_rfl) (by kernel_rfl) (by kernel_rfl) (by exact fun _ _ _ h => h) (Or.inl ⟨by rfl, fun w9 hS9 => ?hy10⟩) hHeld ?rest10
                    case hy10 =>
                      clear hS9
                      go_simp
                      try with_reducible rfl
                    try simp only [Act.put, List.setIfInBounds_toArray, List.set_cons_zero, List.set_cons_succ]
                    refine wpAnyH_ready (rs := [12]) (by kernel_rfl) (by simp) (AllReadyH.cons (by simp only [List.getElem?_toArray, List.getElem?_cons_succ, List.getElem?_cons_zero]; rfl) (fun K hK => ?_) AllReadyH.nil)
                    have r1 := (block_cell HK2.out 1).trans rfl
                    have r2 := block_frozen HK2.out 1
                    go_simp
                    refine hK.out _ _ trivial (fun hHeld => ?_)
                    clear hK K
                    try simp only [Act.put, List.setIfInBounds_toArray, List.set_cons_zero, List.set_cons_succ]
                    refine wpAnyH_done (by kernel_rfl) ?_ _
                    go_wp2_with fail
                    go_roundw
                    case rel => exact ⟨m + 1, p2, d2, by go_num, by omega, GC.out⟩
                    case measure => first | (simp [intOf]; omega) | omega
              · obtain rfl : m = q := by omega
                have HVAL := Lib.hid (KV2.out hk)
                have hq3 : decide ((m : Int) < (m : Int)) = false := decide_eq_false (by omega)
                have c0 := (block_cell HGj.out.box 0).trans rfl
                have c1 := (block_cell HGj.out.box 1).trans rfl
                have hge := HGj.out.ge
                have hsz9 := HGj.out.low.size
                have HNN := Lib.hid (fun X (z0 : Int) p m d => items_new Vh.enc_len X ⟨z0, p, m, d⟩ 59)
                have hf : ∀ ad : Addr, p = some ad → g ≤ ad.block := fun ad e => by
                  have := (HGj.out.own.span ad e).1
                  omega
                have HFF := Lib.hid hf
                clear hf
                go_wp2_with (at_builtin; refine wpl_appV _ rfl (.tmp 69) (.tmp 71) 27 rfl 59 3 i0 (.agg #[.int .i64 0, .slice none 0 0]) 32 Try.underlying27 HI.out.1 HI.out.2.1 HI.out.2.2.1 HI.out.2.2.2 rfl rfl (HGj.out.val.same (alloc_same _ _)) rfl (HNN.out _ _ _ _ _) ((HGj.out.own.lower (by omega)).alloc _) HFF.out (by omega) ?c4 ?c5 ?_)
                case c4 => omega
                case c5 => first | (simp; omega) | omega
                intro a5 c5 w5 ho5 hb5
                have HO5 := Lib.hid ho5
                have HB5 : Hid (Below w.heap.size w w5) := Lib.hid (HGj.out.low.trans (((alloc_same _ _).mono hsz9).trans hb5))
                clear ho5 hb5 c0 c1
                go_wp2_with fail
                go_roundw
                case rel => exact ⟨a5, c5, j + 1, rfl, by go_num, by omega, by rw [HSTEP.out, HVAL.out]; exact HO5.out, HB5.out⟩
                case measure => first | (simp [intOf]; omega) | omega
      · obtain rfl : j = n := by omega
        have hq3 : decide ((j : Int) < (j : Int)) = false := decide_eq_false (by omega)
        go_wp2_with fail
        go_ret
        exact ⟨_, _, _, rfl, by rw [HE.out, hl.out]; exact HO.out, HB.out⟩
set_option maxHeartbeats 2000000 in
set_option maxRecDepth 100000 in
theorem specMakeBytes_any (a : Option Addr) (n c : Nat) (l : List Fd) (s : Int) (w : World) (h : Fds w a n l) (hn : n ≤ 1000000000) (hs : Fit64 s) :
    Calls Try.prog 32 #[.slice a n c, .int .i64 s] w (Made .i64 3 w.heap.size (encOf l (mkMsg l s)) w) := by
  have H := Lib.hid h
  have KM := Lib.hid (specMakeMessage_any a n c l s w h hn hs)
  clear h hs
  unfold MadeV at KM
  go_enter Try.func32, Try.ntmps32
  go_wp2_with fail
  refine KM.out.mono ?_
  rintro e w1 ⟨b, m, d, rfl, ho, hb1⟩
  have hm : m ≤ 6 := by have := ho.len; have := (mkMsg_few l s).1; omega
  have HB1 := Lib.hid hb1
  have KE := specEncodeMessage_any a n c l b m d (mkMsg l s) w1 (H.out.same hb1) ho.vals hn (by omega)
  unfold EncTold at KE
  clear ho hb1 KM
  go_wp2_with fail
  refine KE.mono ?_
  rintro e w2 ⟨b', m', d', rfl, ho2, hb2⟩
  have hs1 := HB1.out.size
  have HO := Lib.hid (ho2.lower hs1)
  have HB2 := Lib.hid (HB1.out.trans (hb2.mono hs1))
  clear ho2 hb2 KE
  go_wp2_with fail
  go_ret
  exact ⟨_, _, _, rfl, HO.out, HB2.out⟩
end Go.Proofs.Ytpbmmepoddbefaa
