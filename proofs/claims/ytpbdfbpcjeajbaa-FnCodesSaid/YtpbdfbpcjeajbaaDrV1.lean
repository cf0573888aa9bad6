/- A list of values is drawn: a value for each field of a list of fields. -/
import Derived.Test.YtpbdfbpcjeajbaaDrV0
import Derived.Test.YtpbdfbpcjeajbaaDrF1
import Derived.Test.YtpbdfbpcjeajbaaValS
import Derived.Test.YtpbdfbpcjeajbaaThereM
import Derived.Deep.RegionHeld3
namespace Go.Proofs.Ytpbdfbpcjeajbaa
open Go.ChangeShapes Go.WideShapes Go.ChangeAt Go.RowKit
set_option linter.unusedVariables false
set_option linter.unusedSimpArgs false

theorem Items.only {α : Type} {enc : α → List Value} {s : Nat} {w w' : World} {a : Option Addr} {n b : Nat} {l : List α} (h : Items enc s w a n l) (ho : Only b w w') (hne : ∀ ad, a = some ad → ad.block ≠ b) : Items enc s w' a n l :=
  ⟨h.len, h.fits, fun j x hj => by
    obtain ⟨bb, o, e, hx⟩ := h.cell j x hj
    have h1 : bb ≠ b := hne _ e
    exact ⟨bb, o, e, fun i v hv => by rw [ho.cell (cell_in (hx i v hv)) h1]; exact hx i v hv⟩⟩
theorem told_bool {P : Program} {f : FuncId} {args : Array Value} {w : World} {x y : Bool} (e : x = y) (h : Calls P f args w (Told (.bool x) w)) : Calls P f args w (Told (.bool y) w) := e ▸ h
/-- Every number is an integer of 64 bits, and no value has more than r integers. -/
def Vok (r : Nat) (v : List Vl) : Prop := ∀ x ∈ v, (I64 x.num ∧ ∀ z ∈ x.items, I64 z) ∧ x.items.length ≤ r
theorem Vok.mono {r r' : Nat} {v : List Vl} (h : Vok r v) (hr : r ≤ r') : Vok r' v := fun x hx => ⟨(h x hx).1, Nat.le_trans (h x hx).2 hr⟩
theorem Vok.app {r : Nat} {v : List Vl} {k : Int} {y : List Int} (h : Vok r v) (hk : I64 k) (hy : ∀ z ∈ y, I64 z) (hl : y.length ≤ r) : Vok r (v ++ [⟨k, y⟩]) := fun x hx => by
  rcases List.mem_append.1 hx with q | q
  · exact h x q
  · rw [List.mem_singleton.1 q]
    exact ⟨⟨hk, hy⟩, hl⟩
/-- While one value of a list is drawn: the value lies in block g, its integers behind it, the list below it. -/
structure Box (b : Nat) (a : Option Addr) (n c : Nat) (w : World) (g : Nat) (k : Int) (p : Option Addr) (m d : Nat) (y : List Int) (ao : Option Addr) (no co : Nat) (v : List Vl) (W : World) : Prop where
  cu : Curs w b a n c
  dr : Drawn b a n c w W
  box : W.heap[g]? = some (.cells #[.int .i64 k, .slice p m d] 66 (0, 0))
  own : Own .i64 3 W (g + 1) p m d y
  val : OwnVB g 66 3 W w.heap.size ao no co v
  ge : w.heap.size ≤ g
section
variable {b : Nat} {a : Option Addr} {n c : Nat} {w : World} {g : Nat} {k : Int} {p : Option Addr} {m d : Nat} {y : List Int} {ao : Option Addr} {no co : Nat} {v : List Vl} {W W' : World}
theorem Box.lt (h : Box b a n c w g k p m d y ao no co v W) : g < W.heap.size := by
  rcases Nat.lt_or_ge g W.heap.size with h1 | h1
  · exact h1
  · have := h.box
    rw [Array.getElem?_eq_none h1] at this
    cases this
theorem Box.new (cu : Curs w b a n c) (hd : Drawn b a n c w W) (ho : OwnV 66 3 W w.heap.size ao no co v) : Box b a n c w W.heap.size 0 none 0 0 [] ao no co v (W.alloc (.cells #[.int .i64 0, .slice none 0 0] 66)) :=
  ⟨cu, hd.same (alloc_same _ _), heap_alloc_new _ _, Own.nil, ho.lim.same (alloc_same _ _), hd.2.size⟩
theorem Box.only (h : Box b a n c w g k p m d y ao no co v W) (hd : Drawn b a n c W W') : Box b a n c w g k p m d y ao no co v W' := by
  have hb := h.cu.lt
  have hge := h.ge
  exact ⟨h.cu, h.dr.trans hd, by rw [hd.2.block g h.lt (by omega)]; exact h.box, h.own.far (only_grown hd.2) (fun ad e q => by
    have := (h.own.span ad e).1
    cases q
    omega), h.val.only hd.2 hb, hge⟩
theorem Box.same (h : Box b a n c w g k p m d y ao no co v W) (hb : Below W.heap.size W W') : Box b a n c w g k p m d y ao no co v W' :=
  ⟨h.cu, h.dr.same hb, by rw [hb.block g h.lt]; exact h.box, h.own.same hb, h.val.same hb, h.ge⟩
theorem Box.num (h : Box b a n c w g k p m d y ao no co v W) (k' : Int) : Box b a n c w g k' p m d y ao no co v (W.setCell ⟨g, 0, none⟩ (.int .i64 k')) := by
  have hge := h.ge
  have hB : Below w.heap.size W (W.setCell ⟨g, 0, none⟩ (.int .i64 k')) := (Below.refl _ W).setCell (by dsimp only; omega) _
  exact ⟨h.cu, h.dr.under h.cu hB (Nat.le_refl _), by rw [heap_setCell_same W g 0 _ _ (.int .i64 k') h.box]; rfl, h.own.set (fun ad e => by
    have := (h.own.span ad e).1
    omega) _ _, h.val.far (set_grown W g 0 _) (fun r e => by cases e; exact Or.inr (Nat.le_refl _)), hge⟩
/-- The block itself, behind an append onto the integers. -/
theorem Box.kept (h : Box b a n c w g k p m d y ao no co v W) (hg : W.grownBy W' (Value.ownBlock (.slice p m d))) : W'.heap[g]? = some (.cells #[.int .i64 k, .slice p m d] 66 (0, 0)) := by
  rw [hg.block g h.lt (fun e => ?_)]
  · exact h.box
  · cases hp : p with
    | none => rw [hp] at e; simp [Value.ownBlock] at e
    | some ad =>
      rw [hp] at e
      have := (h.own.span ad hp).1
      simp only [Value.ownBlock, Option.some.injEq] at e
      omega
theorem Box.items (h : Box b a n c w g k p m d y ao no co v W) (hg : W.grownBy W' (Value.ownBlock (.slice p m d))) {p' : Option Addr} {m' d' : Nat} {y' : List Int} (ho : Own .i64 3 W' (g + 1) p' m' d' y') :
    Box b a n c w g k p' m' d' y' ao no co v (W'.setCell ⟨g, 1, none⟩ (.slice p' m' d')) := by
  have hge := h.ge
  have hrow : ∀ r, Value.ownBlock (.slice p m d) = some r → g + 1 ≤ r := fun r e => by
    cases hp : p with
    | none => rw [hp] at e; simp [Value.ownBlock] at e
    | some ad =>
      rw [hp] at e
      have := (h.own.span ad hp).1
      simp only [Value.ownBlock, Option.some.injEq] at e
      omega
  have hB1 : Below w.heap.size W W' := (Below.refl _ W).grown hg h.dr.2.size (fun r e => by have := hrow r e; omega)
  have hB2 : Below w.heap.size W (W'.setCell ⟨g, 1, none⟩ (.slice p' m' d')) := hB1.setCell (by dsimp only; omega) _
  exact ⟨h.cu, h.dr.under h.cu hB2 (Nat.le_refl _), by rw [heap_setCell_same W' g 1 _ _ (.slice p' m' d') (h.kept hg)]; rfl, ho.set (fun ad e => by
    have := (ho.span ad e).1
    omega) _ _, (h.val.far hg (fun r e => Or.inr (by have := hrow r e; omega))).far (set_grown W' g 1 _) (fun r e => by cases e; exact Or.inr (Nat.le_refl _)), hge⟩
theorem Box.cell (h : Box b a n c w g k p m d y ao no co v W) {q : Addr} {u : Value} (hq : w.cell? q = some u) (hne : q.block ≠ b) : W.cell? q = some u := by
  rw [h.dr.2.cell (cell_in hq) hne]
  exact hq
end
set_option maxRecDepth 100000 in
theorem belowAny (b : Nat) (a : Option Addr) (n c : Nat) (m : Int) (hm : m ≤ 9223372036854775807) (w : World) (hc : Curs w b a n c) :
    Calls Try.prog 74 #[.pointer (some ⟨b, 0, none⟩), .int .i64 m] w fun e w' => ∃ x : Int, 0 ≤ x ∧ x ≤ 9223372036854775807 ∧ (x = 0 ∨ x < m) ∧ e = .returned (.int .i64 x) ∧ Drawn b a n c w w' := by
  by_cases h : 1 ≤ m
  · refine (below_any b a n c m h hm w hc).mono ?_
    rintro e w' ⟨x, h0, h1, he, hd⟩
    exact ⟨x, h0, by omega, Or.inr h1, he, hd⟩
  · refine (belowNo_any b a n c m (by omega) w).mono ?_
    rintro e w' ⟨he, rfl⟩
    exact ⟨0, by omega, by omega, Or.inl rfl, he, Drawn.refl hc⟩
theorem min_any (x : Int) (hx : I64 x) (w : World) : Calls Try.prog 82 #[.int .i64 5, .int .i64 x] w fun e w' => ∃ y : Int, y ≤ 5 ∧ -9223372036854775808 ≤ y ∧ e = .returned (.int .i64 y) ∧ w = w' := by
  by_cases h : x < 5
  · go_enter Try.func82, Try.ntmps82
    go_wp2
    go_ret
    exact ⟨x, by omega, hx.1, rfl, rfl⟩
  · go_enter Try.func82, Try.ntmps82
    go_wp2
    go_ret
    exact ⟨5, by omega, by omega, rfl, rfl⟩
set_option maxHeartbeats 8000000 in
set_option maxRecDepth 100000 in
theorem drawV_any (b : Nat) (a : Option Addr) (n c : Nat) (f : Option Addr) (fn fc : Nat) (l : List Fd) (w : World) (hc : Curs w b a n c) (hl : Fds w f fn l) (hfm : FM l) (hn : fn ≤ 7) (hne : ∀ ad, f = some ad → ad.block ≠ b) :
    Calls Try.prog 75 #[.pointer (some ⟨b, 0, none⟩), .slice f fn fc] w fun e w' => ∃ (ao : Option Addr) (co : Nat) (v : List Vl), e = .returned (.slice ao fn co) ∧ OwnV 66 3 w' w.heap.size ao fn co v ∧ Vok 5 v ∧ Drawn b a n c w w' := by
  have HC := Lib.hid hc
  have HL := Lib.hid hl
  have HFM := Lib.hid hfm
  have HNE := Lib.hid hne
  clear hc hl hfm hne
  obtain ⟨i0, hi, hz0, hz1, hz2⟩ := info_parts infoValueS
  have HI := Lib.hid (And.intro hi (And.intro hz0 (And.intro hz1 hz2)))
  clear hi hz0 hz1 hz2
  obtain ⟨i1, hi, hz0, hz1, hz2⟩ := info_parts infoIntS
  have HJ := Lib.hid (And.intro hi (And.intro hz0 (And.intro hz1 hz2)))
  clear hi hz0 hz1 hz2
  go_enter Try.func75, Try.ntmps75
  go_wp2_with fail
  go_loopw [5, 6] (fun s i wr => ∃ (j : Nat) (ao : Option Addr) (co : Nat) (v : List Vl), j ≤ fn ∧ i = .int .i64 j ∧ s = .slice ao j co ∧ OwnV 66 3 wr w.heap.size ao j co v ∧ Vok 5 v ∧ Drawn b a n c w wr) (fun _ i _ => fn - (intOf i).toNat)
  case atStart => exact ⟨0, _, 0, [], Nat.zero_le _, rfl, rfl, OwnV.empty (Nat.le_refl _), (fun x hx => by cases hx), (Drawn.refl HC.out).same (alloc_same _ _)⟩
  case round =>
    obtain ⟨j, ao, co, v, hj, rfl, rfl, ho, hv, hd⟩ := hrel
    have HV := Lib.hid hv
    have hsz := hd.2.size
    have HG1 := Lib.hid (Box.new HC.out hd ho)
    have HO := Lib.hid ho
    have HD := Lib.hid hd
    clear ho hv hd
    by_cases hlt : j < fn
    · obtain ⟨bf, of, ⟨xk, xm, xt, xi⟩, rfl, hx, q0, q1, q2, q3⟩ := fds_at HL.out hlt
      dsimp only at q0 q1
      have hx2 : I64 xm := HFM.out _ (List.mem_of_getElem? hx)
      have hnb : bf ≠ b := HNE.out _ rfl
      have Q0 := Lib.hid q0
      have Q1 := Lib.hid q1
      clear hx q0 q1 q2 q3
      have hltI : (j : Int) < (fn : Int) := by omega
      cases ht : isThere l v j with
      | true =>
        have HT := Lib.hid ht
        clear ht
        go_wp2_with fail
        refine (told_bool HT.out (specIsThere_any _ fn fc l ao j co v j _ (HL.out.only HG1.out.dr.2 HNE.out) HG1.out.val.ownV.vals (by omega) (by omega))).mono ?_
        rintro e w2 ⟨rfl, hb2⟩
        have HG2 := Lib.hid (HG1.out.same hb2)
        clear hb2
        generalize wr.heap.size = g at *
        have hge := HG2.out.ge
        by_cases hk : xk = 1
        · have bk : (xk == 1) = true := by simpa using hk
          have bk2 : (xk != 1) = false := by simpa using hk
          have e0 := HG2.out.cell Q0.out hnb
          have e1 := HG2.out.cell Q1.out hnb
          clear hk
          go_wp2_with fail
          refine (belowAny b a n c _ (by first | exact (i64_wrap _).2 | omega) _ HG2.out.dr.1).mono ?_
          rintro e w3 ⟨x, hx0, hx1, _, rfl, hd3⟩
          have HG3 := Lib.hid (HG2.out.only hd3)
          have c0 := (block_cell HG3.out.box 0).trans rfl
          have f0 := block_frozen HG3.out.box 0
          have HG4 := Lib.hid (HG3.out.num x)
          have HKK : Hid (I64 x) := Lib.hid ⟨by omega, hx1⟩
          clear e0 e1 hd3
          have e1 := HG4.out.cell Q1.out hnb
          go_wp2_with fail
          refine (min_any xm hx2 _).mono ?_
          rintro e w' ⟨y5, hy5, hy6, rfl, rfl⟩
          clear c0 f0
          go_wp2_with fail
          clear e1
          refine (belowAny b a n c _ (by omega) _ HG4.out.dr.1).mono ?_
          rintro e w6 ⟨k0, k00, _, k01, rfl, hd6⟩
          have HG6 := Lib.hid (HG4.out.only hd6)
          clear hd6
          obtain ⟨q0, rfl⟩ : ∃ q0 : Nat, k0 = q0 := ⟨k0.toNat, by omega⟩
          have hq05 : q0 ≤ 5 := by omega
          clear k01
          go_wp2_with fail
          go_loopw [8] (fun s wi => ∃ (q : Nat) (p : Option Addr) (m d : Nat) (y : List Int), s = .int .i64 q ∧ q + m ≤ 5 ∧ (∀ z ∈ y, I64 z) ∧ Box b a n c w g x p m d y ao j co v wi) (fun s _ => (intOf s).toNat)
          case atStart => exact ⟨q0, none, 0, 0, [], rfl, by omega, (fun z hz => by cases hz), HG6.out⟩
          case round =>
            obtain ⟨q, p, m, d, y, rfl, hqm, hy, hG⟩ := hrel
            have HG := Lib.hid hG
            have HY := Lib.hid hy
            clear hG hy
            by_cases hq : 0 < q
            · have hq3 : decide ((0 : Int) < (q : Int)) = true := decide_eq_true (by omega)
              have hq4 : (0 : Int) < (q : Int) := by omega
              go_wp2_with fail
              refine (told_bool HT.out (specIsThere_any _ fn fc l ao j co v j _ (HL.out.only HG.out.dr.2 HNE.out) HG.out.val.ownV.vals (by omega) (by omega))).mono ?_
              rintro e wj ⟨rfl, hbj⟩
              have HGj := Lib.hid (HG.out.same hbj)
              clear hbj
              have e0 := HGj.out.cell Q0.out hnb
              have c0 := (block_cell HGj.out.box 0).trans rfl
              have c1 := (block_cell HGj.out.box 1).trans rfl
              have hge := HGj.out.ge
              have hsz9 := HGj.out.dr.2.size
              have HNN := Lib.hid (fun X => items_new Vh.enc_len X ⟨x, p, m, d⟩ 66)
              have hf : ∀ ad, p = some ad → g ≤ ad.block := fun ad e => by
                have := (HGj.out.own.span ad e).1
                omega
              have HFF := Lib.hid hf
              clear hf
              go_wp2_with (at_builtin; refine wpl_appV _ rfl (.tmp 72) (.tmp 74) 25 rfl 66 3 i0 (.agg #[.int .i64 0, .slice none 0 0]) 32 Try.underlying25 HI.out.1 HI.out.2.1 HI.out.2.2.1 HI.out.2.2.2 rfl rfl (HGj.out.val.same (alloc_same _ _)) rfl (HNN.out _) ((HGj.out.own.lower (by omega)).alloc _) HFF.out (by omega) ?c4 ?c5 ?_)
              case c4 => omega
              case c5 => simp; omega
              intro a5 c5 w5 ho5 hb5
              have HO5 := Lib.hid ho5
              have HD5 : Hid (Drawn b a n c w w5) := Lib.hid (HGj.out.dr.under HC.out (((alloc_same _ _).mono hsz9).trans hb5) (Nat.le_refl _))
              have HV5 := Lib.hid (HV.out.app HKK.out HY.out (by have := HGj.out.own.len; omega))
              clear ho5 hb5 c0 c1
              go_wp2_with fail
              go_roundw
              case rel => exact ⟨j + 1, a5, c5, _, by omega, by go_num, rfl, HO5.out, HV5.out, HD5.out⟩
              case measure => simp [intOf]; omega
            · obtain rfl : q = 0 := by omega
              have c0 := (block_cell HG.out.box 0).trans rfl
              have c1 := (block_cell HG.out.box 1).trans rfl
              have hge := HG.out.ge
              have hsz9 := HG.out.dr.2.size
              have HNN := Lib.hid (fun X => items_new Vh.enc_len X ⟨x, p, m, d⟩ 66)
              have hf : ∀ ad, p = some ad → g ≤ ad.block := fun ad e => by
                have := (HG.out.own.span ad e).1
                omega
              have HFF := Lib.hid hf
              clear hf
              go_wp2_with (at_builtin; refine wpl_appV _ rfl (.tmp 72) (.tmp 74) 25 rfl 66 3 i0 (.agg #[.int .i64 0, .slice none 0 0]) 32 Try.underlying25 HI.out.1 HI.out.2.1 HI.out.2.2.1 HI.out.2.2.2 rfl rfl (HG.out.val.same (alloc_same _ _)) rfl (HNN.out _) ((HG.out.own.lower (by omega)).alloc _) HFF.out (by omega) ?c4 ?c5 ?_)
              case c4 => omega
              case c5 => simp; omega
              intro a5 c5 w5 ho5 hb5
              have HO5 := Lib.hid ho5
              have HD5 : Hid (Drawn b a n c w w5) := Lib.hid (HG.out.dr.under HC.out (((alloc_same _ _).mono hsz9).trans hb5) (Nat.le_refl _))
              have HV5 := Lib.hid (HV.out.app HKK.out HY.out (by have := HG.out.own.len; omega))
              clear ho5 hb5 c0 c1
              go_wp2_with fail
              go_roundw
              case rel => exact ⟨j + 1, a5, c5, _, by omega, by go_num, rfl, HO5.out, HV5.out, HD5.out⟩
              case measure => simp [intOf]; omega
        · have bk : (xk == 1) = false := by simpa using hk
          have bk2 : (xk != 1) = true := by simpa using hk
          have e0 := HG2.out.cell Q0.out hnb
          have e1 := HG2.out.cell Q1.out hnb
          have HKK : Hid (I64 0) := Lib.hid ⟨by omega, by omega⟩
          clear hk
          go_wp2_with fail
          refine (min_any xm hx2 _).mono ?_
          rintro e w' ⟨y5, hy5, hy6, rfl, rfl⟩
          go_wp2_with fail
          clear e0 e1
          refine (belowAny b a n c _ (by omega) _ HG2.out.dr.1).mono ?_
          rintro e w6 ⟨k0, k00, _, k01, rfl, hd6⟩
          have HG6 := Lib.hid (HG2.out.only hd6)
          clear hd6
          obtain ⟨q0, rfl⟩ : ∃ q0 : Nat, k0 = q0 := ⟨k0.toNat, by omega⟩
          have hq05 : q0 ≤ 5 := by omega
          clear k01
          go_wp2_with fail
          go_loopw [8] (fun s wi => ∃ (q : Nat) (p : Option Addr) (m d : Nat) (y : List Int), s = .int .i64 q ∧ q + m ≤ 5 ∧ (∀ z ∈ y, I64 z) ∧ Box b a n c w g 0 p m d y ao j co v wi) (fun s _ => (intOf s).toNat)
          case atStart => exact ⟨q0, none, 0, 0, [], rfl, by omega, (fun z hz => by cases hz), HG6.out⟩
          case round =>
            obtain ⟨q, p, m, d, y, rfl, hqm, hy, hG⟩ := hrel
            have HG := Lib.hid hG
            have HY := Lib.hid hy
            clear hG hy
            by_cases hq : 0 < q
            · have hq3 : decide ((0 : Int) < (q : Int)) = true := decide_eq_true (by omega)
              have hq4 : (0 : Int) < (q : Int) := by omega
              go_wp2_with fail
              refine (told_bool HT.out (specIsThere_any _ fn fc l ao j co v j _ (HL.out.only HG.out.dr.2 HNE.out) HG.out.val.ownV.vals (by omega) (by omega))).mono ?_
              rintro e wj ⟨rfl, hbj⟩
              have HGj := Lib.hid (HG.out.same hbj)
              clear hbj
              have e0 := HGj.out.cell Q0.out hnb
              go_wp2_with fail
              clear e0
              have GS := Lib.hid (HGj.out.same (Below.refl _ wj).drew)
              refine wp_region_held_drew (S := fun _ => True) (by kernel_rfl) trivial (fun hHeld => ?_)
              refine wpAnyH_take (i := 0) (v := ?v1) (by simp only [List.getElem?_toArray, List.getElem?_cons_succ, List.getElem?_cons_zero]; rfl) (by kernel_rfl) (by kernel_rfl) (by kernel_rfl) (by exact fun _ _ _ h => h) (Or.inl ⟨by rfl, fun w9 hS9 => ?hy1⟩) hHeld ?rest1
              case hy1 =>
                clear hS9
                go_simp
                try with_reducible rfl
              try simp only [Act.put, List.setIfInBounds_toArray, List.set_cons_zero, List.set_cons_succ]
              refine wpAnyH_take (i := 2) (v := ?v2) (by simp only [List.getElem?_toArray, List.getElem?_cons_succ, List.getElem?_cons_zero]; rfl) (by kernel_rfl) (by kernel_rfl) (by kernel_rfl) (by exact fun _ _ _ h => h) (Or.inl ⟨by rfl, fun w9 hS9 => ?hy2⟩) hHeld ?rest2
              case hy2 =>
                clear hS9
                go_simp
                try with_reducible rfl
              try simp only [Act.put, List.setIfInBounds_toArray, List.set_cons_zero, List.set_cons_succ]
              refine wpAnyH_ready (rs := [1, 3]) (by kernel_rfl) (by simp) (AllReadyH.cons (by simp only [List.getElem?_toArray, List.getElem?_cons_succ, List.getElem?_cons_zero]; rfl) (fun K hK => ?_) (AllReadyH.cons (by simp only [List.getElem?_toArray, List.getElem?_cons_succ, List.getElem?_cons_zero]; rfl) (fun K hK => ?_) AllReadyH.nil))
              · skip
                have q1 := (block_cell GS.out.box 1).trans rfl
                go_simp
                refine hK.out _ _ trivial (fun hHeld => ?_)
                clear hK K
                try simp only [Act.put, List.setIfInBounds_toArray, List.set_cons_zero, List.set_cons_succ]
                refine wpAnyH_ready (rs := [3]) (by kernel_rfl) (by simp) (AllReadyH.cons (by simp only [List.getElem?_toArray, List.getElem?_cons_succ, List.getElem?_cons_zero]; rfl) (fun K hK => ?_) AllReadyH.nil)
                go_simp
                refine (below_any b a n c 100 (by omega) (by omega) _ GS.out.dr.1).mono ?_
                rintro e x1 ⟨z, hz0, hz1, rfl, hdz⟩
                have GA := Lib.hid (GS.out.only hdz)
                clear hdz
                go_wp2_with fail
                refine hK.out _ _ trivial (fun hHeld => ?_)
                clear hK K
                try simp only [Act.put, List.setIfInBounds_toArray, List.set_cons_zero, List.set_cons_succ]
                refine wpAnyH_ready (rs := [4]) (by kernel_rfl) (by simp) (AllReadyH.cons (by simp only [List.getElem?_toArray, List.getElem?_cons_succ, List.getElem?_cons_zero]; rfl) (fun K hK => ?_) AllReadyH.nil)
                have GB := Lib.hid (GA.out.same (alloc_same x1 (.cells #[.int .i64 z] 3)))
                have NB := Lib.hid (nums_new x1 .i64 z 3)
                go_simp
                refine hK.out _ _ trivial (fun hHeld => ?_)
                clear hK K
                try simp only [Act.put, List.setIfInBounds_toArray, List.set_cons_zero, List.set_cons_succ]
                refine wpAnyH_ready (rs := [5]) (by kernel_rfl) (by simp) (AllReadyH.cons (by simp only [List.getElem?_toArray, List.getElem?_cons_succ, List.getElem?_cons_zero]; rfl) (fun K hK => ?_) AllReadyH.nil)
                have hszb := GB.out.lt
                refine step_app3 _ (by rfl) (.tmp 66) (.tmp 69) 28 (by rfl) .i64 3 i1 (.int .i64 0) 8 Try.underlying28 HJ.out.1 HJ.out.2.1 HJ.out.2.2.1 HJ.out.2.2.2 rfl (by rfl) GB.out.own (by rfl) NB.out (by omega) (by omega) (by omega) (by omega) ?_
                intro p2 d2 x2 ho2 hg2 _
                have HK2 := Lib.hid (GB.out.kept hg2)
                have GC := Lib.hid (GB.out.items hg2 ho2)
                clear ho2 hg2
                refine hK.out _ _ trivial (fun hHeld => ?_)
                clear hK K
                try simp only [Act.put, List.setIfInBounds_toArray, List.set_cons_zero, List.set_cons_succ]
                refine wpAnyH_take (i := 6) (v := ?v3) (by simp only [List.getElem?_toArray, List.getElem?_cons_succ, List.getElem?_cons_zero]; rfl) (by kernel_rfl) (by kernel_rfl) (by kernel_rfl) (by exact fun _ _ _ h => h) (Or.inl ⟨by rfl, fun w9 hS9 => ?hy3⟩) hHeld ?rest3
                case hy3 =>
                  clear hS9
                  go_simp
                  try with_reducible rfl
                try simp only [Act.put, List.setIfInBounds_toArray, List.set_cons_zero, List.set_cons_succ]
                refine wpAnyH_ready (rs := [7]) (by kernel_rfl) (by simp) (AllReadyH.cons (by simp only [List.getElem?_toArray, List.getElem?_cons_succ, List.getElem?_cons_zero]; rfl) (fun K hK => ?_) AllReadyH.nil)
                have r1 := (block_cell HK2.out 1).trans rfl
                have r2 := block_frozen HK2.out 1
                go_simp
                refine hK.out _ _ trivial (fun hHeld => ?_)
                clear hK K
                try simp only [Act.put, List.setIfInBounds_toArray, List.set_cons_zero, List.set_cons_succ]
                refine wpAnyH_done (by kernel_rfl) ?_ _
                have HY2 : Hid (∀ u ∈ y ++ [z], I64 u) := Lib.hid (fun u hu => by
                  rcases List.mem_append.1 hu with e | e
                  · exact HY.out u e
                  · rw [List.mem_singleton.1 e]; exact ⟨by omega, by omega⟩)
                go_wp2_with fail
                go_roundw
                case rel => exact ⟨q - 1, p2, m + 1, d2, y ++ [z], by go_num, by omega, HY2.out, GC.out⟩
                case measure => simp [intOf]; omega
              · skip
                go_simp
                refine (below_any b a n c 100 (by omega) (by omega) _ GS.out.dr.1).mono ?_
                rintro e x1 ⟨z, hz0, hz1, rfl, hdz⟩
                have GA := Lib.hid (GS.out.only hdz)
                clear hdz
                go_wp2_with fail
                refine hK.out _ _ trivial (fun hHeld => ?_)
                clear hK K
                try simp only [Act.put, List.setIfInBounds_toArray, List.set_cons_zero, List.set_cons_succ]
                refine wpAnyH_ready (rs := [1, 4]) (by kernel_rfl) (by simp) (AllReadyH.cons (by simp only [List.getElem?_toArray, List.getElem?_cons_succ, List.getElem?_cons_zero]; rfl) (fun K hK => ?_) (AllReadyH.cons (by simp only [List.getElem?_toArray, List.getElem?_cons_succ, List.getElem?_cons_zero]; rfl) (fun K hK => ?_) AllReadyH.nil))
                · skip
                  have q1 := (block_cell GA.out.box 1).trans rfl
                  go_simp
                  refine hK.out _ _ trivial (fun hHeld => ?_)
                  clear hK K
                  try simp only [Act.put, List.setIfInBounds_toArray, List.set_cons_zero, List.set_cons_succ]
                  refine wpAnyH_ready (rs := [4]) (by kernel_rfl) (by simp) (AllReadyH.cons (by simp only [List.getElem?_toArray, List.getElem?_cons_succ, List.getElem?_cons_zero]; rfl) (fun K hK => ?_) AllReadyH.nil)
                  have GB := Lib.hid (GA.out.same (alloc_same x1 (.cells #[.int .i64 z] 3)))
                  have NB := Lib.hid (nums_new x1 .i64 z 3)
                  go_simp
                  refine hK.out _ _ trivial (fun hHeld => ?_)
                  clear hK K
                  try simp only [Act.put, List.setIfInBounds_toArray, List.set_cons_zero, List.set_cons_succ]
                  refine wpAnyH_ready (rs := [5]) (by kernel_rfl) (by simp) (AllReadyH.cons (by simp only [List.getElem?_toArray, List.getElem?_cons_succ, List.getElem?_cons_zero]; rfl) (fun K hK => ?_) AllReadyH.nil)
                  have hszb := GB.out.lt
                  refine step_app3 _ (by rfl) (.tmp 66) (.tmp 69) 28 (by rfl) .i64 3 i1 (.int .i64 0) 8 Try.underlying28 HJ.out.1 HJ.out.2.1 HJ.out.2.2.1 HJ.out.2.2.2 rfl (by rfl) GB.out.own (by rfl) NB.out (by omega) (by omega) (by omega) (by omega) ?_
                  intro p2 d2 x2 ho2 hg2 _
                  have HK2 := Lib.hid (GB.out.kept hg2)
                  have GC := Lib.hid (GB.out.items hg2 ho2)
                  clear ho2 hg2
                  refine hK.out _ _ trivial (fun hHeld => ?_)
                  clear hK K
                  try simp only [Act.put, List.setIfInBounds_toArray, List.set_cons_zero, List.set_cons_succ]
                  refine wpAnyH_take (i := 6) (v := ?v4) (by simp only [List.getElem?_toArray, List.getElem?_cons_succ, List.getElem?_cons_zero]; rfl) (by kernel_rfl) (by kernel_rfl) (by kernel_rfl) (by exact fun _ _ _ h => h) (Or.inl ⟨by rfl, fun w9 hS9 => ?hy4⟩) hHeld ?rest4
                  case hy4 =>
                    clear hS9
                    go_simp
                    try with_reducible rfl
                  try simp only [Act.put, List.setIfInBounds_toArray, List.set_cons_zero, List.set_cons_succ]
                  refine wpAnyH_ready (rs := [7]) (by kernel_rfl) (by simp) (AllReadyH.cons (by simp only [List.getElem?_toArray, List.getElem?_cons_succ, List.getElem?_cons_zero]; rfl) (fun K hK => ?_) AllReadyH.nil)
                  have r1 := (block_cell HK2.out 1).trans rfl
                  have r2 := block_frozen HK2.out 1
                  go_simp
                  refine hK.out _ _ trivial (fun hHeld => ?_)
                  clear hK K
                  try simp only [Act.put, List.setIfInBounds_toArray, List.set_cons_zero, List.set_cons_succ]
                  refine wpAnyH_done (by kernel_rfl) ?_ _
                  have HY2 : Hid (∀ u ∈ y ++ [z], I64 u) := Lib.hid (fun u hu => by
                    rcases List.mem_append.1 hu with e | e
                    · exact HY.out u e
                    · rw [List.mem_singleton.1 e]; exact ⟨by omega, by omega⟩)
                  go_wp2_with fail
                  go_roundw
                  case rel => exact ⟨q - 1, p2, m + 1, d2, y ++ [z], by go_num, by omega, HY2.out, GC.out⟩
                  case measure => simp [intOf]; omega
                · skip
                  have GB := Lib.hid (GA.out.same (alloc_same x1 (.cells #[.int .i64 z] 3)))
                  have NB := Lib.hid (nums_new x1 .i64 z 3)
                  go_simp
                  refine hK.out _ _ trivial (fun hHeld => ?_)
                  clear hK K
                  try simp only [Act.put, List.setIfInBounds_toArray, List.set_cons_zero, List.set_cons_succ]
                  refine wpAnyH_ready (rs := [1]) (by kernel_rfl) (by simp) (AllReadyH.cons (by simp only [List.getElem?_toArray, List.getElem?_cons_succ, List.getElem?_cons_zero]; rfl) (fun K hK => ?_) AllReadyH.nil)
                  have q1 := (block_cell GB.out.box 1).trans rfl
                  go_simp
                  refine hK.out _ _ trivial (fun hHeld => ?_)
                  clear hK K
                  try simp only [Act.put, List.setIfInBounds_toArray, List.set_cons_zero, List.set_cons_succ]
                  refine wpAnyH_ready (rs := [5]) (by kernel_rfl) (by simp) (AllReadyH.cons (by simp only [List.getElem?_toArray, List.getElem?_cons_succ, List.getElem?_cons_zero]; rfl) (fun K hK => ?_) AllReadyH.nil)
                  have hszb := GB.out.lt
                  refine step_app3 _ (by rfl) (.tmp 66) (.tmp 69) 28 (by rfl) .i64 3 i1 (.int .i64 0) 8 Try.underlying28 HJ.out.1 HJ.out.2.1 HJ.out.2.2.1 HJ.out.2.2.2 rfl (by rfl) GB.out.own (by rfl) NB.out (by omega) (by omega) (by omega) (by omega) ?_
                  intro p2 d2 x2 ho2 hg2 _
                  have HK2 := Lib.hid (GB.out.kept hg2)
                  have GC := Lib.hid (GB.out.items hg2 ho2)
                  clear ho2 hg2
                  refine hK.out _ _ trivial (fun hHeld => ?_)
                  clear hK K
                  try simp only [Act.put, List.setIfInBounds_toArray, List.set_cons_zero, List.set_cons_succ]
                  refine wpAnyH_take (i := 6) (v := ?v5) (by simp only [List.getElem?_toArray, List.getElem?_cons_succ, List.getElem?_cons_zero]; rfl) (by kernel_rfl) (by kernel_rfl) (by kernel_rfl) (by exact fun _ _ _ h => h) (Or.inl ⟨by rfl, fun w9 hS9 => ?hy5⟩) hHeld ?rest5
                  case hy5 =>
                    clear hS9
                    go_simp
                    try with_reducible rfl
                  try simp only [Act.put, List.setIfInBounds_toArray, List.set_cons_zero, List.set_cons_succ]
                  refine wpAnyH_ready (rs := [7]) (by kernel_rfl) (by simp) (AllReadyH.cons (by simp only [List.getElem?_toArray, List.getElem?_cons_succ, List.getElem?_cons_zero]; rfl) (fun K hK => ?_) AllReadyH.nil)
                  have r1 := (block_cell HK2.out 1).trans rfl
                  have r2 := block_frozen HK2.out 1
                  go_simp
                  refine hK.out _ _ trivial (fun hHeld => ?_)
                  clear hK K
                  try simp only [Act.put, List.setIfInBounds_toArray, List.set_cons_zero, List.set_cons_succ]
                  refine wpAnyH_done (by kernel_rfl) ?_ _
                  have HY2 : Hid (∀ u ∈ y ++ [z], I64 u) := Lib.hid (fun u hu => by
                    rcases List.mem_append.1 hu with e | e
                    · exact HY.out u e
                    · rw [List.mem_singleton.1 e]; exact ⟨by omega, by omega⟩)
                  go_wp2_with fail
                  go_roundw
                  case rel => exact ⟨q - 1, p2, m + 1, d2, y ++ [z], by go_num, by omega, HY2.out, GC.out⟩
                  case measure => simp [intOf]; omega
            · obtain rfl : q = 0 := by omega
              have c0 := (block_cell HG.out.box 0).trans rfl
              have c1 := (block_cell HG.out.box 1).trans rfl
              have hge := HG.out.ge
              have hsz9 := HG.out.dr.2.size
              have HNN := Lib.hid (fun X => items_new Vh.enc_len X ⟨0, p, m, d⟩ 66)
              have hf : ∀ ad, p = some ad → g ≤ ad.block := fun ad e => by
                have := (HG.out.own.span ad e).1
                omega
              have HFF := Lib.hid hf
              clear hf
              go_wp2_with (at_builtin; refine wpl_appV _ rfl (.tmp 72) (.tmp 74) 25 rfl 66 3 i0 (.agg #[.int .i64 0, .slice none 0 0]) 32 Try.underlying25 HI.out.1 HI.out.2.1 HI.out.2.2.1 HI.out.2.2.2 rfl rfl (HG.out.val.same (alloc_same _ _)) rfl (HNN.out _) ((HG.out.own.lower (by omega)).alloc _) HFF.out (by omega) ?c4 ?c5 ?_)
              case c4 => omega
              case c5 => simp; omega
              intro a5 c5 w5 ho5 hb5
              have HO5 := Lib.hid ho5
              have HD5 : Hid (Drawn b a n c w w5) := Lib.hid (HG.out.dr.under HC.out (((alloc_same _ _).mono hsz9).trans hb5) (Nat.le_refl _))
              have HV5 := Lib.hid (HV.out.app HKK.out HY.out (by have := HG.out.own.len; omega))
              clear ho5 hb5 c0 c1
              go_wp2_with fail
              go_roundw
              case rel => exact ⟨j + 1, a5, c5, _, by omega, by go_num, rfl, HO5.out, HV5.out, HD5.out⟩
              case measure => simp [intOf]; omega
      | false =>
        have HT := Lib.hid ht
        clear ht
        go_wp2_with fail
        refine (told_bool HT.out (specIsThere_any _ fn fc l ao j co v j _ (HL.out.only HG1.out.dr.2 HNE.out) HG1.out.val.ownV.vals (by omega) (by omega))).mono ?_
        rintro e w2 ⟨rfl, hb2⟩
        have HG2 := Lib.hid (HG1.out.same hb2)
        clear hb2
        generalize wr.heap.size = g at *
        have hge := HG2.out.ge
        have e1 := HG2.out.cell Q1.out hnb
        have HKK : Hid (I64 0) := Lib.hid ⟨by omega, by omega⟩
        go_wp2_with fail
        refine (min_any xm hx2 _).mono ?_
        rintro e w' ⟨y5, hy5, hy6, rfl, rfl⟩
        go_wp2_with fail
        clear e1
        refine (belowAny b a n c _ (by omega) _ HG2.out.dr.1).mono ?_
        rintro e w6 ⟨k0, k00, _, k01, rfl, hd6⟩
        have HG6 := Lib.hid (HG2.out.only hd6)
        clear hd6
        obtain ⟨q0, rfl⟩ : ∃ q0 : Nat, k0 = q0 := ⟨k0.toNat, by omega⟩
        have hq05 : q0 ≤ 5 := by omega
        clear k01
        go_wp2_with fail
        go_loopw [8] (fun s wi => ∃ (q : Nat) (p : Option Addr) (m d : Nat) (y : List Int), s = .int .i64 q ∧ q + m ≤ 5 ∧ (∀ z ∈ y, I64 z) ∧ Box b a n c w g 0 p m d y ao j co v wi) (fun s _ => (intOf s).toNat)
        case atStart => exact ⟨q0, none, 0, 0, [], rfl, by omega, (fun z hz => by cases hz), HG6.out⟩
        case round =>
          obtain ⟨q, p, m, d, y, rfl, hqm, hy, hG⟩ := hrel
          have HG := Lib.hid hG
          have HY := Lib.hid hy
          clear hG hy
          by_cases hq : 0 < q
          · have hq3 : decide ((0 : Int) < (q : Int)) = true := decide_eq_true (by omega)
            have hq4 : (0 : Int) < (q : Int) := by omega
            go_wp2_with fail
            refine (told_bool HT.out (specIsThere_any _ fn fc l ao j co v j _ (HL.out.only HG.out.dr.2 HNE.out) HG.out.val.ownV.vals (by omega) (by omega))).mono ?_
            rintro e wj ⟨rfl, hbj⟩
            have HGj := Lib.hid (HG.out.same hbj)
            clear hbj
            have c0 := (block_cell HGj.out.box 0).trans rfl
            have c1 := (block_cell HGj.out.box 1).trans rfl
            have hge := HGj.out.ge
            have hsz9 := HGj.out.dr.2.size
            have HNN := Lib.hid (fun X => items_new Vh.enc_len X ⟨0, p, m, d⟩ 66)
            have hf : ∀ ad, p = some ad → g ≤ ad.block := fun ad e => by
              have := (HGj.out.own.span ad e).1
              omega
            have HFF := Lib.hid hf
            clear hf
            go_wp2_with (at_builtin; refine wpl_appV _ rfl (.tmp 72) (.tmp 74) 25 rfl 66 3 i0 (.agg #[.int .i64 0, .slice none 0 0]) 32 Try.underlying25 HI.out.1 HI.out.2.1 HI.out.2.2.1 HI.out.2.2.2 rfl rfl (HGj.out.val.same (alloc_same _ _)) rfl (HNN.out _) ((HGj.out.own.lower (by omega)).alloc _) HFF.out (by omega) ?c4 ?c5 ?_)
            case c4 => omega
            case c5 => simp; omega
            intro a5 c5 w5 ho5 hb5
            have HO5 := Lib.hid ho5
            have HD5 : Hid (Drawn b a n c w w5) := Lib.hid (HGj.out.dr.under HC.out (((alloc_same _ _).mono hsz9).trans hb5) (Nat.le_refl _))
            have HV5 := Lib.hid (HV.out.app HKK.out HY.out (by have := HGj.out.own.len; omega))
            clear ho5 hb5 c0 c1
            go_wp2_with fail
            go_roundw
            case rel => exact ⟨j + 1, a5, c5, _, by omega, by go_num, rfl, HO5.out, HV5.out, HD5.out⟩
            case measure => simp [intOf]; omega
          · obtain rfl : q = 0 := by omega
            have c0 := (block_cell HG.out.box 0).trans rfl
            have c1 := (block_cell HG.out.box 1).trans rfl
            have hge := HG.out.ge
            have hsz9 := HG.out.dr.2.size
            have HNN := Lib.hid (fun X => items_new Vh.enc_len X ⟨0, p, m, d⟩ 66)
            have hf : ∀ ad, p = some ad → g ≤ ad.block := fun ad e => by
              have := (HG.out.own.span ad e).1
              omega
            have HFF := Lib.hid hf
            clear hf
            go_wp2_with (at_builtin; refine wpl_appV _ rfl (.tmp 72) (.tmp 74) 25 rfl 66 3 i0 (.agg #[.int .i64 0, .slice none 0 0]) 32 Try.underlying25 HI.out.1 HI.out.2.1 HI.out.2.2.1 HI.out.2.2.2 rfl rfl (HG.out.val.same (alloc_same _ _)) rfl (HNN.out _) ((HG.out.own.lower (by omega)).alloc _) HFF.out (by omega) ?c4 ?c5 ?_)
            case c4 => omega
            case c5 => simp; omega
            intro a5 c5 w5 ho5 hb5
            have HO5 := Lib.hid ho5
            have HD5 : Hid (Drawn b a n c w w5) := Lib.hid (HG.out.dr.under HC.out (((alloc_same _ _).mono hsz9).trans hb5) (Nat.le_refl _))
            have HV5 := Lib.hid (HV.out.app HKK.out HY.out (by have := HG.out.own.len; omega))
            clear ho5 hb5 c0 c1
            go_wp2_with fail
            go_roundw
            case rel => exact ⟨j + 1, a5, c5, _, by omega, by go_num, rfl, HO5.out, HV5.out, HD5.out⟩
            case measure => simp [intOf]; omega
    · obtain rfl : j = fn := by omega
      go_wp2_with fail
      go_ret
      exact ⟨_, _, _, rfl, HO.out, HV.out, HD.out⟩
end Go.Proofs.Ytpbdfbpcjeajbaa
