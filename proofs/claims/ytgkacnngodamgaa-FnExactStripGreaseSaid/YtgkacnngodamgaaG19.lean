/- An extension with a reserved tag added: by the model. Extensions without reserved tags, reserved tags in lists, by the model. Out of: The extensions whose tag is in a list: by the model. -/
import Derived.Test.YtgkacnngodamgaaG18
import Derived.Test.YtgkacnngodamgaaG16
import Derived.Test.YtgkacnngodamgaaG10
import Derived.Test.YtgkacnngodamgaaG9
import Derived.Deep.RegionHeld3
import Derived.Test.YtgkacnngodamgaaG15
namespace Go.Proofs.Ytgkacnngodamgaa
open Go.ChangeShapes Go.WideShapes Go.ChangeAt Go.RowKit
set_option linter.unusedVariables false
set_option linter.unusedSimpArgs false

/-- An extension under way: its tag and its bytes so far; below it the world is as it was. -/
structure Bx (w0 : World) (b : Nat) (t : Int) (wr : World) (q : Option Addr) (r e : Nat) (y : List Int) : Prop where
  box : wr.heap[b]? = some (.cells #[.int .i64 t, .slice q r e] 57 (0, 0))
  own : Own .i64 3 wr (b + 1) q r e y
  far : Below b w0 wr
theorem Bx.lt {w0 wr : World} {b r e : Nat} {t : Int} {q : Option Addr} {y : List Int} (h : Bx w0 b t wr q r e y) : b < wr.heap.size := by
  have h := h.box
  rcases Nat.lt_or_ge b wr.heap.size with g | g
  · exact g
  · rw [Array.getElem?_eq_none g] at h; cases h
theorem Bx.same {w0 wr w' : World} {b r e : Nat} {t : Int} {q : Option Addr} {y : List Int} (h : Bx w0 b t wr q r e y) (hb : Below wr.heap.size wr w') : Bx w0 b t w' q r e y :=
  ⟨(hb.block b h.lt).trans h.box, h.own.same hb, h.far.trans (hb.mono (Nat.le_of_lt h.lt))⟩
theorem Bx.put {w0 wr w' : World} {b r e m d : Nat} {t : Int} {q p : Option Addr} {y z : List Int} (h : Bx w0 b t wr q r e y) (hg : wr.grownBy w' (Value.ownBlock (.slice q r e))) (ho : Own .i64 3 w' (b + 1) p m d z) :
    w'.heap[b]? = some (.cells #[.int .i64 t, .slice q r e] 57 (0, 0)) ∧ Bx w0 b t (w'.setCell ⟨b, 1, none⟩ (.slice p m d)) p m d z := by
  have hl := h.lt
  have hsp := h.own.span
  have hr : ∀ k, Value.ownBlock (.slice q r e) = some k → b + 1 ≤ k := fun k hk => by
    cases q with
    | none => simp [Value.ownBlock] at hk
    | some ad =>
      have := (hsp ad rfl).1
      simp only [Value.ownBlock, Option.some.injEq] at hk
      omega
  have hbox : w'.heap[b]? = some (.cells #[.int .i64 t, .slice q r e] 57 (0, 0)) := (hg.block b hl (fun e9 => by have := hr b e9.symm; omega)).trans h.box
  refine ⟨hbox, heap_setCell_same w' b 1 _ _ _ hbox, ho.set (fun ad e9 => by have := (ho.span ad e9).1; omega) 1 _, ?_⟩
  exact (h.far.grown hg (by omega) (fun k hk => by have := hr k hk; omega)).setCell (by dsimp only; omega) _
set_option maxHeartbeats 8000000 in
set_option maxRecDepth 100000 in
theorem specAddGrease_any {a : Option Addr} {n c : Nat} {l : List Vl} (s : Int) (hs : Fit64 s) {w : World} (h : Vals w a n l) (hn : n ≤ 1048576) (hit : itemsOf l ≤ 1048576) :
    Calls Try.prog 39 #[.slice a n c, .int .i64 s] w (MadeV 57 3 w.heap.size (addX l s) w) := by
  have H := Lib.hid h
  have hln := h.len
  obtain ⟨i0, hi, hz0, hz1, hz2⟩ := info_parts infoExtS
  have HI := Lib.hid (And.intro hi (And.intro hz0 (And.intro hz1 hz2)))
  obtain ⟨i1, ki, kz0, kz1, kz2⟩ := info_parts infoIntS
  have HJ := Lib.hid (And.intro ki (And.intro kz0 (And.intro kz1 kz2)))
  clear h hi hz0 hz1 hz2 ki kz0 kz1 kz2
  go_enter Try.func39, Try.ntmps39
  go_wp2_with fail
  refine (specGreaseTag_any s hs w).mono ?_
  rintro e w1 ⟨rfl, hb1⟩
  have HB1 := Lib.hid hb1
  have hs1 := hb1.size
  clear hb1
  go_wp2_with fail
  refine (specCopy_any (c := c) (H.out.same HB1.out) hn hit).mono ?_
  rintro e w2 ⟨g, d, rfl, ho, hb2⟩
  have HB2 : Hid (Below w.heap.size w w2) := Lib.hid (HB1.out.trans (hb2.mono hs1))
  have HO2 : Hid (OwnV 57 3 w2 w.heap.size (some ⟨g, 0, none⟩) n d l) := Lib.hid (ho.lower hs1)
  have hs2 := HB2.out.size
  clear hb2 ho
  go_wp2_with fail
  have HE := Lib.hid (specAreExts_any (c := c) (H.out.same HB2.out))
  cases ha : areX l with
  | false =>
    have hw : addX l s = l := by unfold addX wantG; rw [ha]; rfl
    have HA := Lib.hid hw
    rw [ha] at HE
    clear hw
    refine HE.out.mono ?_
    rintro e w3 ⟨rfl, rfl⟩
    go_wp2_with fail
    go_ret
    exact ⟨_, _, _, rfl, by rw [HA.out]; exact HO2.out, HB2.out⟩
  | true =>
    rw [ha] at HE
    refine HE.out.mono ?_
    rintro e w3 ⟨rfl, rfl⟩
    by_cases h6 : n < 6
    · have hq6 : decide ((6 : Int) ≤ (n : Int)) = false := decide_eq_false (by omega)
      have hq6' : ¬ (6 : Int) ≤ (n : Int) := by omega
      have hq6'' : ¬ 6 ≤ n := by omega
      have HX := Lib.hid (specExtOf_any (c := c) (tagG s) (H.out.same HB2.out))
      by_cases hm : tagG s ∈ tagsX l
      · have hw : addX l s = l := by unfold addX wantG; rw [decide_eq_false (show ¬ ¬ tagG s ∈ tagsX l from fun h => h hm), Bool.and_false]; rfl
        have HA := Lib.hid hw
        rw [extOf_yes hm] at HX
        generalize (tagsX l).idxOf (tagG s) = x at HX
        have hx0 : (0 : Int) ≤ (x : Int) := by omega
        clear hw
        go_wp2_with fail
        refine HX.out.mono ?_
        rintro e w4 ⟨rfl, rfl⟩
        go_wp2_with fail
        go_ret
        exact ⟨_, _, _, rfl, by rw [HA.out]; exact HO2.out, HB2.out⟩
      · rw [extOf_no hm] at HX
        have hw : wantG l s = true := wantG_parts.2 ⟨ha, by omega, hm⟩
        have HA : Hid (addX l s = l.take (placeG l s) ++ ⟨tagG s, List.replicate (sizeG s) (pickOf s 3 256)⟩ :: l.drop (placeG l s)) := Lib.hid (by unfold addX; rw [hw]; rfl)
        have hzi := sizeG_int s
        have hki := placeG_int l s
        rw [hln] at hki
        have hk := placeG_le l s
        have hz2 := sizeG_few s
        clear hw ha hm
        go_wp2_with fail
        refine HX.out.mono ?_
        rintro e w4 ⟨rfl, rfl⟩
        go_wp2_with fail
        have HP : Hid (∀ W, Calls Try.prog 76 #[.int .i64 s, .int .i64 2, .int .i64 3] W (Told (.int .i64 (sizeG s : Nat)) W)) := Lib.hid (fun W => by rw [hzi]; exact specPickOf_any s 2 3 W hs (fit_mk (by omega) (by omega)) (fit_mk (by omega) (by omega)))
        have HF : Hid (∀ W, Calls Try.prog 76 #[.int .i64 s, .int .i64 3, .int .i64 256] W (Told (.int .i64 (pickOf s 3 256)) W)) := Lib.hid (fun W => specPickOf_any s 3 256 W hs (fit_mk (by omega) (by omega)) (fit_mk (by omega) (by omega)))
        have HK : Hid (∀ W, Calls Try.prog 76 #[.int .i64 s, .int .i64 1, .int .i64 ((n : Int) + 1)] W (Told (.int .i64 (placeG l s : Nat)) W)) := Lib.hid (fun W => by
          rw [hki, show ((n + 1 : Nat) : Int) = (n : Int) + 1 by omega]
          exact specPickOf_any s 1 ((n : Int) + 1) W hs (fit_mk (by omega) (by omega)) (fit_mk (by omega) (by omega)))
        have hM : (w2.alloc (.cells #[.int .i64 (tagG s), .slice none 0 0] 57)).heap[w2.heap.size]? = some (.cells #[.int .i64 (tagG s), .slice none 0 0] 57 (0, 0)) := heap_alloc_new w2 _
        have HG0 : Hid (Bx w2 w2.heap.size (tagG s) (w2.alloc (.cells #[.int .i64 (tagG s), .slice none 0 0] 57)) none 0 0 []) := Lib.hid ⟨hM, Own.nil, alloc_same w2 _⟩
        clear hM hzi hki
        obtain ⟨b, hbe⟩ : ∃ b, w2.heap.size = b := ⟨_, rfl⟩
        rw [hbe] at HG0
        generalize w2.alloc (.cells #[.int .i64 (tagG s), .slice none 0 0] 57) = w3 at *
        rw [hbe]
        generalize tagG s = t at *
        generalize placeG l s = k at *
        generalize sizeG s = z at *
        generalize pickOf s 3 256 = x at *
        refine (HP.out _).mono ?_
        rintro e w5 ⟨rfl, hb5⟩
        have HG5 := Lib.hid (HG0.out.same hb5)
        clear hb5
        go_wp2_with fail
        go_loopw [8] (fun v wr => ∃ (j r e : Nat) (q : Option Addr), v = .int .i64 j ∧ r + j = z ∧ Bx w2 b t wr q r e (List.replicate r x)) (fun v _ => (intOf v).toNat)
        case atStart => exact ⟨z, 0, 0, none, rfl, by omega, HG5.out⟩
        case round =>
          obtain ⟨j, r, e, q, rfl, hrj, hG⟩ := hrel
          have HG := Lib.hid hG
          clear hG
          by_cases hj : 0 < j
          · have hjz : (0 : Int) < (j : Int) := by omega
            go_wp2_with fail
            have GS := Lib.hid (HG.out.same (Below.refl _ wr).drew)
            refine wp_region_held_drew (S := fun _ => True) (by kernel_rfl) trivial (fun hHeld => ?_)
            refine wpAnyH_take (i := 0) (v := ?v1) (by simp only [List.getElem?_toArray, List.getElem?_cons_succ, List.getElem?_cons_zero]; rfl) (by kernel_rfl) (by kernel_rfl) (by kernel_rfl) (by exact fun _ _ _ h => h) (Or.inl ⟨by rfl, fun w9 hS9 => ?hy1⟩) hHeld ?rest1
            case hy1 =>
              clear hS9
              go_simp
              try with_reducible rfl
            try simp only [Act.put, List.setIfInBounds_toArray, List.set_cons_zero, List.set_cons_succ]
            refine wpAnyH_take (i := 2) (v := ?v2) (by simp only [List.getElem?_toArray, List.getElem?_cons_succ, List.getElem?_cons_zero]; rfl) (by kernel_rfl) (by kernel_rfl) (by kernel_rfl) (by exact fun _ _ _ h => h) (Or.inl ⟨by rfl, fun w9 hS9 => ?hy2⟩) hHeld ?rest2
            case hy2 =>
              clear hS9
              go_simp
              try with_reducible rfl
            try simp only [Act.put, List.setIfInBounds_toArray, List.set_cons_zero, List.set_cons_succ]
            refine wpAnyH_ready (rs := [1, 3]) (by kernel_rfl) (by simp) (AllReadyH.cons (by simp only [List.getElem?_toArray, List.getElem?_cons_succ, List.getElem?_cons_zero]; rfl) (fun K hK => ?_) (AllReadyH.cons (by simp only [List.getElem?_toArray, List.getElem?_cons_succ, List.getElem?_cons_zero]; rfl) (fun K hK => ?_) AllReadyH.nil))
            · skip
              have q1 := (block_cell GS.out.box 1).trans rfl
              go_simp
              refine hK.out _ _ trivial (fun hHeld => ?_)
              clear hK K
              try simp only [Act.put, List.setIfInBounds_toArray, List.set_cons_zero, List.set_cons_succ]
              refine wpAnyH_ready (rs := [3]) (by kernel_rfl) (by simp) (AllReadyH.cons (by simp only [List.getElem?_toArray, List.getElem?_cons_succ, List.getElem?_cons_zero]; rfl) (fun K hK => ?_) AllReadyH.nil)
              go_simp
              refine (HF.out _).mono ?_
              rintro e9 x1 ⟨rfl, hdz⟩
              have GA := Lib.hid (GS.out.same hdz)
              clear hdz
              go_wp2_with fail
              refine hK.out _ _ trivial (fun hHeld => ?_)
              clear hK K
              try simp only [Act.put, List.setIfInBounds_toArray, List.set_cons_zero, List.set_cons_succ]
              refine wpAnyH_ready (rs := [4]) (by kernel_rfl) (by simp) (AllReadyH.cons (by simp only [List.getElem?_toArray, List.getElem?_cons_succ, List.getElem?_cons_zero]; rfl) (fun K hK => ?_) AllReadyH.nil)
              have GB := Lib.hid (GA.out.same (alloc_same x1 (.cells #[.int .i64 x] 3)))
              have NB := Lib.hid (nums_new x1 .i64 x 3)
              go_simp
              refine hK.out _ _ trivial (fun hHeld => ?_)
              clear hK K
              try simp only [Act.put, List.setIfInBounds_toArray, List.set_cons_zero, List.set_cons_succ]
              refine wpAnyH_ready (rs := [5]) (by kernel_rfl) (by simp) (AllReadyH.cons (by simp only [List.getElem?_toArray, List.getElem?_cons_succ, List.getElem?_cons_zero]; rfl) (fun K hK => ?_) AllReadyH.nil)
              have hszb := GB.out.lt
              refine step_app_g _ (by rfl) (.tmp 38) (.tmp 41) 26 (by rfl) .i64 3 i1 (.int .i64 0) 8 Try.underlying26 HJ.out.1 HJ.out.2.1 HJ.out.2.2.1 HJ.out.2.2.2 rfl (by rfl) GB.out.own (by rfl) NB.out (by omega) (by omega) (by omega) ?_
              intro p2 d2 x2 ho2 hg2 _
              have HK2 := Lib.hid (GB.out.put hg2 ho2).1
              have GC := Lib.hid (GB.out.put hg2 ho2).2
              clear ho2 hg2
              refine hK.out _ _ trivial (fun hHeld => ?_)
              clear hK K
              try simp only [Act.put, List.setIfInBounds_toArray, List.set_cons_zero, List.set_cons_succ]
              refine wpAnyH_take (i := 6) (v := ?v3) (by simp only [List.getElem?_toArray, List.getElem?_cons_succ, List.getElem?_cons_zero]; rfl) (by kernel_rfl) (by kernel_rfl) (by kernel_rfl) (by exact fun _ _ _ h => h) (Or.inl ⟨by rfl, fun w9 hS9 => ?hy3⟩) hHeld ?rest3
              case hy3 =>
                clear hS9
                go_simp
                try with_reducible rfl
              try simp only [Act.put, List.setIfInBounds_toArray, List.set_cons_zero, List.set_cons_succ]
              refine wpAnyH_ready (rs := [7]) (by kernel_rfl) (by simp) (AllReadyH.cons (by simp only [List.getElem?_toArray, List.getElem?_cons_succ, List.getElem?_cons_zero]; rfl) (fun K hK => ?_) AllReadyH.nil)
              have r1 := (block_cell HK2.out 1).trans rfl
              have r2 := block_frozen HK2.out 1
              go_simp
              refine hK.out _ _ trivial (fun hHeld => ?_)
              clear hK K
              try simp only [Act.put, List.setIfInBounds_toArray, List.set_cons_zero, List.set_cons_succ]
              refine wpAnyH_done (by kernel_rfl) ?_ _
              have GD : Hid (Bx w2 b t (x2.setCell ⟨b, 1, none⟩ (.slice p2 (r + 1) d2)) p2 (r + 1) d2 (List.replicate (r + 1) x)) := Lib.hid (by rw [List.replicate_succ']; exact GC.out)
              go_wp2_with fail
              go_roundw
              case rel => exact ⟨j - 1, r + 1, d2, p2, by go_num, by omega, GD.out⟩
              case measure => simp [intOf]; omega
            · skip
              go_simp
              refine (HF.out _).mono ?_
              rintro e9 x1 ⟨rfl, hdz⟩
              have GA := Lib.hid (GS.out.same hdz)
              clear hdz
              go_wp2_with fail
              refine hK.out _ _ trivial (fun hHeld => ?_)
              clear hK K
              try simp only [Act.put, List.setIfInBounds_toArray, List.set_cons_zero, List.set_cons_succ]
              refine wpAnyH_ready (rs := [1, 4]) (by kernel_rfl) (by simp) (AllReadyH.cons (by simp only [List.getElem?_toArray, List.getElem?_cons_succ, List.getElem?_cons_zero]; rfl) (fun K hK => ?_) (AllReadyH.cons (by simp only [List.getElem?_toArray, List.getElem?_cons_succ, List.getElem?_cons_zero]; rfl) (fun K hK => ?_) AllReadyH.nil))
              · skip
                have q1 := (block_cell GA.out.box 1).trans rfl
                go_simp
                refine hK.out _ _ trivial (fun hHeld => ?_)
                clear hK K
                try simp only [Act.put, List.setIfInBounds_toArray, List.set_cons_zero, List.set_cons_succ]
                refine wpAnyH_ready (rs := [4]) (by kernel_rfl) (by simp) (AllReadyH.cons (by simp only [List.getElem?_toArray, List.getElem?_cons_succ, List.getElem?_cons_zero]; rfl) (fun K hK => ?_) AllReadyH.nil)
                have GB := Lib.hid (GA.out.same (alloc_same x1 (.cells #[.int .i64 x] 3)))
                have NB := Lib.hid (nums_new x1 .i64 x 3)
                go_simp
                refine hK.out _ _ trivial (fun hHeld => ?_)
                clear hK K
                try simp only [Act.put, List.setIfInBounds_toArray, List.set_cons_zero, List.set_cons_succ]
                refine wpAnyH_ready (rs := [5]) (by kernel_rfl) (by simp) (AllReadyH.cons (by simp only [List.getElem?_toArray, List.getElem?_cons_succ, List.getElem?_cons_zero]; rfl) (fun K hK => ?_) AllReadyH.nil)
                have hszb := GB.out.lt
                refine step_app_g _ (by rfl) (.tmp 38) (.tmp 41) 26 (by rfl) .i64 3 i1 (.int .i64 0) 8 Try.underlying26 HJ.out.1 HJ.out.2.1 HJ.out.2.2.1 HJ.out.2.2.2 rfl (by rfl) GB.out.own (by rfl) NB.out (by omega) (by omega) (by omega) ?_
                intro p2 d2 x2 ho2 hg2 _
                have HK2 := Lib.hid (GB.out.put hg2 ho2).1
                have GC := Lib.hid (GB.out.put hg2 ho2).2
                clear ho2 hg2
                refine hK.out _ _ trivial (fun hHeld => ?_)
                clear hK K
                try simp only [Act.put, List.setIfInBounds_toArray, List.set_cons_zero, List.set_cons_succ]
                refine wpAnyH_take (i := 6) (v := ?v4) (by simp only [List.getElem?_toArray, List.getElem?_cons_succ, List.getElem?_cons_zero]; rfl) (by kernel_rfl) (by kernel_rfl) (by kernel_rfl) (by exact fun _ _ _ h => h) (Or.inl ⟨by rfl, fun w9 hS9 => ?hy4⟩) hHeld ?rest4
                case hy4 =>
                  clear hS9
                  go_simp
                  try with_reducible rfl
                try simp only [Act.put, List.setIfInBounds_toArray, List.set_cons_zero, List.set_cons_succ]
                refine wpAnyH_ready (rs := [7]) (by kernel_rfl) (by simp) (AllReadyH.cons (by simp only [List.getElem?_toArray, List.getElem?_cons_succ, List.getElem?_cons_zero]; rfl) (fun K hK => ?_) AllReadyH.nil)
                have r1 := (block_cell HK2.out 1).trans rfl
                have r2 := block_frozen HK2.out 1
                go_simp
                refine hK.out _ _ trivial (fun hHeld => ?_)
                clear hK K
                try simp only [Act.put, List.setIfInBounds_toArray, List.set_cons_zero, List.set_cons_succ]
                refine wpAnyH_done (by kernel_rfl) ?_ _
                have GD : Hid (Bx w2 b t (x2.setCell ⟨b, 1, none⟩ (.slice p2 (r + 1) d2)) p2 (r + 1) d2 (List.replicate (r + 1) x)) := Lib.hid (by rw [List.replicate_succ']; exact GC.out)
                go_wp2_with fail
                go_roundw
                case rel => exact ⟨j - 1, r + 1, d2, p2, by go_num, by omega, GD.out⟩
                case measure => simp [intOf]; omega
              · skip
                have GB := Lib.hid (GA.out.same (alloc_same x1 (.cells #[.int .i64 x] 3)))
                have NB := Lib.hid (nums_new x1 .i64 x 3)
                go_simp
                refine hK.out _ _ trivial (fun hHeld => ?_)
                clear hK K
                try simp only [Act.put, List.setIfInBounds_toArray, List.set_cons_zero, List.set_cons_succ]
                refine wpAnyH_ready (rs := [1]) (by kernel_rfl) (by simp) (AllReadyH.cons (by simp only [List.getElem?_toArray, List.getElem?_cons_succ, List.getElem?_cons_zero]; rfl) (fun K hK => ?_) AllReadyH.nil)
                have q1 := (block_cell GB.out.box 1).trans rfl
                go_simp
                refine hK.out _ _ trivial (fun hHeld => ?_)
                clear hK K
                try simp only [Act.put, List.setIfInBounds_toArray, List.set_cons_zero, List.set_cons_succ]
                refine wpAnyH_ready (rs := [5]) (by kernel_rfl) (by simp) (AllReadyH.cons (by simp only [List.getElem?_toArray, List.getElem?_cons_succ, List.getElem?_cons_zero]; rfl) (fun K hK => ?_) AllReadyH.nil)
                have hszb := GB.out.lt
                refine step_app_g _ (by rfl) (.tmp 38) (.tmp 41) 26 (by rfl) .i64 3 i1 (.int .i64 0) 8 Try.underlying26 HJ.out.1 HJ.out.2.1 HJ.out.2.2.1 HJ.out.2.2.2 rfl (by rfl) GB.out.own (by rfl) NB.out (by omega) (by omega) (by omega) ?_
                intro p2 d2 x2 ho2 hg2 _
                have HK2 := Lib.hid (GB.out.put hg2 ho2).1
                have GC := Lib.hid (GB.out.put hg2 ho2).2
                clear ho2 hg2
                refine hK.out _ _ trivial (fun hHeld => ?_)
                clear hK K
                try simp only [Act.put, List.setIfInBounds_toArray, List.set_cons_zero, List.set_cons_succ]
                refine wpAnyH_take (i := 6) (v := ?v5) (by simp only [List.getElem?_toArray, List.getElem?_cons_succ, List.getElem?_cons_zero]; rfl) (by kernel_rfl) (by kernel_rfl) (by kernel_rfl) (by exact fun _ _ _ h => h) (Or.inl ⟨by rfl, fun w9 hS9 => ?hy5⟩) hHeld ?rest5
                case hy5 =>
                  clear hS9
                  go_simp
                  try with_reducible rfl
                try simp only [Act.put, List.setIfInBounds_toArray, List.set_cons_zero, List.set_cons_succ]
                refine wpAnyH_ready (rs := [7]) (by kernel_rfl) (by simp) (AllReadyH.cons (by simp only [List.getElem?_toArray, List.getElem?_cons_succ, List.getElem?_cons_zero]; rfl) (fun K hK => ?_) AllReadyH.nil)
                have r1 := (block_cell HK2.out 1).trans rfl
                have r2 := block_frozen HK2.out 1
                go_simp
                refine hK.out _ _ trivial (fun hHeld => ?_)
                clear hK K
                try simp only [Act.put, List.setIfInBounds_toArray, List.set_cons_zero, List.set_cons_succ]
                refine wpAnyH_done (by kernel_rfl) ?_ _
                have GD : Hid (Bx w2 b t (x2.setCell ⟨b, 1, none⟩ (.slice p2 (r + 1) d2)) p2 (r + 1) d2 (List.replicate (r + 1) x)) := Lib.hid (by rw [List.replicate_succ']; exact GC.out)
                go_wp2_with fail
                go_roundw
                case rel => exact ⟨j - 1, r + 1, d2, p2, by go_num, by omega, GD.out⟩
                case measure => simp [intOf]; omega
          · obtain rfl : j = 0 := by omega
            obtain rfl : r = z := by omega
            have hwn : IntKind.i64.wrap ((n : Int) + 1) = (n : Int) + 1 := by rw [IntKind.wrap_i64]; omega
            go_wp2_with fail
            refine (HK.out _).mono ?_
            rintro e9 w8 ⟨rfl, hb8⟩
            have HG8 := Lib.hid (HG.out.same hb8)
            clear hb8
            obtain ⟨hs2, ho2, hr2⟩ := HO2.out
            have hfar : Below w2.heap.size w2 w8 := by rw [hbe]; exact HG8.out.far
            have hb8 := HG8.out.lt
            have hsl : hs2.length = n := ho2.len
            have hnd : n ≤ d := ho2.room.1
            have HIT : Hid (∀ w9, Below w8.heap.size w8 w9 → Items Vh.enc 2 w9 (some ⟨g, 0, none⟩) n hs2) := Lib.hid (fun w9 h9 => ((ho2.same hfar).items Vh.enc_len).same h9)
            have HI1 : Hid (∀ w9, Below w8.heap.size w8 w9 → Items Vh.enc 2 w9 (some ⟨g, 0, none⟩) k (hs2.take k)) := Lib.hid (fun w9 h9 => (HIT.out w9 h9).take k (by omega))
            have HQ1 : Hid (Below w8.heap.size w8 (w8.alloc (.cells #[] 57))) := Lib.hid (alloc_same _ _)
            have HQ : Hid (Below w8.heap.size w8 (w8.alloc (.cells #[] 57)).drew) := Lib.hid (alloc_same _ _).drew
            have HOQ : Hid (OwnI Vh.enc 2 57 (w8.alloc (.cells #[] 57)).drew w8.heap.size (some ⟨w8.heap.size, 0, none⟩) 0 0 []) := Lib.hid (by
              obtain ⟨hz, h1, h2⟩ := (OwnV.empty (tI := 3) (Nat.le_refl w8.heap.size) : OwnV 57 3 (w8.alloc (.cells #[] 57)) w8.heap.size _ 0 0 [])
              obtain rfl : hz = [] := List.eq_nil_of_length_eq_zero (by rw [h2.1]; rfl)
              exact h1.same (Below.refl _ _).drew)
            have hxn : (w8.alloc (.cells #[] 57)).heap.size = w8.heap.size + 1 := by simp
            have hxx : (w8.alloc (.cells #[.int .i64 t, .slice q r e] 57)).heap.size = w8.heap.size + 1 := by simp
            have HQX : Hid (Below w8.heap.size w8 (w8.alloc (.cells #[.int .i64 t, .slice q r e] 57)).drew) := Lib.hid (alloc_same _ _).drew
            have HP2 : Hid (Below w8.heap.size w8 ((w8.alloc (.cells #[] 57)).alloc (.cells #[.int .i64 t, .slice q r e] 57)).drew) := Lib.hid ((alloc_same _ _).alloc (by omega) _).drew
            have HP3 : Hid (Below w8.heap.size w8 ((w8.alloc (.cells #[.int .i64 t, .slice q r e] 57)).alloc (.cells #[] 57)).drew) := Lib.hid ((alloc_same _ _).alloc (by omega) _).drew
            have HOP2 : Hid (OwnI Vh.enc 2 57 ((w8.alloc (.cells #[] 57)).alloc (.cells #[.int .i64 t, .slice q r e] 57)).drew w8.heap.size (some ⟨w8.heap.size, 0, none⟩) 0 0 []) := Lib.hid (by
              obtain ⟨hz, h1, h2⟩ := (OwnV.empty (tI := 3) (Nat.le_refl w8.heap.size) : OwnV 57 3 (w8.alloc (.cells #[] 57)) w8.heap.size _ 0 0 [])
              obtain rfl : hz = [] := List.eq_nil_of_length_eq_zero (by rw [h2.1]; rfl)
              exact (h1.alloc _).same (Below.refl _ _).drew)
            have HOP3 : Hid (OwnI Vh.enc 2 57 ((w8.alloc (.cells #[.int .i64 t, .slice q r e] 57)).alloc (.cells #[] 57)).drew w8.heap.size (some ⟨w8.heap.size + 1, 0, none⟩) 0 0 []) := Lib.hid (by
              obtain ⟨hz, h1, h2⟩ := (OwnV.empty (tI := 3) (show w8.heap.size ≤ (w8.alloc (.cells #[.int .i64 t, .slice q r e] 57)).heap.size by omega) : OwnV 57 3 ((w8.alloc (.cells #[.int .i64 t, .slice q r e] 57)).alloc (.cells #[] 57)) w8.heap.size _ 0 0 [])
              obtain rfl : hz = [] := List.eq_nil_of_length_eq_zero (by rw [h2.1]; rfl)
              rw [hxx] at h1
              exact h1.same (Below.refl _ _).drew)
            have HNP2 : Hid (Items Vh.enc 2 ((w8.alloc (.cells #[] 57)).alloc (.cells #[.int .i64 t, .slice q r e] 57)).drew (some ⟨w8.heap.size + 1, 0, none⟩) 1 [⟨t, q, r, e⟩]) := Lib.hid (by
              have h1 := items_new Vh.enc_len (w8.alloc (.cells #[] 57)) ⟨t, q, r, e⟩ 57
              rw [hxn] at h1
              exact h1.same (Below.refl _ _).drew)
            have HNP3 : Hid (Items Vh.enc 2 ((w8.alloc (.cells #[.int .i64 t, .slice q r e] 57)).alloc (.cells #[] 57)).drew (some ⟨w8.heap.size, 0, none⟩) 1 [⟨t, q, r, e⟩]) := Lib.hid (by
              have h1 := items_new Vh.enc_len w8 ⟨t, q, r, e⟩ 57
              exact (h1.same (alloc_same _ _)).same (Below.refl _ _).drew)
            have HGP2 : Hid (∀ w9, ((w8.alloc (.cells #[] 57)).alloc (.cells #[.int .i64 t, .slice q r e] 57)).drew.grownBy w9 (Value.ownBlock (.slice (some ⟨w8.heap.size, 0, none⟩) 0 0)) → Below w8.heap.size w8 w9 ∧ Items Vh.enc 2 w9 (some ⟨w8.heap.size + 1, 0, none⟩) 1 [⟨t, q, r, e⟩]) := Lib.hid (fun w9 h9 =>
              ⟨HP2.out.grown h9 HP2.out.size (fun i hi => by simp only [Value.ownBlock, Option.some.injEq] at hi; omega), HNP2.out.off (by
                show w8.heap.size + 1 < ((w8.alloc (.cells #[] 57)).alloc (.cells #[.int .i64 t, .slice q r e] 57)).heap.size
                simp) h9 (by simp [Value.ownBlock])⟩)
            have HGP3 : Hid (∀ w9, ((w8.alloc (.cells #[.int .i64 t, .slice q r e] 57)).alloc (.cells #[] 57)).drew.grownBy w9 (Value.ownBlock (.slice (some ⟨w8.heap.size + 1, 0, none⟩) 0 0)) → Below w8.heap.size w8 w9 ∧ Items Vh.enc 2 w9 (some ⟨w8.heap.size, 0, none⟩) 1 [⟨t, q, r, e⟩]) := Lib.hid (fun w9 h9 =>
              ⟨HP3.out.grown h9 HP3.out.size (fun i hi => by simp only [Value.ownBlock, Option.some.injEq] at hi; omega), HNP3.out.off (by
                show w8.heap.size < ((w8.alloc (.cells #[.int .i64 t, .slice q r e] 57)).alloc (.cells #[] 57)).heap.size
                simp; omega) h9 (by simp [Value.ownBlock])⟩)
            have HS : Hid (∀ w9, Below w8.heap.size w8 w9 → w9.cell? ⟨b, 0, none⟩ = some (.int .i64 t) ∧ w9.cell? ⟨b, 1, none⟩ = some (.slice q r e)) := Lib.hid (fun w9 h9 => ⟨cell_stay ((block_cell HG8.out.box 0).trans rfl) h9, cell_stay ((block_cell HG8.out.box 1).trans rfl) h9⟩)
            have HE6 : Hid (∀ a6 m6 c6 w6, OwnI Vh.enc 2 57 w6 w8.heap.size a6 m6 c6 (hs2.take k ++ [⟨t, q, r, e⟩] ++ hs2.drop k) → Below w8.heap.size w8 w6 → 0 < m6 → OwnV 57 3 w6 w.heap.size a6 m6 c6 (l.take k ++ ⟨t, List.replicate r x⟩ :: l.drop k) ∧ Below w.heap.size w w6) := Lib.hid (fun a6 m6 c6 w6 h6 hb6 hm6 => by
              obtain ⟨g6, rfl, hg6, _⟩ := h6.head hm6
              have hsp := HG8.out.own.span
              have hrow : RowsV 3 w6 w.heap.size (some ⟨g, 0, none⟩) hs2 l := (hr2.same hfar).same hb6
              have hlt : ∀ (j : Nat) (h : Vh) ad, hs2[j]? = some h → h.p = some ad → ad.block < b := fun j h ad e1 e2 => by
                have := (hr2.lt e1 e2).2
                omega
              refine ⟨⟨hs2.take k ++ ⟨t, q, r, e⟩ :: hs2.drop k, ?_, ?_⟩, HB2.out.trans ((hfar.trans (hb6.mono hfar.size)).mono (by omega))⟩
              · have h9 := h6.lower (B' := w.heap.size) (by omega)
                rw [List.append_assoc] at h9
                exact h9
              · refine RowsV.insert hrow (by omega) ⟨rfl, (HG8.out.own.same hb6).lower (by omega)⟩ ?_ ?_ ?_
                · intro j h ad bd e1 e2 e3
                  have := hlt j h ad e1 e2
                  have := (hsp bd e3).1
                  omega
                · intro j h ad e1 e2
                  have := hlt j h ad e1 e2
                  omega
                · intro ad e1
                  have := (hsp ad e1).2
                  omega)
            have hkz : (k : Int) ≤ (n : Int) := by omega
            have hkd : k ≤ d := by omega
            have hlen6 : n < 6 := h6
            clear ho2 hr2 hfar hxn hxx HNP2 HNP3
            by_cases hnk : n = k
            · subst hnk
              have HD0 : hs2.drop n = [] := List.drop_of_length_le (by omega)
              by_cases hdn : d = n
              · subst hdn
                have HI3 : Hid (∀ w9, Below w8.heap.size w8 w9 → Items Vh.enc 2 w9 (some ⟨g, 0, none⟩) 0 (hs2.drop d)) := Lib.hid (fun w9 h9 => by rw [HD0]; exact Items.none_at)
                go_wp2_with fail
                go_region_held3 (fun w9 => w9.cell? ⟨b, 0, none⟩ = some (.int .i64 t) ∧ w9.cell? ⟨b, 1, none⟩ = some (.slice q r e)) (first | exact HS.out _ (Below.refl _ _).drew | exact HS.out _ HQ.out | exact HS.out _ HQX.out | exact HS.out _ HP2.out | exact HS.out _ HP3.out | exact HS.out _ HB6.out | exact HS.out _ HB5.out | exact HS.out _ HB4.out | exact HS.out _ HB3.out) ((first | (refine step_appI Vh.enc_len (by omega) Vh.cells (by rfl) (.tmp 49) (.tmp 52) 24 (by rfl) 57 i0 (.agg #[.int .i64 0, .slice none 0 0]) 32 Try.underlying24 HI.out.1 HI.out.2.1 HI.out.2.2.1 HI.out.2.2.2 rfl (by rfl) HOQ.out (by rfl) (HI1.out _ HQ.out) (by omega) (by omega) HQ.out.size ?_; intro a3 c3 w3 ho3 hb3; have HB3 : Hid (Below w8.heap.size w8 w3) := Lib.hid (HQ.out.trans hb3); have HO3 : Hid (OwnI Vh.enc 2 57 w3 w8.heap.size a3 d c3 (hs2.take d)) := Lib.hid (by have h9 := ho3; rw [Nat.zero_add, List.nil_append] at h9; exact h9); have HB4 : Hid (Below w8.heap.size w8 (w3.alloc (.cells #[.int .i64 t, .slice q r e] 57))) := Lib.hid (HB3.out.alloc HB3.out.size _); have HNN : Hid (Items Vh.enc 2 (w3.alloc (.cells #[.int .i64 t, .slice q r e] 57)) (some ⟨w3.heap.size, 0, none⟩) 1 [⟨t, q, r, e⟩]) := Lib.hid (items_new Vh.enc_len w3 ⟨t, q, r, e⟩ 57); clear ho3 hb3) | (refine step_appI_g Vh.enc_len (by omega) Vh.cells (by rfl) (.tmp 49) (.tmp 52) 24 (by rfl) 57 i0 (.agg #[.int .i64 0, .slice none 0 0]) 32 Try.underlying24 HI.out.1 HI.out.2.1 HI.out.2.2.1 HI.out.2.2.2 rfl (by rfl) HOP2.out (by rfl) (HI1.out _ HP2.out) (by omega) (by omega) HP2.out.size ?_; intro a3 c3 w3 ho3 hg3; have HB3 : Hid (Below w8.heap.size w8 w3) := Lib.hid (HGP2.out w3 hg3).1; have HO3 : Hid (OwnI Vh.enc 2 57 w3 w8.heap.size a3 (0 + d) c3 (hs2.take d)) := Lib.hid (by have h9 := ho3; rw [List.nil_append] at h9; exact h9); have HNN3 := Lib.hid (HGP2.out w3 hg3).2; clear ho3 hg3) | (refine step_appI_g Vh.enc_len (by omega) Vh.cells (by rfl) (.tmp 49) (.tmp 52) 24 (by rfl) 57 i0 (.agg #[.int .i64 0, .slice none 0 0]) 32 Try.underlying24 HI.out.1 HI.out.2.1 HI.out.2.2.1 HI.out.2.2.2 rfl (by rfl) HOP3.out (by rfl) (HI1.out _ HP3.out) (by omega) (by omega) HP3.out.size ?_; intro a3 c3 w3 ho3 hg3; have HB3 : Hid (Below w8.heap.size w8 w3) := Lib.hid (HGP3.out w3 hg3).1; have HO3 : Hid (OwnI Vh.enc 2 57 w3 w8.heap.size a3 (0 + d) c3 (hs2.take d)) := Lib.hid (by have h9 := ho3; rw [List.nil_append] at h9; exact h9); have HNN3 := Lib.hid (HGP3.out w3 hg3).2; clear ho3 hg3) | (refine step_appI Vh.enc_len (by omega) Vh.cells (by rfl) (.tmp 53) (.tmp 55) 24 (by rfl) 57 i0 (.agg #[.int .i64 0, .slice none 0 0]) 32 Try.underlying24 HI.out.1 HI.out.2.1 HI.out.2.2.1 HI.out.2.2.2 rfl (by rfl) (HO3.out.alloc _) (by rfl) HNN.out (by omega) (by omega) HB4.out.size ?_; intro a5 c5 w5 ho5 hb5; have HO5 := Lib.hid ho5; have HB5 : Hid (Below w8.heap.size w8 w5) := Lib.hid (HB4.out.trans hb5); clear ho5 hb5) | (refine step_appI Vh.enc_len (by omega) Vh.cells (by rfl) (.tmp 53) (.tmp 55) 24 (by rfl) 57 i0 (.agg #[.int .i64 0, .slice none 0 0]) 32 Try.underlying24 HI.out.1 HI.out.2.1 HI.out.2.2.1 HI.out.2.2.2 rfl (by rfl) HO3.out (by rfl) HNN3.out (by omega) (by omega) HB3.out.size ?_; intro a5 c5 w5 ho5 hb5; have HO5 := Lib.hid ho5; have HB5 : Hid (Below w8.heap.size w8 w5) := Lib.hid (HB3.out.trans hb5); clear ho5 hb5) | (refine step_appI Vh.enc_len (by omega) Vh.cells (by rfl) (.tmp 56) (.tmp 59) 24 (by rfl) 57 i0 (.agg #[.int .i64 0, .slice none 0 0]) 32 Try.underlying24 HI.out.1 HI.out.2.1 HI.out.2.2.1 HI.out.2.2.2 rfl (by rfl) HO5.out (by rfl) (HI3.out _ HB5.out) (by omega) (by omega) HB5.out.size ?_; intro a6 c6 w6 ho6 hb6; have HO6 := Lib.hid ho6; have HB6 : Hid (Below w8.heap.size w8 w6) := Lib.hid (HB5.out.trans hb6); clear ho6 hb6)))
                all_goals (
                  have HR := Lib.hid (HE6.out _ _ _ _ HO6.out HB6.out (by omega))
                  go_wp2_with fail
                  go_ret
                  exact ⟨_, _, _, rfl, by (rw [HA.out]; first | exact HR.out.1 | (have h := HR.out.1; rw [Nat.zero_add] at h; exact h)), HR.out.2⟩)
              · have HI3 : Hid (∀ w9, Below w8.heap.size w8 w9 → Items Vh.enc 2 w9 (some ⟨g, n * 2, none⟩) 0 (hs2.drop n)) := Lib.hid (fun w9 h9 => by rw [HD0]; exact Items.none_at)
                go_wp2_with fail
                go_region_held3 (fun w9 => w9.cell? ⟨b, 0, none⟩ = some (.int .i64 t) ∧ w9.cell? ⟨b, 1, none⟩ = some (.slice q r e)) (first | exact HS.out _ (Below.refl _ _).drew | exact HS.out _ HQ.out | exact HS.out _ HQX.out | exact HS.out _ HP2.out | exact HS.out _ HP3.out | exact HS.out _ HB6.out | exact HS.out _ HB5.out | exact HS.out _ HB4.out | exact HS.out _ HB3.out) ((first | (refine step_appI Vh.enc_len (by omega) Vh.cells (by rfl) (.tmp 49) (.tmp 52) 24 (by rfl) 57 i0 (.agg #[.int .i64 0, .slice none 0 0]) 32 Try.underlying24 HI.out.1 HI.out.2.1 HI.out.2.2.1 HI.out.2.2.2 rfl (by rfl) HOQ.out (by rfl) (HI1.out _ HQ.out) (by omega) (by omega) HQ.out.size ?_; intro a3 c3 w3 ho3 hb3; have HB3 : Hid (Below w8.heap.size w8 w3) := Lib.hid (HQ.out.trans hb3); have HO3 : Hid (OwnI Vh.enc 2 57 w3 w8.heap.size a3 n c3 (hs2.take n)) := Lib.hid (by have h9 := ho3; rw [Nat.zero_add, List.nil_append] at h9; exact h9); have HB4 : Hid (Below w8.heap.size w8 (w3.alloc (.cells #[.int .i64 t, .slice q r e] 57))) := Lib.hid (HB3.out.alloc HB3.out.size _); have HNN : Hid (Items Vh.enc 2 (w3.alloc (.cells #[.int .i64 t, .slice q r e] 57)) (some ⟨w3.heap.size, 0, none⟩) 1 [⟨t, q, r, e⟩]) := Lib.hid (items_new Vh.enc_len w3 ⟨t, q, r, e⟩ 57); clear ho3 hb3) | (refine step_appI_g Vh.enc_len (by omega) Vh.cells (by rfl) (.tmp 49) (.tmp 52) 24 (by rfl) 57 i0 (.agg #[.int .i64 0, .slice none 0 0]) 32 Try.underlying24 HI.out.1 HI.out.2.1 HI.out.2.2.1 HI.out.2.2.2 rfl (by rfl) HOP2.out (by rfl) (HI1.out _ HP2.out) (by omega) (by omega) HP2.out.size ?_; intro a3 c3 w3 ho3 hg3; have HB3 : Hid (Below w8.heap.size w8 w3) := Lib.hid (HGP2.out w3 hg3).1; have HO3 : Hid (OwnI Vh.enc 2 57 w3 w8.heap.size a3 (0 + n) c3 (hs2.take n)) := Lib.hid (by have h9 := ho3; rw [List.nil_append] at h9; exact h9); have HNN3 := Lib.hid (HGP2.out w3 hg3).2; clear ho3 hg3) | (refine step_appI_g Vh.enc_len (by omega) Vh.cells (by rfl) (.tmp 49) (.tmp 52) 24 (by rfl) 57 i0 (.agg #[.int .i64 0, .slice none 0 0]) 32 Try.underlying24 HI.out.1 HI.out.2.1 HI.out.2.2.1 HI.out.2.2.2 rfl (by rfl) HOP3.out (by rfl) (HI1.out _ HP3.out) (by omega) (by omega) HP3.out.size ?_; intro a3 c3 w3 ho3 hg3; have HB3 : Hid (Below w8.heap.size w8 w3) := Lib.hid (HGP3.out w3 hg3).1; have HO3 : Hid (OwnI Vh.enc 2 57 w3 w8.heap.size a3 (0 + n) c3 (hs2.take n)) := Lib.hid (by have h9 := ho3; rw [List.nil_append] at h9; exact h9); have HNN3 := Lib.hid (HGP3.out w3 hg3).2; clear ho3 hg3) | (refine step_appI Vh.enc_len (by omega) Vh.cells (by rfl) (.tmp 53) (.tmp 55) 24 (by rfl) 57 i0 (.agg #[.int .i64 0, .slice none 0 0]) 32 Try.underlying24 HI.out.1 HI.out.2.1 HI.out.2.2.1 HI.out.2.2.2 rfl (by rfl) (HO3.out.alloc _) (by rfl) HNN.out (by omega) (by omega) HB4.out.size ?_; intro a5 c5 w5 ho5 hb5; have HO5 := Lib.hid ho5; have HB5 : Hid (Below w8.heap.size w8 w5) := Lib.hid (HB4.out.trans hb5); clear ho5 hb5) | (refine step_appI Vh.enc_len (by omega) Vh.cells (by rfl) (.tmp 53) (.tmp 55) 24 (by rfl) 57 i0 (.agg #[.int .i64 0, .slice none 0 0]) 32 Try.underlying24 HI.out.1 HI.out.2.1 HI.out.2.2.1 HI.out.2.2.2 rfl (by rfl) HO3.out (by rfl) HNN3.out (by omega) (by omega) HB3.out.size ?_; intro a5 c5 w5 ho5 hb5; have HO5 := Lib.hid ho5; have HB5 : Hid (Below w8.heap.size w8 w5) := Lib.hid (HB3.out.trans hb5); clear ho5 hb5) | (refine step_appI Vh.enc_len (by omega) Vh.cells (by rfl) (.tmp 56) (.tmp 59) 24 (by rfl) 57 i0 (.agg #[.int .i64 0, .slice none 0 0]) 32 Try.underlying24 HI.out.1 HI.out.2.1 HI.out.2.2.1 HI.out.2.2.2 rfl (by rfl) HO5.out (by rfl) (HI3.out _ HB5.out) (by omega) (by omega) HB5.out.size ?_; intro a6 c6 w6 ho6 hb6; have HO6 := Lib.hid ho6; have HB6 : Hid (Below w8.heap.size w8 w6) := Lib.hid (HB5.out.trans hb6); clear ho6 hb6)))
                all_goals (
                  have HR := Lib.hid (HE6.out _ _ _ _ HO6.out HB6.out (by omega))
                  go_wp2_with fail
                  go_ret
                  exact ⟨_, _, _, rfl, by (rw [HA.out]; first | exact HR.out.1 | (have h := HR.out.1; rw [Nat.zero_add] at h; exact h)), HR.out.2⟩)
            · have hdk : ¬ (d = k) := by omega
              have HI3 : Hid (∀ w9, Below w8.heap.size w8 w9 → Items Vh.enc 2 w9 (some ⟨g, k * 2, none⟩) (n - k) (hs2.drop k)) := Lib.hid (fun w9 h9 => by
                have h8 := (HIT.out w9 h9).drop k (by omega)
                rw [Nat.zero_add] at h8
                exact h8)
              go_wp2_with fail
              go_region_held3 (fun w9 => w9.cell? ⟨b, 0, none⟩ = some (.int .i64 t) ∧ w9.cell? ⟨b, 1, none⟩ = some (.slice q r e)) (first | exact HS.out _ (Below.refl _ _).drew | exact HS.out _ HQ.out | exact HS.out _ HQX.out | exact HS.out _ HP2.out | exact HS.out _ HP3.out | exact HS.out _ HB6.out | exact HS.out _ HB5.out | exact HS.out _ HB4.out | exact HS.out _ HB3.out) ((first | (refine step_appI Vh.enc_len (by omega) Vh.cells (by rfl) (.tmp 49) (.tmp 52) 24 (by rfl) 57 i0 (.agg #[.int .i64 0, .slice none 0 0]) 32 Try.underlying24 HI.out.1 HI.out.2.1 HI.out.2.2.1 HI.out.2.2.2 rfl (by rfl) HOQ.out (by rfl) (HI1.out _ HQ.out) (by omega) (by omega) HQ.out.size ?_; intro a3 c3 w3 ho3 hb3; have HB3 : Hid (Below w8.heap.size w8 w3) := Lib.hid (HQ.out.trans hb3); have HO3 : Hid (OwnI Vh.enc 2 57 w3 w8.heap.size a3 k c3 (hs2.take k)) := Lib.hid (by have h9 := ho3; rw [Nat.zero_add, List.nil_append] at h9; exact h9); have HB4 : Hid (Below w8.heap.size w8 (w3.alloc (.cells #[.int .i64 t, .slice q r e] 57))) := Lib.hid (HB3.out.alloc HB3.out.size _); have HNN : Hid (Items Vh.enc 2 (w3.alloc (.cells #[.int .i64 t, .slice q r e] 57)) (some ⟨w3.heap.size, 0, none⟩) 1 [⟨t, q, r, e⟩]) := Lib.hid (items_new Vh.enc_len w3 ⟨t, q, r, e⟩ 57); clear ho3 hb3) | (refine step_appI_g Vh.enc_len (by omega) Vh.cells (by rfl) (.tmp 49) (.tmp 52) 24 (by rfl) 57 i0 (.agg #[.int .i64 0, .slice none 0 0]) 32 Try.underlying24 HI.out.1 HI.out.2.1 HI.out.2.2.1 HI.out.2.2.2 rfl (by rfl) HOP2.out (by rfl) (HI1.out _ HP2.out) (by omega) (by omega) HP2.out.size ?_; intro a3 c3 w3 ho3 hg3; have HB3 : Hid (Below w8.heap.size w8 w3) := Lib.hid (HGP2.out w3 hg3).1; have HO3 : Hid (OwnI Vh.enc 2 57 w3 w8.heap.size a3 (0 + k) c3 (hs2.take k)) := Lib.hid (by have h9 := ho3; rw [List.nil_append] at h9; exact h9); have HNN3 := Lib.hid (HGP2.out w3 hg3).2; clear ho3 hg3) | (refine step_appI_g Vh.enc_len (by omega) Vh.cells (by rfl) (.tmp 49) (.tmp 52) 24 (by rfl) 57 i0 (.agg #[.int .i64 0, .slice none 0 0]) 32 Try.underlying24 HI.out.1 HI.out.2.1 HI.out.2.2.1 HI.out.2.2.2 rfl (by rfl) HOP3.out (by rfl) (HI1.out _ HP3.out) (by omega) (by omega) HP3.out.size ?_; intro a3 c3 w3 ho3 hg3; have HB3 : Hid (Below w8.heap.size w8 w3) := Lib.hid (HGP3.out w3 hg3).1; have HO3 : Hid (OwnI Vh.enc 2 57 w3 w8.heap.size a3 (0 + k) c3 (hs2.take k)) := Lib.hid (by have h9 := ho3; rw [List.nil_append] at h9; exact h9); have HNN3 := Lib.hid (HGP3.out w3 hg3).2; clear ho3 hg3) | (refine step_appI Vh.enc_len (by omega) Vh.cells (by rfl) (.tmp 53) (.tmp 55) 24 (by rfl) 57 i0 (.agg #[.int .i64 0, .slice none 0 0]) 32 Try.underlying24 HI.out.1 HI.out.2.1 HI.out.2.2.1 HI.out.2.2.2 rfl (by rfl) (HO3.out.alloc _) (by rfl) HNN.out (by omega) (by omega) HB4.out.size ?_; intro a5 c5 w5 ho5 hb5; have HO5 := Lib.hid ho5; have HB5 : Hid (Below w8.heap.size w8 w5) := Lib.hid (HB4.out.trans hb5); clear ho5 hb5) | (refine step_appI Vh.enc_len (by omega) Vh.cells (by rfl) (.tmp 53) (.tmp 55) 24 (by rfl) 57 i0 (.agg #[.int .i64 0, .slice none 0 0]) 32 Try.underlying24 HI.out.1 HI.out.2.1 HI.out.2.2.1 HI.out.2.2.2 rfl (by rfl) HO3.out (by rfl) HNN3.out (by omega) (by omega) HB3.out.size ?_; intro a5 c5 w5 ho5 hb5; have HO5 := Lib.hid ho5; have HB5 : Hid (Below w8.heap.size w8 w5) := Lib.hid (HB3.out.trans hb5); clear ho5 hb5) | (refine step_appI Vh.enc_len (by omega) Vh.cells (by rfl) (.tmp 56) (.tmp 59) 24 (by rfl) 57 i0 (.agg #[.int .i64 0, .slice none 0 0]) 32 Try.underlying24 HI.out.1 HI.out.2.1 HI.out.2.2.1 HI.out.2.2.2 rfl (by rfl) HO5.out (by rfl) (HI3.out _ HB5.out) (by omega) (by omega) HB5.out.size ?_; intro a6 c6 w6 ho6 hb6; have HO6 := Lib.hid ho6; have HB6 : Hid (Below w8.heap.size w8 w6) := Lib.hid (HB5.out.trans hb6); clear ho6 hb6)))
              all_goals (
                have HR := Lib.hid (HE6.out _ _ _ _ HO6.out HB6.out (by omega))
                go_wp2_with fail
                go_ret
                exact ⟨_, _, _, rfl, by (rw [HA.out]; first | exact HR.out.1 | (have h := HR.out.1; rw [Nat.zero_add] at h; exact h)), HR.out.2⟩)
    · have hw : addX l s = l := by unfold addX wantG; rw [decide_eq_false (show ¬ l.length < 6 by omega), Bool.and_false, Bool.false_and]; rfl
      have HA := Lib.hid hw
      have hq6 : (6 : Int) ≤ (n : Int) := by omega
      have hq6'' : 6 ≤ n := by omega
      clear hw
      go_wp2_with fail
      go_ret
      exact ⟨_, _, _, rfl, by rw [HA.out]; exact HO2.out, HB2.out⟩
end Go.Proofs.Ytgkacnngodamgaa
namespace Go.Proofs.Ytgkacnngodamgaa
open Go.ChangeShapes Go.WideShapes Go.ChangeAt Go.RowKit
set_option linter.unusedVariables false
set_option linter.unusedSimpArgs false

set_option maxHeartbeats 4000000 in
set_option maxRecDepth 100000 in
theorem specStripGrease_any {a : Option Addr} {n c : Nat} {l : List Vl} {w : World} (h : Vals w a n l) (hn : n ≤ 1048576) (hit : itemsOf l ≤ 1048576) :
    Calls Try.prog 40 #[.slice a n c] w (MadeV 57 3 w.heap.size (strX l) w) := by
  have H := Lib.hid h
  have hln := Lib.hid h.len
  obtain ⟨i0, hi, hz0, hz1, hz2⟩ := info_parts infoExtS
  have HI := Lib.hid (And.intro hi (And.intro hz0 (And.intro hz1 hz2)))
  obtain ⟨i1, ki, kz0, kz1, kz2⟩ := info_parts infoIntS
  have HJ := Lib.hid (And.intro ki (And.intro kz0 (And.intro kz1 kz2)))
  clear h hi hz0 hz1 hz2 ki kz0 kz1 kz2
  have HO : Hid (OwnV 57 3 (w.alloc (.cells #[] 57)) w.heap.size (some ⟨w.heap.size, 0, none⟩) 0 0 (strX (l.take 0))) := Lib.hid (OwnV.empty (Nat.le_refl _))
  go_enter Try.func40, Try.ntmps40
  go_wp2_with fail
  go_loopw [3, 4] (fun v i wr => ∃ (j : Nat) (q : Option Addr) (r e : Nat), j ≤ n ∧ i = .int .i64 j ∧ v = .slice q r e ∧ OwnV 57 3 wr w.heap.size q r e (strX (l.take j)) ∧ Below w.heap.size w wr) (fun _ i _ => n - (intOf i).toNat)
  case atStart => exact ⟨0, _, _, _, Nat.zero_le _, rfl, rfl, HO.out, alloc_same _ _⟩
  case round =>
    obtain ⟨j, q, r, e, hj, rfl, rfl, hown, hb⟩ := hrel
    have HO2 := Lib.hid hown
    have HB2 := Lib.hid hb
    clear hown hb
    by_cases hlt : j < n
    · obtain ⟨bb, o, p, pm, pd, k, y, rfl, hx, hd0, hd1, hN, hr⟩ := H.out.at_ hlt
      have hsz := HB2.out.size
      have hym := hN.len
      have hyi := itemsOf_mem hx
      dsimp only at hyi
      have hrl : r ≤ 1048576 := by
        have h1 := HO2.out.len
        have h2 := strX_few (l.take j)
        rw [List.length_take] at h2
        omega
      have hpm : pm ≤ 1048576 := by omega
      have HSK : Hid (∀ w9, Below w.heap.size w w9 → w9.cell? ⟨bb, o + j * 2, none⟩ = some (.int .i64 k) ∧ w9.cell? ⟨bb, o + j * 2 + 1, none⟩ = some (.slice p pm pd)) := Lib.hid (fun w9 h9 => ⟨cell_stay hd0 h9, cell_stay hd1 h9⟩)
      obtain ⟨hc0, hc1⟩ := HSK.out wr HB2.out
      have HN := Lib.hid (fun w9 (h9 : Below w.heap.size w w9) => hN.same h9)
      have KH := Lib.hid ((specIsReserved_any k wr).mono fun e9 w9 ⟨q1, q2⟩ => (⟨q1, q2.symm⟩ : e9 = Ending.returned (.bool (resv k)) ∧ wr = w9))
      by_cases hk : resv k = false
      · have HK : Hid (strX (l.take (j + 1)) = strX (l.take j) ++ [⟨k, y⟩]) := Lib.hid (wh_yes hx (by dsimp only; rw [hk]; rfl))
        rw [hk] at KH
        clear hx hN hk hd0 hd1 hym hyi
        have HBd : Hid (Below w.heap.size w wr.drew) := Lib.hid HB2.out.drew
        have HQ : Hid (Below wr.heap.size wr (wr.alloc (.cells #[] 3)).drew) := Lib.hid (alloc_same _ _).drew
        have HBQ : Hid (Below w.heap.size w (wr.alloc (.cells #[] 3)).drew) := Lib.hid (HB2.out.trans (HQ.out.mono hsz))
        have HOQ : Hid (Own .i64 3 (wr.alloc (.cells #[] 3)).drew wr.heap.size (some ⟨wr.heap.size, 0, none⟩) 0 0 []) := Lib.hid ((Own.empty (Nat.le_refl _)).same (Below.refl _ _).drew)
        have hs2 : wr.heap.size ≤ (wr.alloc (.cells #[] 3)).drew.heap.size := HQ.out.size
        go_wp2_with (go_at_call 77; refine KH.out.mono ?_; rintro e9 w9 ⟨rfl, rfl⟩)
        go_region_held3 (fun w9 => w9.cell? ⟨bb, o + j * 2, none⟩ = some (.int .i64 k) ∧ w9.cell? ⟨bb, o + j * 2 + 1, none⟩ = some (.slice p pm pd)) (first | exact HSK.out _ HBd.out | exact HSK.out _ HBQ.out | exact HSK.out _ HB3.out | exact HSK.out _ HB4.out | exact HSK.out _ HB5.out) ((first | (refine step_app_g _ (by rfl) (.tmp 25) (.tmp 30) 26 (by rfl) .i64 3 i1 (.int .i64 0) 8 Try.underlying26 HJ.out.1 HJ.out.2.1 HJ.out.2.2.1 HJ.out.2.2.2 rfl (by rfl) HOQ.out (by rfl) (HN.out _ HBQ.out) (by omega) (by omega) hs2 ?_; intro a3 c3 w3 ho3 hg3 hl3; have HO3 := Lib.hid ho3; have HQ3 : Hid (Below wr.heap.size wr w3) := Lib.hid (grown_to hg3 HQ.out HOQ.out.span (Nat.le_refl _) hs2); have HB3 : Hid (Below w.heap.size w w3) := Lib.hid (HB2.out.trans (HQ3.out.mono hsz)); have hs3 := HQ3.out.size; have HB4 : Hid (Below w.heap.size w (w3.alloc (.cells #[.int .i64 k, .slice a3 pm c3] 57))) := Lib.hid (HB3.out.alloc HB3.out.size _); have HNN : Hid (Items Vh.enc 2 (w3.alloc (.cells #[.int .i64 k, .slice a3 pm c3] 57)) (some ⟨w3.heap.size, 0, none⟩) 1 [⟨k, a3, pm, c3⟩]) := Lib.hid (items_new Vh.enc_len w3 ⟨k, a3, pm, c3⟩ 57); have HO4 : Hid (Own .i64 3 (w3.alloc (.cells #[.int .i64 k, .slice a3 pm c3] 57)) w.heap.size a3 pm c3 y) := Lib.hid (by have h9 := (ho3.lower hsz).alloc (.cells #[.int .i64 k, .slice a3 pm c3] 57); rw [Nat.zero_add] at h9; exact h9); clear ho3 hg3 hl3) | (refine step_appV (S := wr.heap.size) (B := w.heap.size) _ (by rfl) (.tmp 19) (.tmp 33) 24 (by rfl) 57 3 i0 (.agg #[.int .i64 0, .slice none 0 0]) 32 Try.underlying24 HI.out.1 HI.out.2.1 HI.out.2.2.1 HI.out.2.2.2 rfl (by rfl) ((HO2.out.lim.same HQ3.out).same (alloc_same _ _)) (by rfl) HNN.out HO4.out (fun ad e => (HO3.out.span ad e).1) (by omega) (by omega) (by simp; omega) ?_; intro a5 c5 w5 ho5 hb5; have HO5 := Lib.hid ho5; have HB5 : Hid (Below w.heap.size w w5) := Lib.hid (HB4.out.trans hb5); clear ho5 hb5)))
        go_wp2_with fail
        go_roundw
        case rel => exact ⟨j + 1, a5, _, c5, by omega, by go_num, rfl, by rw [HK.out]; exact HO5.out, HB5.out⟩
        case measure => simp [intOf]; omega
      · have hk : resv k = true := by simpa using hk
        have HK : Hid (strX (l.take (j + 1)) = strX (l.take j)) := Lib.hid (wh_no hx (by dsimp only; rw [hk]; rfl))
        rw [hk] at KH
        clear hx hN hk hd0 hd1 hym hyi
        go_wp2_with (go_at_call 77; refine KH.out.mono ?_; rintro e9 w9 ⟨rfl, rfl⟩)
        go_roundw
        case rel => exact ⟨j + 1, q, r, e, by omega, by go_num, rfl, by rw [HK.out]; exact HO2.out, HB2.out⟩
        case measure => simp [intOf]; omega
    · obtain rfl : j = n := by omega
      go_wp2
      go_ret
      have h1 := HO2.out
      rw [List.take_of_length_le (by rw [hln.out]; omega)] at h1
      exact ⟨_, _, _, rfl, h1, HB2.out⟩
end Go.Proofs.Ytgkacnngodamgaa
