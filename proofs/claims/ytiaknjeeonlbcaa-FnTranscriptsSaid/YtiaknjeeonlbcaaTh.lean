/- The hash of a transcript, what each side makes of it, and whether it checks out: by the program. -/
import Derived.Test.YtiaknjeeonlbcaaHb
import Derived.Test.YtiaknjeeonlbcaaHash
import Derived.Test.YtiaknjeeonlbcaaIntI
import Derived.Test.YtiaknjeeonlbcaaEqI
import Derived.Test.YtiaknjeeonlbcaaEqIP
import Derived.StillTailTactics
import Derived.Handy
namespace Go.Proofs.Ytiaknjeeonlbcaa
open Go.ChangeShapes Go.WideShapes Go.ChangeAt Go.RowKit Go.Shelf
set_option linter.unusedVariables false
set_option linter.unusedSimpArgs false
attribute [local go_sem] Oper.semAt_some

theorem own_pair (w : World) (x y : Int) {B : Nat} (hB : B ≤ w.heap.size) : Own .i64 3 (w.alloc (.cells #[.int .i64 x, .int .i64 y] 3)) B (some ⟨w.heap.size, 0, none⟩) 2 2 [x, y] :=
  ⟨rfl, World.ownsRow_lit w #[.int .i64 x, .int .i64 y] 2 hB (by unfold maxLen; omega) rfl⟩
theorem fits_two {h : Int} {n : Nat} {y : List Int} (h0 : 0 ≤ h) (h1 : h < 2147483647) (hn : n ≤ 1000000000000) (hy : ∀ z ∈ y, 0 ≤ z ∧ z ≤ 255) : Fits64 ([h, (n : Int)] ++ y) := by
  intro x hx
  rcases List.mem_append.1 hx with q | q
  · simp only [List.mem_cons, List.not_mem_nil, or_false] at q
    rcases q with rfl | rfl
    · exact fit_mk (by omega) (by omega)
    · exact fit_mk (by omega) (by omega)
  · have := hy x q
    exact fit_mk (by omega) (by omega)
set_option maxRecDepth 100000 in
set_option maxHeartbeats 2000000 in
theorem hashBehind_any {h : Int} {a : Option Addr} {n c : Nat} {y : List Int} {w : World} (hN : Nums .i64 w a n y) (h0 : 0 ≤ h) (h1 : h < 2147483647) (hn : n ≤ 1000000000000) (hy : ∀ z ∈ y, 0 ≤ z ∧ z ≤ 255) :
    Calls Try.prog 44 #[.int .i64 h, .slice a n c] w (Told (.int .i64 (thStep h y)) w) := by
  have hl := hN.len
  have HF := Lib.hid (fits_two h0 h1 hn hy)
  have H := Lib.hid (hN.same (alloc_same w (.cells #[.int .i64 h, .int .i64 (n : Int)] 3)))
  have HO := Lib.hid (own_pair w h (n : Int) (Nat.le_refl _))
  clear hN hy
  obtain ⟨i0, hi, hz0, hz1, hz2⟩ := info_parts infoIntS
  have HI := Lib.hid (And.intro hi (And.intro hz0 (And.intro hz1 hz2)))
  clear hi hz0 hz1 hz2
  have HE : Hid (thStep h y = hashOf ([h, (n : Int)] ++ y)) := Lib.hid (by unfold thStep; rw [hl])
  rw [HE.out]
  go_enter Try.func44, Try.ntmps44
  go_wp2_with (at_builtin; refine wpl_app _ rfl (.tmp 8) (.tmp 9) 29 rfl .i64 3 i0 (.int .i64 0) 8 Try.underlying29 HI.out.1 HI.out.2.1 HI.out.2.2.1 HI.out.2.2.2 rfl rfl HO.out rfl H.out (by omega) ?c1 ?c2 ?_)
  case c1 => omega
  case c2 => simp
  intro a1 c1 w1 ho1 hb1
  have HO1 := Lib.hid ho1
  have HB1 : Hid (Below w.heap.size w w1) := Lib.hid ((alloc_same w (.cells #[.int .i64 h, .int .i64 (n : Int)] 3)).trans hb1)
  clear ho1 hb1
  go_wp2_with fail
  refine (hash_any _ _ _ _ _ HO1.out.nums HF.out).mono ?_
  rintro e w2 ⟨rfl, hb2⟩
  have HB2 := Lib.hid (HB1.out.trans (hb2.mono HB1.out.size))
  clear hb2
  go_wp2_with fail
  go_ret
  exact ⟨rfl, HB2.out⟩
abbrev Rb (w : World) := {x : Rx w // rowB x.y = true ∧ x.m ≤ 1000000000000}
theorem Rws.headsB {w : World} {a : Option Addr} {n : Nat} {l : List (List Int)} (h : Rws w a n l) (hl : l.all rowB = true) (hn : ∀ y ∈ l, y.length ≤ 1000000000000) : ∃ xs : List (Rb w), xs.length = n ∧ xs.map (fun x => x.1.y) = l ∧ Holds (fun x => x.1.val) w.heap.size w a xs := by
  obtain ⟨xs, h1, h2, h3⟩ := h.heads
  have hall : ∀ x ∈ xs, rowB x.y = true ∧ x.m ≤ 1000000000000 := fun x hx => by
    have hm : x.y ∈ l := by rw [← h2]; exact List.mem_map.2 ⟨x, hx, rfl⟩
    exact ⟨List.all_eq_true.1 hl x.y hm, by rw [← x.nums.len]; exact hn _ hm⟩
  refine ⟨xs.attach.map fun x => ⟨x.1, hall x.1 x.2⟩, by simpa using h1, ?_, fun k x hk => ?_⟩
  · rw [List.map_map, ← h2]
    conv => rhs; rw [← List.attach_map_subtype_val xs]
    rw [List.map_map]
    rfl
  · rw [List.getElem?_map] at hk
    rcases he : xs.attach[k]? with _ | q
    · rw [he] at hk; cases hk
    · rw [he] at hk
      cases hk
      have : xs[k]? = some q.1 := by
        have h5 := congrArg (Option.map Subtype.val) he
        rw [← List.getElem?_map, List.attach_map_subtype_val] at h5
        exact h5
      exact h3 k q.1 this
set_option maxRecDepth 100000 in
set_option maxHeartbeats 4000000 in
theorem hashAll_in (a : Option Addr) (n c : Nat) (l : List (List Int)) (w : World) (hR : Rws w a n l) (hT : isTr l = true) (hlen : ∀ y ∈ l, y.length ≤ 1000000000000) (K0 : Calls Try.prog 20 #[.slice a n c] w (Told (.bool true) w)) :
    CallsIn Fence.wide 4 Try.prog 23 #[.slice a n c] w fun e W' => e = .returned (.int .i64 (thAll l)) ∧ Below w.heap.size w W' := by
  have h1 : 1 ≤ 4 := by omega
  have hf := hR.fits
  obtain ⟨h12, hall⟩ := isTr_parts hT
  refine callsIn_of_wp_marks Try.func23 rfl trivial ?_ rfl
  simp only [Try.ntmps23, List.size_toArray, List.length_cons, List.length_nil, Nat.reduceAdd, Nat.reduceSub, Array.replicate_succ, Array.replicate_zero, List.push_toArray, List.append_toArray, List.nil_append, List.cons_append]
  gi_wp2_with (refine ⟨trivial, ?_⟩; gi_at_call 20; refine (callsIn_wide.2 K0).mono ?_; rintro e w1 ⟨rfl, hb1⟩)
  have hR1 := hR.same hb1
  obtain ⟨xs, hx1, hx2, hx3⟩ := hR1.headsB hall hlen
  have hB1 : w.heap.size ≤ w1.heap.size := hb1.size
  gi_wp2_with (refine ⟨trivial, ?_⟩; gi_at_call 43; refine (callsIn_wide.2 (firstR_any _ _ _ _)).mono ?_; rintro e w' ⟨rfl, rfl⟩)
  have b0 := Boxed.new w1 3 (.int .i64 1)
  have b1 := Boxed.new (w1.alloc (.cells #[.int .i64 1] 3)) 48 (.slice a n c)
  simp only [World.size_alloc] at b1
  have hB0 : Below w1.heap.size w1 ((w1.alloc (.cells #[.int .i64 1] 3)).alloc (.cells #[.slice a n c] 48)) := ((Below.refl _ w1).alloc (Nat.le_refl _) _).alloc (by simp) _
  refine wpIn_rangeFunc_ownG rfl h1 (gf := 58) (lb := #[.pointer (some ⟨w1.heap.size + 1, 0, none⟩)]) rfl trivial (enters_of Try.func58 (by kernel_rfl) rfl)
    (valuesR_stops (α := Rb w1) (fun x => x.1.val) 3 (w1.heap.size + 1) w1.heap.size a n c xs (by omega) hx1 hf _ b1.cell (by simp; omega) (hx3.below hB0)) belowK_t (belowK_b (by simp; omega)) (Below.refl _ _) (fun _ => rfl)
    (fun pre W => (W.cell? ⟨w1.heap.size, 0, none⟩ = some (.int .i64 (thAll (pre.map fun x => x.1.y))) ∧ W.frozen? ⟨w1.heap.size, 0, none⟩ = false) ∧ Below w1.heap.size w1 W)
    (fun _ _ _ => False)
    (OwnFrom.and (Own.from (fun s A B row hs hg hr => ⟨Go.cell_kept hs.1 hg hr, (frozen_kept hs.1 hg hr).trans hs.2⟩) _) (ownFrom_below (Nat.le_refl _) (by simp; omega)))
    (fun _ _ _ _ _ hs _ _ => hs)
    ⟨⟨(b0.alloc _).cell, (b0.alloc _).frozen⟩, hB0⟩
    (fun x => { tmps := #[.slice a n c, undef, .int .i64 0, .pointer (some ⟨w1.heap.size, 0, none⟩), .slice x.1.p x.1.m x.1.c, .slice a n c, .bool true, .bool false, .slice a n c, .func (.func 58) #[] #[.pointer (some ⟨w1.heap.size + 1, 0, none⟩)], .slice x.1.p x.1.m x.1.c, undef, undef, undef, undef], defers := [] }) ?assign ?body ?done ?stop
  case assign =>
    intro l x W K hK
    unfold Rx.val
    gi_wp2
    exact hK
  case body =>
    rintro l pre ⟨⟨p, m, d, y, hN⟩, hok, hml⟩ W ⟨⟨hc, hfr⟩, hB⟩ _
    dsimp only at hok hml ⊢
    have h1' : 1 ≤ 4 - 1 - 1 := by omega
    have hbd := thAll_bd (pre.map fun x => x.1.y)
    have hby : ∀ z ∈ y, 0 ≤ z ∧ z ≤ 255 := row_fits (l := [y]) (by simp [hok]) (by simp)
    obtain ⟨h, hh⟩ : ∃ h, thAll (pre.map fun x => x.1.y) = h := ⟨_, rfl⟩
    rw [hh] at hc hbd
    have KB := hashBehind_any (c := d) (hN.same hB) hbd.1 hbd.2 hml hby
    obtain ⟨h2, hh2⟩ : ∃ h2, thStep h y = h2 := ⟨_, rfl⟩
    rw [hh2] at KB
    have HH : Hid (thAll ((pre ++ [(⟨⟨p, m, d, y, hN⟩, hok, hml⟩ : Rb w1)]).map fun x => x.1.y) = h2) := Lib.hid (by rw [List.map_append, List.map_cons, List.map_nil, thAll_snoc, hh]; exact hh2)
    clear hh hh2 hby hbd
    have hlt : w1.heap.size < W.heap.size := cell_in hc
    gi_wp2_with (refine ⟨trivial, ?_⟩; gi_at_call 44; refine (CallsIn.inRound l (callsIn_wide.2 KB)).mono ?_; rintro e W2 ⟨rfl, hb2⟩; have hc2 := cell_stay hc hb2; have hf2 : W2.frozen? ⟨w1.heap.size, 0, none⟩ = false := by rw [← hfr]; exact hb2.frozen hlt)
    exact ⟨(KeepsFrom.of_grownBy (grown_below hb2 none) (fun j e => by cases e)).trans ((KeepsOthers.setCell _ _ _).from _), (hb2.mono hB.size).setCell (p := ⟨w1.heap.size, 0, none⟩) (Nat.le_refl _) _,
      ⟨by rw [HH.out]; exact World.cell?_setCell_same' _ _ _ (by rw [hc2]; rfl), by rw [World.frozen?_setCell]; exact hf2⟩, (hB.trans (hb2.mono hB.size)).setCell (p := ⟨w1.heap.size, 0, none⟩) (Nat.le_refl _) _⟩
  case done =>
    rintro D ys W hD hys ⟨⟨hc, _⟩, hB⟩ hK
    rw [hys, hx2] at hc
    gi_wp2
    refine ⟨by simp, .inl ⟨_, _, rfl, run_takeDeferred hK, ?_⟩⟩
    exact ⟨_, results_tmp rfl _ _ _, rfl, (hb1.trans (hB.mono hB1)).trans (belowK_b (w := w) (Nat.le_refl _) W D _ _ (by simp at hD; omega) hK rfl rfl)⟩
  case stop =>
    rintro D c pre W _ _ h _
    exact h.elim
end Go.Proofs.Ytiaknjeeonlbcaa
