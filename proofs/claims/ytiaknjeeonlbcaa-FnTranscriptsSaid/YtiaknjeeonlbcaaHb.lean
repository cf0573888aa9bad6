/- Bytes, messages of bytes, transcripts: by the program. -/
import Derived.Test.YtiaknjeeonlbcaaVs
import Derived.Test.YtiaknjeeonlbcaaTs
namespace Go.Proofs.Ytiaknjeeonlbcaa
open Go.ChangeShapes Go.WideShapes Go.ChangeAt Go.RowKit Go.Shelf
set_option linter.unusedVariables false
attribute [local go_sem] Oper.semAt_some

theorem isByte_any (z : Int) (w : World) : Calls Try.prog 51 #[.int .i64 z] w (Told (.bool (byteB z)) w) := by
  have K : Calls Try.prog 28 #[.int .i64 z, .int .i64 0, .int .i64 255] w fun e w' => e = .returned (.bool (byteB z)) ∧ w = w' := by
    unfold byteB
    by_cases h1 : (0 : Int) ≤ z <;> by_cases h2 : z ≤ 255 <;> (go_enter Try.func28, Try.ntmps28; go_wp2; go_ret; exact ⟨by simp [h1, h2], rfl⟩)
  go_enter Try.func51, Try.ntmps51
  go_wp2_with fail
  refine K.mono ?_
  rintro e w1 ⟨rfl, rfl⟩
  go_wp2_with fail
  go_ret
  exact ⟨rfl, Below.refl _ _⟩
/-- A list of integers as a walk holds it: where it lies, and what it is. -/
structure Rx (w : World) where
  p : Option Addr
  m : Nat
  c : Nat
  y : List Int
  nums : Nums .i64 w p m y
def Rx.ok {w : World} (x : Rx w) : Bool := rowB x.y
def Rx.val {w : World} (x : Rx w) : Value := .slice x.p x.m x.c
theorem Rws.heads {w : World} {a : Option Addr} {n : Nat} {l : List (List Int)} (h : Rws w a n l) : ∃ xs : List (Rx w), xs.length = n ∧ xs.map Rx.y = l ∧ Holds Rx.val w.heap.size w a xs := by
  have each : ∀ j : Fin n, ∃ x : Rx w, l[j.1]? = some x.y ∧ ∃ ad, a = some ad ∧ w.cell? (ad.add j.1) = some x.val := fun j => by
    obtain ⟨ad, p, m, c, y, e, hy, h0, hN, _⟩ := h.at_ j.2
    exact ⟨⟨p, m, c, y, hN⟩, hy, ad, e, h0⟩
  obtain ⟨f, hf⟩ := Classical.axiomOfChoice each
  refine ⟨(List.finRange n).map f, by simp, ?_, fun k x hk => ?_⟩
  · apply List.ext_getElem?
    intro i
    rcases Nat.lt_or_ge i n with hi | hi
    · rw [(hf ⟨i, hi⟩).1]
      simp [hi]
    · rw [List.getElem?_eq_none (by simpa using hi), List.getElem?_eq_none (by rw [h.len]; exact hi)]
  · have hkn : k < n := by have := lt_ofL hk; simpa using this
    have e : x = f ⟨k, hkn⟩ := by
      rw [List.getElem?_map] at hk
      have e1 : (List.finRange n)[k]? = some ⟨k, hkn⟩ := by simp [hkn]
      rw [e1] at hk
      exact (Option.some.inj hk).symm
    subst e
    obtain ⟨_, ad, e2, h0⟩ := hf ⟨k, hkn⟩
    exact ⟨ad, e2, h0, by have := cell_in h0; rwa [addr_block] at this⟩

set_option maxRecDepth 100000 in
set_option maxHeartbeats 4000000 in
theorem onlyI_in (a : Option Addr) (n c : Nat) (w : World) (y : List Int) (hl : y.length = n) (hn : (n : Int) ≤ 9223372036854775807) (hH : Holds (fun z => Value.int .i64 z) w.heap.size w a y) :
    CallsIn Fence.wide 4 Try.prog 50 #[.slice a n c, .func (.func 51) #[] #[]] w fun e W' => e = .returned (.bool (rowB y)) ∧ Below w.heap.size w W' := by
  have h1 : 1 ≤ 4 := by omega
  refine callsIn_of_wp_marks Try.func50 rfl trivial ?_ rfl
  simp only [Try.ntmps50, List.size_toArray, List.length_cons, List.length_nil, Nat.reduceAdd, Nat.reduceSub, Array.replicate_succ, Array.replicate_zero, List.push_toArray, List.append_toArray, List.nil_append, List.cons_append]
  gi_wp2_with (refine ⟨trivial, ?_⟩; gi_at_call 57; refine (callsIn_wide.2 (firstI_any _ _ _ _)).mono ?_; rintro e w' ⟨rfl, rfl⟩)
  have b0 := Boxed.new w 40 (.func (.func 51) #[] #[])
  have b1 := Boxed.new (w.alloc (.cells #[.func (.func 51) #[] #[]] 40)) 4 (.bool false)
  have b2 := Boxed.new ((w.alloc (.cells #[.func (.func 51) #[] #[]] 40)).alloc (.cells #[.bool false] 4)) 58 (.slice a n c)
  simp only [World.size_alloc] at b1 b2
  have hB0 : Below w.heap.size w (((w.alloc (.cells #[.func (.func 51) #[] #[]] 40)).alloc (.cells #[.bool false] 4)).alloc (.cells #[.slice a n c] 58)) := (((Below.refl _ w).alloc (Nat.le_refl _) _).alloc (by simp) _).alloc (by simp; omega) _
  refine wpIn_rangeFunc_ownG rfl h1 (gf := 60) (lb := #[.pointer (some ⟨w.heap.size + 1 + 1, 0, none⟩)]) rfl trivial (enters_of Try.func60 (by kernel_rfl) rfl)
    (valuesI_stops (α := Int) (fun z => Value.int .i64 z) 3 (w.heap.size + 1 + 1) w.heap.size a n c y (by omega) hl hn _ b2.cell (by simp; omega) (hH.below hB0)) belowK_t (belowK_b (by simp; omega)) (Below.refl _ _) (fun _ => rfl)
    (fun pre W => ((∀ y ∈ pre, byteB y = true) ∧ W.cell? ⟨w.heap.size, 0, none⟩ = some (.func (.func 51) #[] #[]) ∧ W.cell? ⟨w.heap.size + 1, 0, none⟩ = some (.bool false) ∧ W.frozen? ⟨w.heap.size + 1, 0, none⟩ = false) ∧ Below w.heap.size w W)
    (fun c pre W => (c = .ret ∧ (∃ y ∈ pre, byteB y = false) ∧ W.cell? ⟨w.heap.size + 1, 0, none⟩ = some (.bool false)) ∧ Below w.heap.size w W)
    (OwnFrom.and (Own.from (fun s A B row hs hg hr => ⟨hs.1, Go.cell_kept hs.2.1 hg hr, Go.cell_kept hs.2.2.1 hg hr, (frozen_kept hs.2.2.1 hg hr).trans hs.2.2.2⟩) _) (ownFrom_below (Nat.le_refl _) (by simp; omega)))
    (fun c => OwnFrom.and (Own.from (fun s A B row hs hg hr => ⟨hs.1, hs.2.1, Go.cell_kept hs.2.2 hg hr⟩) _) (ownFrom_below (Nat.le_refl _) (by simp; omega)))
    ⟨⟨by simp, ((b0.alloc _).alloc _).cell, (b1.alloc _).cell, (b1.alloc _).frozen⟩, hB0⟩
    (fun x => { tmps := #[.slice a n c, .func (.func 51) #[] #[], undef, .pointer (some ⟨w.heap.size, 0, none⟩), .pointer (some ⟨w.heap.size + 1, 0, none⟩), .int .i64 x, .slice a n c, .func (.func 60) #[] #[.pointer (some ⟨w.heap.size + 1 + 1, 0, none⟩)], .int .i64 x, undef, undef, undef, undef], defers := [] }) ?assign ?body ?done ?stop
  case assign =>
    intro l x W K hK
    gi_wp2
    exact hK
  case body =>
    rintro l pre x W ⟨⟨hp, hcw, hcr, hfr⟩, hB⟩ _
    have h1' : 1 ≤ 4 - 1 - 1 := by omega
    have KB := isByte_any x W
    have hlt : w.heap.size + 1 < W.heap.size := cell_in hcr
    cases hq : byteB x with
    | true =>
      rw [show byteB x = _ from hq] at KB
      gi_wp2_with (refine ⟨trivial, ?_⟩; gi_at_call 51; refine (CallsIn.inRound l (callsIn_wide.2 KB)).mono ?_; rintro e W2 ⟨rfl, hb2⟩)
      exact ⟨KeepsFrom.of_grownBy (grown_below hb2 none) (fun j e => by cases e), hb2.mono hB.size, ⟨fun y hy => (List.mem_append.1 hy).elim (hp y) (fun e => by rw [List.mem_singleton.1 e]; exact hq), cell_stay hcw hb2, cell_stay hcr hb2, by rw [← hfr]; exact hb2.frozen hlt⟩, hB.trans (hb2.mono hB.size)⟩
    | false =>
      rw [show byteB x = _ from hq] at KB
      gi_wp2_with (refine ⟨trivial, ?_⟩; gi_at_call 51; refine (CallsIn.inRound l (callsIn_wide.2 KB)).mono ?_; rintro e W2 ⟨rfl, hb2⟩; have hc2 := cell_stay hcr hb2; have hf2 : W2.frozen? ⟨w.heap.size + 1, 0, none⟩ = false := by rw [← hfr]; exact hb2.frozen hlt)
      exact ⟨(KeepsFrom.of_grownBy (grown_below hb2 none) (fun j e => by cases e)).trans ((KeepsOthers.setCell _ _ _).from _), ⟨rfl, ⟨x, List.mem_append.2 (.inr (by simp)), hq⟩, World.cell?_setCell_same' _ _ _ (by rw [hc2]; rfl)⟩, (hB.trans (hb2.mono hB.size)).setCell (p := ⟨w.heap.size + 1, 0, none⟩) (by simp) _⟩
  case done =>
    rintro D ys W hD hys ⟨⟨hp, _, hcr, hfr⟩, hB⟩ hK
    rw [hys] at hp
    have hres : (rowB y) = true := List.all_eq_true.2 hp
    gi_wp2
    have hK' := (KeepsOthers.setCell W ⟨w.heap.size + 1, 0, none⟩ (.bool true)).same D _ hK rfl
    refine ⟨by simp, .inl ⟨_, _, rfl, run_takeDeferred hK', ?_⟩⟩
    have hc5 := Go.cell_kept (World.cell?_setCell_same' W ⟨w.heap.size + 1, 0, none⟩ (.bool true) (by rw [hcr]; rfl)) (grownBy_putObj' _ D (.deferred none)) (fun r e => by cases e; exact ⟨_, hK', rfl⟩)
    refine ⟨.bool true, ?_, by first | rw [hres] | rfl, (hB.setCell (p := ⟨w.heap.size + 1, 0, none⟩) (by simp) _).trans (belowK_b (w := w) (Nat.le_refl _) _ D _ _ (by simp at hD; omega) hK' rfl rfl)⟩
    simp [results, Try.f50, go_sem, hc5]
  case stop =>
    rintro D c pre W hD hpre ⟨⟨rfl, ⟨y1, hy, hq⟩, hcr⟩, hB⟩ hK
    have hres : (rowB y) = false := by unfold rowB; rw [List.all_eq_false]; exact ⟨_, hpre.subset hy, by rw [hq]; decide⟩
    gi_wp2
    refine ⟨by simp, .inl ⟨_, _, rfl, run_takeDeferred hK, ?_⟩⟩
    have hc5 := Go.cell_kept hcr (grownBy_putObj' _ D (.deferred none)) (fun r e => by cases e; exact ⟨_, hK, rfl⟩)
    refine ⟨.bool false, ?_, by first | rw [hres] | rfl, hB.trans (belowK_b (w := w) (Nat.le_refl _) W D _ _ (by simp at hD; omega) hK rfl rfl)⟩
    simp [results, Try.f50, go_sem, hc5]

theorem areBytes_any {a : Option Addr} {n c : Nat} {y : List Int} {w : World} (h : Nums .i64 w a n y) : Calls Try.prog 40 #[.slice a n c] w (Told (.bool (rowB y)) w) := by
  have hH : Holds (fun z => Value.int .i64 z) w.heap.size w a y := fun k x hk => by
    obtain ⟨ad, z, e, hz, hc⟩ := h.at_ (j := k) (by rw [← h.len]; exact lt_ofL hk)
    rw [hk] at hz
    cases hz
    exact ⟨ad, e, hc, by have := cell_in hc; rwa [addr_block] at this⟩
  have K := callsIn_wide.1 (onlyI_in a n c w y h.len h.fits hH)
  clear h hH
  go_enter Try.func40, Try.ntmps40
  go_wp2_with fail
  refine K.mono ?_
  rintro e w1 ⟨rfl, hb⟩
  go_wp2_with fail
  go_ret
  exact ⟨rfl, hb⟩

set_option maxRecDepth 100000 in
set_option maxHeartbeats 4000000 in
theorem onlyR_in (a : Option Addr) (n c : Nat) (w : World) (xs : List (Rx w)) (hl : xs.length = n) (hn : (n : Int) ≤ 9223372036854775807) (hH : Holds Rx.val w.heap.size w a xs) :
    CallsIn Fence.wide 4 Try.prog 39 #[.slice a n c, .func (.func 40) #[] #[]] w fun e W' => e = .returned (.bool ((xs.map Rx.y).all rowB)) ∧ Below w.heap.size w W' := by
  have h1 : 1 ≤ 4 := by omega
  refine callsIn_of_wp_marks Try.func39 rfl trivial ?_ rfl
  simp only [Try.ntmps39, List.size_toArray, List.length_cons, List.length_nil, Nat.reduceAdd, Nat.reduceSub, Array.replicate_succ, Array.replicate_zero, List.push_toArray, List.append_toArray, List.nil_append, List.cons_append]
  gi_wp2_with (refine ⟨trivial, ?_⟩; gi_at_call 43; refine (callsIn_wide.2 (firstR_any _ _ _ _)).mono ?_; rintro e w' ⟨rfl, rfl⟩)
  have b0 := Boxed.new w 46 (.func (.func 40) #[] #[])
  have b1 := Boxed.new (w.alloc (.cells #[.func (.func 40) #[] #[]] 46)) 4 (.bool false)
  have b2 := Boxed.new ((w.alloc (.cells #[.func (.func 40) #[] #[]] 46)).alloc (.cells #[.bool false] 4)) 48 (.slice a n c)
  simp only [World.size_alloc] at b1 b2
  have hB0 : Below w.heap.size w (((w.alloc (.cells #[.func (.func 40) #[] #[]] 46)).alloc (.cells #[.bool false] 4)).alloc (.cells #[.slice a n c] 48)) := (((Below.refl _ w).alloc (Nat.le_refl _) _).alloc (by simp) _).alloc (by simp; omega) _
  refine wpIn_rangeFunc_ownG rfl h1 (gf := 58) (lb := #[.pointer (some ⟨w.heap.size + 1 + 1, 0, none⟩)]) rfl trivial (enters_of Try.func58 (by kernel_rfl) rfl)
    (valuesR_stops (α := Rx w) Rx.val 3 (w.heap.size + 1 + 1) w.heap.size a n c xs (by omega) hl hn _ b2.cell (by simp; omega) (hH.below hB0)) belowK_t (belowK_b (by simp; omega)) (Below.refl _ _) (fun _ => rfl)
    (fun pre W => ((∀ y ∈ pre, Rx.ok y = true) ∧ W.cell? ⟨w.heap.size, 0, none⟩ = some (.func (.func 40) #[] #[]) ∧ W.cell? ⟨w.heap.size + 1, 0, none⟩ = some (.bool false) ∧ W.frozen? ⟨w.heap.size + 1, 0, none⟩ = false) ∧ Below w.heap.size w W)
    (fun c pre W => (c = .ret ∧ (∃ y ∈ pre, Rx.ok y = false) ∧ W.cell? ⟨w.heap.size + 1, 0, none⟩ = some (.bool false)) ∧ Below w.heap.size w W)
    (OwnFrom.and (Own.from (fun s A B row hs hg hr => ⟨hs.1, Go.cell_kept hs.2.1 hg hr, Go.cell_kept hs.2.2.1 hg hr, (frozen_kept hs.2.2.1 hg hr).trans hs.2.2.2⟩) _) (ownFrom_below (Nat.le_refl _) (by simp; omega)))
    (fun c => OwnFrom.and (Own.from (fun s A B row hs hg hr => ⟨hs.1, hs.2.1, Go.cell_kept hs.2.2 hg hr⟩) _) (ownFrom_below (Nat.le_refl _) (by simp; omega)))
    ⟨⟨by simp, ((b0.alloc _).alloc _).cell, (b1.alloc _).cell, (b1.alloc _).frozen⟩, hB0⟩
    (fun x => { tmps := #[.slice a n c, .func (.func 40) #[] #[], undef, .pointer (some ⟨w.heap.size, 0, none⟩), .pointer (some ⟨w.heap.size + 1, 0, none⟩), .slice x.p x.m x.c, .slice a n c, .func (.func 58) #[] #[.pointer (some ⟨w.heap.size + 1 + 1, 0, none⟩)], .slice x.p x.m x.c, undef, undef, undef, undef], defers := [] }) ?assign ?body ?done ?stop
  case assign =>
    intro l x W K hK
    (try unfold Rx.val); gi_wp2
    exact hK
  case body =>
    rintro l pre x W ⟨⟨hp, hcw, hcr, hfr⟩, hB⟩ _
    have h1' : 1 ≤ 4 - 1 - 1 := by omega
    have KB := areBytes_any (c := x.c) (x.nums.same hB)
    have hlt : w.heap.size + 1 < W.heap.size := cell_in hcr
    cases hq : Rx.ok x with
    | true =>
      rw [show rowB x.y = _ from hq] at KB
      (try unfold Rx.val); gi_wp2_with (refine ⟨trivial, ?_⟩; gi_at_call 40; refine (CallsIn.inRound l (callsIn_wide.2 KB)).mono ?_; rintro e W2 ⟨rfl, hb2⟩)
      exact ⟨KeepsFrom.of_grownBy (grown_below hb2 none) (fun j e => by cases e), hb2.mono hB.size, ⟨fun y hy => (List.mem_append.1 hy).elim (hp y) (fun e => by rw [List.mem_singleton.1 e]; exact hq), cell_stay hcw hb2, cell_stay hcr hb2, by rw [← hfr]; exact hb2.frozen hlt⟩, hB.trans (hb2.mono hB.size)⟩
    | false =>
      rw [show rowB x.y = _ from hq] at KB
      (try unfold Rx.val); gi_wp2_with (refine ⟨trivial, ?_⟩; gi_at_call 40; refine (CallsIn.inRound l (callsIn_wide.2 KB)).mono ?_; rintro e W2 ⟨rfl, hb2⟩; have hc2 := cell_stay hcr hb2; have hf2 : W2.frozen? ⟨w.heap.size + 1, 0, none⟩ = false := by rw [← hfr]; exact hb2.frozen hlt)
      exact ⟨(KeepsFrom.of_grownBy (grown_below hb2 none) (fun j e => by cases e)).trans ((KeepsOthers.setCell _ _ _).from _), ⟨rfl, ⟨x, List.mem_append.2 (.inr (by simp)), hq⟩, World.cell?_setCell_same' _ _ _ (by rw [hc2]; rfl)⟩, (hB.trans (hb2.mono hB.size)).setCell (p := ⟨w.heap.size + 1, 0, none⟩) (by simp) _⟩
  case done =>
    rintro D ys W hD hys ⟨⟨hp, _, hcr, hfr⟩, hB⟩ hK
    rw [hys] at hp
    have hres : ((xs.map Rx.y).all rowB) = true := by rw [List.all_map]; exact List.all_eq_true.2 hp
    gi_wp2
    have hK' := (KeepsOthers.setCell W ⟨w.heap.size + 1, 0, none⟩ (.bool true)).same D _ hK rfl
    refine ⟨by simp, .inl ⟨_, _, rfl, run_takeDeferred hK', ?_⟩⟩
    have hc5 := Go.cell_kept (World.cell?_setCell_same' W ⟨w.heap.size + 1, 0, none⟩ (.bool true) (by rw [hcr]; rfl)) (grownBy_putObj' _ D (.deferred none)) (fun r e => by cases e; exact ⟨_, hK', rfl⟩)
    refine ⟨.bool true, ?_, by first | rw [hres] | rfl, (hB.setCell (p := ⟨w.heap.size + 1, 0, none⟩) (by simp) _).trans (belowK_b (w := w) (Nat.le_refl _) _ D _ _ (by simp at hD; omega) hK' rfl rfl)⟩
    simp [results, Try.f39, go_sem, hc5]
  case stop =>
    rintro D c pre W hD hpre ⟨⟨rfl, ⟨y1, hy, hq⟩, hcr⟩, hB⟩ hK
    have hres : ((xs.map Rx.y).all rowB) = false := by rw [List.all_map, List.all_eq_false]; exact ⟨_, hpre.subset hy, by show ¬ rowB _ = true; rw [show rowB y1.y = false from hq]; decide⟩
    gi_wp2
    refine ⟨by simp, .inl ⟨_, _, rfl, run_takeDeferred hK, ?_⟩⟩
    have hc5 := Go.cell_kept hcr (grownBy_putObj' _ D (.deferred none)) (fun r e => by cases e; exact ⟨_, hK, rfl⟩)
    refine ⟨.bool false, ?_, by first | rw [hres] | rfl, hB.trans (belowK_b (w := w) (Nat.le_refl _) W D _ _ (by simp at hD; omega) hK rfl rfl)⟩
    simp [results, Try.f39, go_sem, hc5]

theorem isTranscript_any {a : Option Addr} {n c : Nat} {l : List (List Int)} {w : World} (h : Rws w a n l) : Calls Try.prog 20 #[.slice a n c] w (Told (.bool (isTr l)) w) := by
  obtain ⟨xs, hx1, hx2, hx3⟩ := h.heads
  have K := callsIn_wide.1 (onlyR_in a n c w xs hx1 h.fits hx3)
  rw [hx2] at K
  have hl := h.len
  have hf := h.fits
  clear h hx1 hx2 hx3
  by_cases h12 : n ≤ 12
  · have e : isTr l = l.all rowB := by unfold isTr; rw [decide_eq_true (by omega)]; simp
    rw [e]
    clear e
    go_enter Try.func20, Try.ntmps20
    go_wp2_with fail
    refine K.mono ?_
    rintro e w1 ⟨rfl, hb⟩
    go_wp2_with fail
    go_ret
    exact ⟨rfl, hb⟩
  · have e : isTr l = false := by unfold isTr; rw [decide_eq_false (by omega)]; rfl
    rw [e]
    clear e K
    go_enter Try.func20, Try.ntmps20
    go_wp2_with fail
    go_ret
    exact ⟨rfl, Below.refl _ _⟩
end Go.Proofs.Ytiaknjeeonlbcaa
