/- The mathematics of transcripts: lists of messages, each a list of bytes; their hash, and what each side makes of it. No function of the program is spoken of. Bytes, messages of bytes, transcripts: by the program. The hash of a transcript, what each side makes of it, and whether it checks out: by the program. The hash of a transcript, what each side makes of it, whether it checks out: by the program. -/
import Derived.Test.YtcmjadfpifpknaaGreatG18
import Derived.Test.YtcmjadfpifpknaaGreatG11
import Derived.Test.YtcmjadfpifpknaaGreatG19
import Derived.Test.YtcmjadfpifpknaaGreatG12
import Derived.Test.YtcmjadfpifpknaaGreatG5
import Derived.Test.YtcmjadfpifpknaaGreatG3
import Derived.Test.YtcmjadfpifpknaaGreatG15
import Derived.StillTailTactics
import Derived.Handy
namespace Go.Proofs.YtcmjadfpifpknaaGreat
set_option linter.unusedVariables false

def byteB (z : Int) : Bool := decide (0 ≤ z) && decide (z ≤ 255)
def rowB (y : List Int) : Bool := y.all byteB
def isTr (l : List (List Int)) : Bool := decide (l.length ≤ 12) && l.all rowB
/-- A message is taken into the hash. -/
def thStep (h : Int) (y : List Int) : Int := hashOf ([h, (y.length : Int)] ++ y)
def thAll (l : List (List Int)) : Int := l.foldl thStep 1
def trH (l : List (List Int)) : Int := if isTr l then thAll l else 0
def keyB (k : Int) : Bool := decide (1 ≤ k) && decide (k ≤ 2147483646)
def sideB (s : Int) : Bool := decide (0 ≤ s) && decide (s ≤ 1)
def finP (k : Int) (l : List (List Int)) (s : Int) : Int := if keyB k && isTr l && sideB s then khash k [s, trH l] else 0
def chkP (k : Int) (l : List (List Int)) (s f : Int) : Bool := !(f == 0) && (finP k l s == f)
theorem rowB_no {y : List Int} {j : Nat} {z : Int} (hz : y[j]? = some z) (h : byteB z = false) : rowB y = false := by
  unfold rowB
  rw [List.all_eq_false]
  exact ⟨z, List.mem_of_getElem? hz, by rw [h]; decide⟩
theorem rowB_zero (y : List Int) : rowB (y.take 0) = true := by simp [rowB]
theorem rowB_step {y : List Int} {j : Nat} {z : Int} (h : rowB (y.take j) = true) (hz : y[j]? = some z) (hi : byteB z = true) : rowB (y.take (j + 1)) = true := by
  unfold rowB at *
  rw [List.take_add_one, hz, Option.toList_some, List.all_append, h]
  simpa using hi
theorem allR_step {l : List (List Int)} {j : Nat} {y : List Int} (h : (l.take j).all rowB = true) (hy : l[j]? = some y) (hi : rowB y = true) : (l.take (j + 1)).all rowB = true := by
  rw [List.take_add_one, hy, Option.toList_some, List.all_append, h]
  simpa using hi
theorem allR_no {l : List (List Int)} {j : Nat} {y : List Int} (hy : l[j]? = some y) (h : rowB y = false) : l.all rowB = false := by
  rw [List.all_eq_false]
  exact ⟨y, List.mem_of_getElem? hy, by rw [h]; decide⟩
theorem thAll_snoc (l : List (List Int)) (y : List Int) : thAll (l ++ [y]) = thStep (thAll l) y := by unfold thAll; rw [List.foldl_append]; rfl
theorem thAll_take {l : List (List Int)} {j : Nat} {y : List Int} (h : l[j]? = some y) : thAll (l.take (j + 1)) = thStep (thAll (l.take j)) y := by rw [List.take_add_one, h]; exact thAll_snoc _ _
theorem thAll_bd (l : List (List Int)) : 0 ≤ thAll l ∧ thAll l < 2147483647 := by
  rcases List.eq_nil_or_concat l with rfl | ⟨r, y, rfl⟩
  · exact ⟨by decide, by decide⟩
  · rw [List.concat_eq_append, thAll_snoc]
    exact hashOf_bd _
theorem trH_bd (l : List (List Int)) : 0 ≤ trH l ∧ trH l < 2147483647 := by
  unfold trH
  split
  · exact thAll_bd l
  · exact ⟨by decide, by decide⟩
theorem finP_bd (k : Int) (l : List (List Int)) (s : Int) : 0 ≤ finP k l s ∧ finP k l s < 2147483647 := by
  unfold finP
  split
  · exact khash_bd _ _
  · exact ⟨by decide, by decide⟩
theorem isTr_parts {l : List (List Int)} (h : isTr l = true) : l.length ≤ 12 ∧ l.all rowB = true := by
  unfold isTr at h
  rw [Bool.and_eq_true] at h
  exact ⟨of_decide_eq_true h.1, h.2⟩
theorem row_fits {l : List (List Int)} (h : l.all rowB = true) {y : List Int} (hy : y ∈ l) : ∀ z ∈ y, 0 ≤ z ∧ z ≤ 255 := fun z hz => by
  have h1 := List.all_eq_true.1 h y hy
  have h2 := List.all_eq_true.1 h1 z hz
  unfold byteB at h2
  rw [Bool.and_eq_true] at h2
  exact ⟨of_decide_eq_true h2.1, of_decide_eq_true h2.2⟩
theorem finP_zero {k : Int} {l : List (List Int)} {s : Int} (h : keyB k = false ∨ isTr l = false ∨ sideB s = false) : finP k l s = 0 := by
  unfold finP
  rw [if_neg]
  rcases h with h | h | h <;> simp [h]
theorem finP_some {k : Int} {l : List (List Int)} {s : Int} (h1 : keyB k = true) (h2 : isTr l = true) (h3 : sideB s = true) : finP k l s = khash k [s, trH l] := by
  unfold finP
  rw [if_pos (by simp [h1, h2, h3])]
end Go.Proofs.YtcmjadfpifpknaaGreat
namespace Go.Proofs.YtcmjadfpifpknaaGreat
open Go.ChangeShapes Go.WideShapes Go.ChangeAt Go.RowKit Go.Shelf
set_option linter.unusedVariables false
attribute [local go_sem] Oper.semAt_some

theorem isByte_any (z : Int) (w : World) : Calls Tryz.prog 165 #[.int .i64 z] w (Told (.bool (byteB z)) w) := by
  have K : Calls Tryz.prog 55 #[.int .i64 z, .int .i64 0, .int .i64 255] w fun e w' => e = .returned (.bool (byteB z)) ∧ w = w' := by
    unfold byteB
    by_cases h1 : (0 : Int) ≤ z <;> by_cases h2 : z ≤ 255 <;> (go_enter Tryz.func55, Tryz.ntmps55; go_wp2; go_ret; exact ⟨by simp [h1, h2], rfl⟩)
  go_enter Tryz.func165, Tryz.ntmps165
  go_wp2_with fail
  refine K.mono ?_
  rintro e w1 ⟨rfl, rfl⟩
  go_wp2_with fail
  go_ret
  exact ⟨rfl, Below.refl _ _⟩
/-- A list of integers as a walk holds it: where it lies, and what it is. -/
structure Rx (w : World) where
  p : Option Addr
  m : Nat
  c : Nat
  y : List Int
  nums : Nums .i64 w p m y
def Rx.ok {w : World} (x : Rx w) : Bool := rowB x.y
def Rx.val {w : World} (x : Rx w) : Value := .slice x.p x.m x.c
theorem Rws.heads {w : World} {a : Option Addr} {n : Nat} {l : List (List Int)} (h : Rws w a n l) : ∃ xs : List (Rx w), xs.length = n ∧ xs.map Rx.y = l ∧ Holds Rx.val w.heap.size w a xs := by
  have each : ∀ j : Fin n, ∃ x : Rx w, l[j.1]? = some x.y ∧ ∃ ad, a = some ad ∧ w.cell? (ad.add j.1) = some x.val := fun j => by
    obtain ⟨ad, p, m, c, y, e, hy, h0, hN, _⟩ := h.at_ j.2
    exact ⟨⟨p, m, c, y, hN⟩, hy, ad, e, h0⟩
  obtain ⟨f, hf⟩ := Classical.axiomOfChoice each
  refine ⟨(List.finRange n).map f, by simp, ?_, fun k x hk => ?_⟩
  · apply List.ext_getElem?
    intro i
    rcases Nat.lt_or_ge i n with hi | hi
    · rw [(hf ⟨i, hi⟩).1]
      simp [hi]
    · rw [List.getElem?_eq_none (by simpa using hi), List.getElem?_eq_none (by rw [h.len]; exact hi)]
  · have hkn : k < n := by have := lt_ofL hk; simpa using this
    have e : x = f ⟨k, hkn⟩ := by
      rw [List.getElem?_map] at hk
      have e1 : (List.finRange n)[k]? = some ⟨k, hkn⟩ := by simp [hkn]
      rw [e1] at hk
      exact (Option.some.inj hk).symm
    subst e
    obtain ⟨_, ad, e2, h0⟩ := hf ⟨k, hkn⟩
    exact ⟨ad, e2, h0, by have := cell_in h0; rwa [addr_block] at this⟩

set_option maxRecDepth 100000 in
set_option maxHeartbeats 4000000 in
theorem onlyI_in (a : Option Addr) (n c : Nat) (w : World) (y : List Int) (hl : y.length = n) (hn : (n : Int) ≤ 9223372036854775807) (hH : Holds (fun z => Value.int .i64 z) w.heap.size w a y) :
    CallsIn Fence.wide 4 Tryz.prog 164 #[.slice a n c, .func (.func 165) #[] #[]] w fun e W' => e = .returned (.bool (rowB y)) ∧ Below w.heap.size w W' := by
  have h1 : 1 ≤ 4 := by omega
  refine callsIn_of_wp_marks Tryz.func164 rfl trivial ?_ rfl
  simp only [Tryz.ntmps164, List.size_toArray, List.length_cons, List.length_nil, Nat.reduceAdd, Nat.reduceSub, Array.replicate_succ, Array.replicate_zero, List.push_toArray, List.append_toArray, List.nil_append, List.cons_append]
  gi_wp2_with (refine ⟨trivial, ?_⟩; gi_at_call 171; refine (callsIn_wide.2 (firstI_any _ _ _ _)).mono ?_; rintro e w' ⟨rfl, rfl⟩)
  have b0 := Boxed.new w 38 (.func (.func 165) #[] #[])
  have b1 := Boxed.new (w.alloc (.cells #[.func (.func 165) #[] #[]] 38)) 4 (.bool false)
  have b2 := Boxed.new ((w.alloc (.cells #[.func (.func 165) #[] #[]] 38)).alloc (.cells #[.bool false] 4)) 183 (.slice a n c)
  simp only [World.size_alloc] at b1 b2
  have hB0 : Below w.heap.size w (((w.alloc (.cells #[.func (.func 165) #[] #[]] 38)).alloc (.cells #[.bool false] 4)).alloc (.cells #[.slice a n c] 183)) := (((Below.refl _ w).alloc (Nat.le_refl _) _).alloc (by simp) _).alloc (by simp; omega) _
  refine wpIn_rangeFunc_ownG rfl h1 (gf := 174) (lb := #[.pointer (some ⟨w.heap.size + 1 + 1, 0, none⟩)]) rfl trivial (enters_of Tryz.func174 (by kernel_rfl) rfl)
    (valuesI_stops (α := Int) (fun z => Value.int .i64 z) 3 (w.heap.size + 1 + 1) w.heap.size a n c y (by omega) hl hn _ b2.cell (by simp; omega) (hH.below hB0)) belowK_t (belowK_b (by simp; omega)) (Below.refl _ _) (fun _ => rfl)
    (fun pre W => ((∀ y ∈ pre, byteB y = true) ∧ W.cell? ⟨w.heap.size, 0, none⟩ = some (.func (.func 165) #[] #[]) ∧ W.cell? ⟨w.heap.size + 1, 0, none⟩ = some (.bool false) ∧ W.frozen? ⟨w.heap.size + 1, 0, none⟩ = false) ∧ Below w.heap.size w W)
    (fun c pre W => (c = .ret ∧ (∃ y ∈ pre, byteB y = false) ∧ W.cell? ⟨w.heap.size + 1, 0, none⟩ = some (.bool false)) ∧ Below w.heap.size w W)
    (OwnFrom.and (Own.from (fun s A B row hs hg hr => ⟨hs.1, Go.cell_kept hs.2.1 hg hr, Go.cell_kept hs.2.2.1 hg hr, (frozen_kept hs.2.2.1 hg hr).trans hs.2.2.2⟩) _) (ownFrom_below (Nat.le_refl _) (by simp; omega)))
    (fun c => OwnFrom.and (Own.from (fun s A B row hs hg hr => ⟨hs.1, hs.2.1, Go.cell_kept hs.2.2 hg hr⟩) _) (ownFrom_below (Nat.le_refl _) (by simp; omega)))
    ⟨⟨by simp, ((b0.alloc _).alloc _).cell, (b1.alloc _).cell, (b1.alloc _).frozen⟩, hB0⟩
    (fun x => { tmps := #[.slice a n c, .func (.func 165) #[] #[], undef, .pointer (some ⟨w.heap.size, 0, none⟩), .pointer (some ⟨w.heap.size + 1, 0, none⟩), .int .i64 x, .slice a n c, .func (.func 174) #[] #[.pointer (some ⟨w.heap.size + 1 + 1, 0, none⟩)], .int .i64 x, undef, undef, undef, undef], defers := [] }) ?assign ?body ?done ?stop
  case assign =>
    intro l x W K hK
    gi_wp2
    exact hK
  case body =>
    rintro l pre x W ⟨⟨hp, hcw, hcr, hfr⟩, hB⟩ _
    have h1' : 1 ≤ 4 - 1 - 1 := by omega
    have KB := isByte_any x W
    have hlt : w.heap.size + 1 < W.heap.size := cell_in hcr
    cases hq : byteB x with
    | true =>
      rw [show byteB x = _ from hq] at KB
      gi_wp2_with (refine ⟨trivial, ?_⟩; gi_at_call 165; refine (CallsIn.inRound l (callsIn_wide.2 KB)).mono ?_; rintro e W2 ⟨rfl, hb2⟩)
      exact ⟨KeepsFrom.of_grownBy (grown_below hb2 none) (fun j e => by cases e), hb2.mono hB.size, ⟨fun y hy => (List.mem_append.1 hy).elim (hp y) (fun e => by rw [List.mem_singleton.1 e]; exact hq), cell_stay hcw hb2, cell_stay hcr hb2, by rw [← hfr]; exact hb2.frozen hlt⟩, hB.trans (hb2.mono hB.size)⟩
    | false =>
      rw [show byteB x = _ from hq] at KB
      gi_wp2_with (refine ⟨trivial, ?_⟩; gi_at_call 165; refine (CallsIn.inRound l (callsIn_wide.2 KB)).mono ?_; rintro e W2 ⟨rfl, hb2⟩; have hc2 := cell_stay hcr hb2; have hf2 : W2.frozen? ⟨w.heap.size + 1, 0, none⟩ = false := by rw [← hfr]; exact hb2.frozen hlt)
      exact ⟨(KeepsFrom.of_grownBy (grown_below hb2 none) (fun j e => by cases e)).trans ((KeepsOthers.setCell _ _ _).from _), ⟨rfl, ⟨x, List.mem_append.2 (.inr (by simp)), hq⟩, World.cell?_setCell_same' _ _ _ (by rw [hc2]; rfl)⟩, (hB.trans (hb2.mono hB.size)).setCell (p := ⟨w.heap.size + 1, 0, none⟩) (by simp) _⟩
  case done =>
    rintro D ys W hD hys ⟨⟨hp, _, hcr, hfr⟩, hB⟩ hK
    rw [hys] at hp
    have hres : (rowB y) = true := List.all_eq_true.2 hp
    gi_wp2
    have hK' := (KeepsOthers.setCell W ⟨w.heap.size + 1, 0, none⟩ (.bool true)).same D _ hK rfl
    refine ⟨by simp, .inl ⟨_, _, rfl, run_takeDeferred hK', ?_⟩⟩
    have hc5 := Go.cell_kept (World.cell?_setCell_same' W ⟨w.heap.size + 1, 0, none⟩ (.bool true) (by rw [hcr]; rfl)) (grownBy_putObj' _ D (.deferred none)) (fun r e => by cases e; exact ⟨_, hK', rfl⟩)
    refine ⟨.bool true, ?_, by first | rw [hres] | rfl, (hB.setCell (p := ⟨w.heap.size + 1, 0, none⟩) (by simp) _).trans (belowK_b (w := w) (Nat.le_refl _) _ D _ _ (by simp at hD; omega) hK' rfl rfl)⟩
    simp [results, Tryz.f164, go_sem, hc5]
  case stop =>
    rintro D c pre W hD hpre ⟨⟨rfl, ⟨y1, hy, hq⟩, hcr⟩, hB⟩ hK
    have hres : (rowB y) = false := by unfold rowB; rw [List.all_eq_false]; exact ⟨_, hpre.subset hy, by rw [hq]; decide⟩
    gi_wp2
    refine ⟨by simp, .inl ⟨_, _, rfl, run_takeDeferred hK, ?_⟩⟩
    have hc5 := Go.cell_kept hcr (grownBy_putObj' _ D (.deferred none)) (fun r e => by cases e; exact ⟨_, hK, rfl⟩)
    refine ⟨.bool false, ?_, by first | rw [hres] | rfl, hB.trans (belowK_b (w := w) (Nat.le_refl _) W D _ _ (by simp at hD; omega) hK rfl rfl)⟩
    simp [results, Tryz.f164, go_sem, hc5]

theorem areBytes_any {a : Option Addr} {n c : Nat} {y : List Int} {w : World} (h : Nums .i64 w a n y) : Calls Tryz.prog 150 #[.slice a n c] w (Told (.bool (rowB y)) w) := by
  have hH : Holds (fun z => Value.int .i64 z) w.heap.size w a y := fun k x hk => by
    obtain ⟨ad, z, e, hz, hc⟩ := h.at_ (j := k) (by rw [← h.len]; exact lt_ofL hk)
    rw [hk] at hz
    cases hz
    exact ⟨ad, e, hc, by have := cell_in hc; rwa [addr_block] at this⟩
  have K := callsIn_wide.1 (onlyI_in a n c w y h.len h.fits hH)
  clear h hH
  go_enter Tryz.func150, Tryz.ntmps150
  go_wp2_with fail
  refine K.mono ?_
  rintro e w1 ⟨rfl, hb⟩
  go_wp2_with fail
  go_ret
  exact ⟨rfl, hb⟩

set_option maxRecDepth 100000 in
set_option maxHeartbeats 4000000 in
theorem onlyR_in (a : Option Addr) (n c : Nat) (w : World) (xs : List (Rx w)) (hl : xs.length = n) (hn : (n : Int) ≤ 9223372036854775807) (hH : Holds Rx.val w.heap.size w a xs) :
    CallsIn Fence.wide 4 Tryz.prog 149 #[.slice a n c, .func (.func 150) #[] #[]] w fun e W' => e = .returned (.bool ((xs.map Rx.y).all rowB)) ∧ Below w.heap.size w W' := by
  have h1 : 1 ≤ 4 := by omega
  refine callsIn_of_wp_marks Tryz.func149 rfl trivial ?_ rfl
  simp only [Tryz.ntmps149, List.size_toArray, List.length_cons, List.length_nil, Nat.reduceAdd, Nat.reduceSub, Array.replicate_succ, Array.replicate_zero, List.push_toArray, List.append_toArray, List.nil_append, List.cons_append]
  gi_wp2_with (refine ⟨trivial, ?_⟩; gi_at_call 153; refine (callsIn_wide.2 (firstR_any _ _ _ _)).mono ?_; rintro e w' ⟨rfl, rfl⟩)
  have b0 := Boxed.new w 87 (.func (.func 150) #[] #[])
  have b1 := Boxed.new (w.alloc (.cells #[.func (.func 150) #[] #[]] 87)) 4 (.bool false)
  have b2 := Boxed.new ((w.alloc (.cells #[.func (.func 150) #[] #[]] 87)).alloc (.cells #[.bool false] 4)) 165 (.slice a n c)
  simp only [World.size_alloc] at b1 b2
  have hB0 : Below w.heap.size w (((w.alloc (.cells #[.func (.func 150) #[] #[]] 87)).alloc (.cells #[.bool false] 4)).alloc (.cells #[.slice a n c] 165)) := (((Below.refl _ w).alloc (Nat.le_refl _) _).alloc (by simp) _).alloc (by simp; omega) _
  refine wpIn_rangeFunc_ownG rfl h1 (gf := 172) (lb := #[.pointer (some ⟨w.heap.size + 1 + 1, 0, none⟩)]) rfl trivial (enters_of Tryz.func172 (by kernel_rfl) rfl)
    (valuesR_stops (α := Rx w) Rx.val 3 (w.heap.size + 1 + 1) w.heap.size a n c xs (by omega) hl hn _ b2.cell (by simp; omega) (hH.below hB0)) belowK_t (belowK_b (by simp; omega)) (Below.refl _ _) (fun _ => rfl)
    (fun pre W => ((∀ y ∈ pre, Rx.ok y = true) ∧ W.cell? ⟨w.heap.size, 0, none⟩ = some (.func (.func 150) #[] #[]) ∧ W.cell? ⟨w.heap.size + 1, 0, none⟩ = some (.bool false) ∧ W.frozen? ⟨w.heap.size + 1, 0, none⟩ = false) ∧ Below w.heap.size w W)
    (fun c pre W => (c = .ret ∧ (∃ y ∈ pre, Rx.ok y = false) ∧ W.cell? ⟨w.heap.size + 1, 0, none⟩ = some (.bool false)) ∧ Below w.heap.size w W)
    (OwnFrom.and (Own.from (fun s A B row hs hg hr => ⟨hs.1, Go.cell_kept hs.2.1 hg hr, Go.cell_kept hs.2.2.1 hg hr, (frozen_kept hs.2.2.1 hg hr).trans hs.2.2.2⟩) _) (ownFrom_below (Nat.le_refl _) (by simp; omega)))
    (fun c => OwnFrom.and (Own.from (fun s A B row hs hg hr => ⟨hs.1, hs.2.1, Go.cell_kept hs.2.2 hg hr⟩) _) (ownFrom_below (Nat.le_refl _) (by simp; omega)))
    ⟨⟨by simp, ((b0.alloc _).alloc _).cell, (b1.alloc _).cell, (b1.alloc _).frozen⟩, hB0⟩
    (fun x => { tmps := #[.slice a n c, .func (.func 150) #[] #[], undef, .pointer (some ⟨w.heap.size, 0, none⟩), .pointer (some ⟨w.heap.size + 1, 0, none⟩), .slice x.p x.m x.c, .slice a n c, .func (.func 172) #[] #[.pointer (some ⟨w.heap.size + 1 + 1, 0, none⟩)], .slice x.p x.m x.c, undef, undef, undef, undef], defers := [] }) ?assign ?body ?done ?stop
  case assign =>
    intro l x W K hK
    (try unfold Rx.val); gi_wp2
    exact hK
  case body =>
    rintro l pre x W ⟨⟨hp, hcw, hcr, hfr⟩, hB⟩ _
    have h1' : 1 ≤ 4 - 1 - 1 := by omega
    have KB := areBytes_any (c := x.c) (x.nums.same hB)
    have hlt : w.heap.size + 1 < W.heap.size := cell_in hcr
    cases hq : Rx.ok x with
    | true =>
      rw [show rowB x.y = _ from hq] at KB
      (try unfold Rx.val); gi_wp2_with (refine ⟨trivial, ?_⟩; gi_at_call 150; refine (CallsIn.inRound l (callsIn_wide.2 KB)).mono ?_; rintro e W2 ⟨rfl, hb2⟩)
      exact ⟨KeepsFrom.of_grownBy (grown_below hb2 none) (fun j e => by cases e), hb2.mono hB.size, ⟨fun y hy => (List.mem_append.1 hy).elim (hp y) (fun e => by rw [List.mem_singleton.1 e]; exact hq), cell_stay hcw hb2, cell_stay hcr hb2, by rw [← hfr]; exact hb2.frozen hlt⟩, hB.trans (hb2.mono hB.size)⟩
    | false =>
      rw [show rowB x.y = _ from hq] at KB
      (try unfold Rx.val); gi_wp2_with (refine ⟨trivial, ?_⟩; gi_at_call 150; refine (CallsIn.inRound l (callsIn_wide.2 KB)).mono ?_; rintro e W2 ⟨rfl, hb2⟩; have hc2 := cell_stay hcr hb2; have hf2 : W2.frozen? ⟨w.heap.size + 1, 0, none⟩ = false := by rw [← hfr]; exact hb2.frozen hlt)
      exact ⟨(KeepsFrom.of_grownBy (grown_below hb2 none) (fun j e => by cases e)).trans ((KeepsOthers.setCell _ _ _).from _), ⟨rfl, ⟨x, List.mem_append.2 (.inr (by simp)), hq⟩, World.cell?_setCell_same' _ _ _ (by rw [hc2]; rfl)⟩, (hB.trans (hb2.mono hB.size)).setCell (p := ⟨w.heap.size + 1, 0, none⟩) (by simp) _⟩
  case done =>
    rintro D ys W hD hys ⟨⟨hp, _, hcr, hfr⟩, hB⟩ hK
    rw [hys] at hp
    have hres : ((xs.map Rx.y).all rowB) = true := by rw [List.all_map]; exact List.all_eq_true.2 hp
    gi_wp2
    have hK' := (KeepsOthers.setCell W ⟨w.heap.size + 1, 0, none⟩ (.bool true)).same D _ hK rfl
    refine ⟨by simp, .inl ⟨_, _, rfl, run_takeDeferred hK', ?_⟩⟩
    have hc5 := Go.cell_kept (World.cell?_setCell_same' W ⟨w.heap.size + 1, 0, none⟩ (.bool true) (by rw [hcr]; rfl)) (grownBy_putObj' _ D (.deferred none)) (fun r e => by cases e; exact ⟨_, hK', rfl⟩)
    refine ⟨.bool true, ?_, by first | rw [hres] | rfl, (hB.setCell (p := ⟨w.heap.size + 1, 0, none⟩) (by simp) _).trans (belowK_b (w := w) (Nat.le_refl _) _ D _ _ (by simp at hD; omega) hK' rfl rfl)⟩
    simp [results, Tryz.f149, go_sem, hc5]
  case stop =>
    rintro D c pre W hD hpre ⟨⟨rfl, ⟨y1, hy, hq⟩, hcr⟩, hB⟩ hK
    have hres : ((xs.map Rx.y).all rowB) = false := by rw [List.all_map, List.all_eq_false]; exact ⟨_, hpre.subset hy, by show ¬ rowB _ = true; rw [show rowB y1.y = false from hq]; decide⟩
    gi_wp2
    refine ⟨by simp, .inl ⟨_, _, rfl, run_takeDeferred hK, ?_⟩⟩
    have hc5 := Go.cell_kept hcr (grownBy_putObj' _ D (.deferred none)) (fun r e => by cases e; exact ⟨_, hK, rfl⟩)
    refine ⟨.bool false, ?_, by first | rw [hres] | rfl, hB.trans (belowK_b (w := w) (Nat.le_refl _) W D _ _ (by simp at hD; omega) hK rfl rfl)⟩
    simp [results, Tryz.f149, go_sem, hc5]

theorem isTranscript_any {a : Option Addr} {n c : Nat} {l : List (List Int)} {w : World} (h : Rws w a n l) : Calls Tryz.prog 132 #[.slice a n c] w (Told (.bool (isTr l)) w) := by
  obtain ⟨xs, hx1, hx2, hx3⟩ := h.heads
  have K := callsIn_wide.1 (onlyR_in a n c w xs hx1 h.fits hx3)
  rw [hx2] at K
  have hl := h.len
  have hf := h.fits
  clear h hx1 hx2 hx3
  by_cases h12 : n ≤ 12
  · have e : isTr l = l.all rowB := by unfold isTr; rw [decide_eq_true (by omega)]; simp
    rw [e]
    clear e
    go_enter Tryz.func132, Tryz.ntmps132
    go_wp2_with fail
    refine K.mono ?_
    rintro e w1 ⟨rfl, hb⟩
    go_wp2_with fail
    go_ret
    exact ⟨rfl, hb⟩
  · have e : isTr l = false := by unfold isTr; rw [decide_eq_false (by omega)]; rfl
    rw [e]
    clear e K
    go_enter Tryz.func132, Tryz.ntmps132
    go_wp2_with fail
    go_ret
    exact ⟨rfl, Below.refl _ _⟩
end Go.Proofs.YtcmjadfpifpknaaGreat
namespace Go.Proofs.YtcmjadfpifpknaaGreat
open Go.ChangeShapes Go.WideShapes Go.ChangeAt Go.RowKit Go.Shelf
set_option linter.unusedVariables false
set_option linter.unusedSimpArgs false
attribute [local go_sem] Oper.semAt_some

theorem own_pair (w : World) (x y : Int) {B : Nat} (hB : B ≤ w.heap.size) : Own .i64 3 (w.alloc (.cells #[.int .i64 x, .int .i64 y] 3)) B (some ⟨w.heap.size, 0, none⟩) 2 2 [x, y] :=
  ⟨rfl, World.ownsRow_lit w #[.int .i64 x, .int .i64 y] 2 hB (by unfold maxLen; omega) rfl⟩
theorem fits_twoT {h : Int} {n : Nat} {y : List Int} (h0 : 0 ≤ h) (h1 : h < 2147483647) (hn : n ≤ 1000000000000) (hy : ∀ z ∈ y, 0 ≤ z ∧ z ≤ 255) : Fits64 ([h, (n : Int)] ++ y) := by
  intro x hx
  rcases List.mem_append.1 hx with q | q
  · simp only [List.mem_cons, List.not_mem_nil, or_false] at q
    rcases q with rfl | rfl
    · exact fit_mk (by omega) (by omega)
    · exact fit_mk (by omega) (by omega)
  · have := hy x q
    exact fit_mk (by omega) (by omega)
set_option maxRecDepth 100000 in
set_option maxHeartbeats 2000000 in
theorem hashBehind_any {h : Int} {a : Option Addr} {n c : Nat} {y : List Int} {w : World} (hN : Nums .i64 w a n y) (h0 : 0 ≤ h) (h1 : h < 2147483647) (hn : n ≤ 1000000000000) (hy : ∀ z ∈ y, 0 ≤ z ∧ z ≤ 255) :
    Calls Tryz.prog 154 #[.int .i64 h, .slice a n c] w (Told (.int .i64 (thStep h y)) w) := by
  have hl := hN.len
  have HF := Lib.hid (fits_twoT h0 h1 hn hy)
  have H := Lib.hid (hN.same (alloc_same w (.cells #[.int .i64 h, .int .i64 (n : Int)] 3)))
  have HO := Lib.hid (own_pair w h (n : Int) (Nat.le_refl _))
  clear hN hy
  obtain ⟨i0, hi, hz0, hz1, hz2⟩ := info_parts infoIntS
  have HI := Lib.hid (And.intro hi (And.intro hz0 (And.intro hz1 hz2)))
  clear hi hz0 hz1 hz2
  have HE : Hid (thStep h y = hashOf ([h, (n : Int)] ++ y)) := Lib.hid (by unfold thStep; rw [hl])
  rw [HE.out]
  go_enter Tryz.func154, Tryz.ntmps154
  go_wp2_with (at_builtin; refine wpl_app _ rfl (.tmp 8) (.tmp 9) 24 rfl .i64 3 i0 (.int .i64 0) 8 Tryz.underlying24 HI.out.1 HI.out.2.1 HI.out.2.2.1 HI.out.2.2.2 rfl rfl HO.out rfl H.out (by omega) ?c1 ?c2 ?_)
  case c1 => omega
  case c2 => simp
  intro a1 c1 w1 ho1 hb1
  have HO1 := Lib.hid ho1
  have HB1 : Hid (Below w.heap.size w w1) := Lib.hid ((alloc_same w (.cells #[.int .i64 h, .int .i64 (n : Int)] 3)).trans hb1)
  clear ho1 hb1
  go_wp2_with fail
  refine (hash_any _ _ _ _ _ HO1.out.nums HF.out).mono ?_
  rintro e w2 ⟨rfl, hb2⟩
  have HB2 := Lib.hid (HB1.out.trans (hb2.mono HB1.out.size))
  clear hb2
  go_wp2_with fail
  go_ret
  exact ⟨rfl, HB2.out⟩
abbrev Rb (w : World) := {x : Rx w // rowB x.y = true ∧ x.m ≤ 1000000000000}
theorem Rws.headsB {w : World} {a : Option Addr} {n : Nat} {l : List (List Int)} (h : Rws w a n l) (hl : l.all rowB = true) (hn : ∀ y ∈ l, y.length ≤ 1000000000000) : ∃ xs : List (Rb w), xs.length = n ∧ xs.map (fun x => x.1.y) = l ∧ Holds (fun x => x.1.val) w.heap.size w a xs := by
  obtain ⟨xs, h1, h2, h3⟩ := h.heads
  have hall : ∀ x ∈ xs, rowB x.y = true ∧ x.m ≤ 1000000000000 := fun x hx => by
    have hm : x.y ∈ l := by rw [← h2]; exact List.mem_map.2 ⟨x, hx, rfl⟩
    exact ⟨List.all_eq_true.1 hl x.y hm, by rw [← x.nums.len]; exact hn _ hm⟩
  refine ⟨xs.attach.map fun x => ⟨x.1, hall x.1 x.2⟩, by simpa using h1, ?_, fun k x hk => ?_⟩
  · rw [List.map_map, ← h2]
    conv => rhs; rw [← List.attach_map_subtype_val xs]
    rw [List.map_map]
    rfl
  · rw [List.getElem?_map] at hk
    rcases he : xs.attach[k]? with _ | q
    · rw [he] at hk; cases hk
    · rw [he] at hk
      cases hk
      have : xs[k]? = some q.1 := by
        have h5 := congrArg (Option.map Subtype.val) he
        rw [← List.getElem?_map, List.attach_map_subtype_val] at h5
        exact h5
      exact h3 k q.1 this
set_option maxRecDepth 100000 in
set_option maxHeartbeats 4000000 in
theorem hashAll_in (a : Option Addr) (n c : Nat) (l : List (List Int)) (w : World) (hR : Rws w a n l) (hT : isTr l = true) (hlen : ∀ y ∈ l, y.length ≤ 1000000000000) (K0 : Calls Tryz.prog 132 #[.slice a n c] w (Told (.bool true) w)) :
    CallsIn Fence.wide 4 Tryz.prog 134 #[.slice a n c] w fun e W' => e = .returned (.int .i64 (thAll l)) ∧ Below w.heap.size w W' := by
  have h1 : 1 ≤ 4 := by omega
  have hf := hR.fits
  obtain ⟨h12, hall⟩ := isTr_parts hT
  refine callsIn_of_wp_marks Tryz.func134 rfl trivial ?_ rfl
  simp only [Tryz.ntmps134, List.size_toArray, List.length_cons, List.length_nil, Nat.reduceAdd, Nat.reduceSub, Array.replicate_succ, Array.replicate_zero, List.push_toArray, List.append_toArray, List.nil_append, List.cons_append]
  gi_wp2_with (refine ⟨trivial, ?_⟩; gi_at_call 132; refine (callsIn_wide.2 K0).mono ?_; rintro e w1 ⟨rfl, hb1⟩)
  have hR1 := hR.same hb1
  obtain ⟨xs, hx1, hx2, hx3⟩ := hR1.headsB hall hlen
  have hB1 : w.heap.size ≤ w1.heap.size := hb1.size
  gi_wp2_with (refine ⟨trivial, ?_⟩; gi_at_call 153; refine (callsIn_wide.2 (firstR_any _ _ _ _)).mono ?_; rintro e w' ⟨rfl, rfl⟩)
  have b0 := Boxed.new w1 3 (.int .i64 1)
  have b1 := Boxed.new (w1.alloc (.cells #[.int .i64 1] 3)) 165 (.slice a n c)
  simp only [World.size_alloc] at b1
  have hB0 : Below w1.heap.size w1 ((w1.alloc (.cells #[.int .i64 1] 3)).alloc (.cells #[.slice a n c] 165)) := ((Below.refl _ w1).alloc (Nat.le_refl _) _).alloc (by simp) _
  refine wpIn_rangeFunc_ownG rfl h1 (gf := 172) (lb := #[.pointer (some ⟨w1.heap.size + 1, 0, none⟩)]) rfl trivial (enters_of Tryz.func172 (by kernel_rfl) rfl)
    (valuesR_stops (α := Rb w1) (fun x => x.1.val) 3 (w1.heap.size + 1) w1.heap.size a n c xs (by omega) hx1 hf _ b1.cell (by simp; omega) (hx3.below hB0)) belowK_t (belowK_b (by simp; omega)) (Below.refl _ _) (fun _ => rfl)
    (fun pre W => (W.cell? ⟨w1.heap.size, 0, none⟩ = some (.int .i64 (thAll (pre.map fun x => x.1.y))) ∧ W.frozen? ⟨w1.heap.size, 0, none⟩ = false) ∧ Below w1.heap.size w1 W)
    (fun _ _ _ => False)
    (OwnFrom.and (Own.from (fun s A B row hs hg hr => ⟨Go.cell_kept hs.1 hg hr, (frozen_kept hs.1 hg hr).trans hs.2⟩) _) (ownFrom_below (Nat.le_refl _) (by simp; omega)))
    (fun _ _ _ _ _ hs _ _ => hs)
    ⟨⟨(b0.alloc _).cell, (b0.alloc _).frozen⟩, hB0⟩
    (fun x => { tmps := #[.slice a n c, undef, .int .i64 0, .pointer (some ⟨w1.heap.size, 0, none⟩), .slice x.1.p x.1.m x.1.c, .slice a n c, .bool true, .bool false, .slice a n c, .func (.func 172) #[] #[.pointer (some ⟨w1.heap.size + 1, 0, none⟩)], .slice x.1.p x.1.m x.1.c, undef, undef, undef, undef], defers := [] }) ?assign ?body ?done ?stop
  case assign =>
    intro l x W K hK
    unfold Rx.val
    gi_wp2
    exact hK
  case body =>
    rintro l pre ⟨⟨p, m, d, y, hN⟩, hok, hml⟩ W ⟨⟨hc, hfr⟩, hB⟩ _
    dsimp only at hok hml ⊢
    have h1' : 1 ≤ 4 - 1 - 1 := by omega
    have hbd := thAll_bd (pre.map fun x => x.1.y)
    have hby : ∀ z ∈ y, 0 ≤ z ∧ z ≤ 255 := row_fits (l := [y]) (by simp [hok]) (by simp)
    obtain ⟨h, hh⟩ : ∃ h, thAll (pre.map fun x => x.1.y) = h := ⟨_, rfl⟩
    rw [hh] at hc hbd
    have KB := hashBehind_any (c := d) (hN.same hB) hbd.1 hbd.2 hml hby
    obtain ⟨h2, hh2⟩ : ∃ h2, thStep h y = h2 := ⟨_, rfl⟩
    rw [hh2] at KB
    have HH : Hid (thAll ((pre ++ [(⟨⟨p, m, d, y, hN⟩, hok, hml⟩ : Rb w1)]).map fun x => x.1.y) = h2) := Lib.hid (by rw [List.map_append, List.map_cons, List.map_nil, thAll_snoc, hh]; exact hh2)
    clear hh hh2 hby hbd
    have hlt : w1.heap.size < W.heap.size := cell_in hc
    gi_wp2_with (refine ⟨trivial, ?_⟩; gi_at_call 154; refine (CallsIn.inRound l (callsIn_wide.2 KB)).mono ?_; rintro e W2 ⟨rfl, hb2⟩; have hc2 := cell_stay hc hb2; have hf2 : W2.frozen? ⟨w1.heap.size, 0, none⟩ = false := by rw [← hfr]; exact hb2.frozen hlt)
    exact ⟨(KeepsFrom.of_grownBy (grown_below hb2 none) (fun j e => by cases e)).trans ((KeepsOthers.setCell _ _ _).from _), (hb2.mono hB.size).setCell (p := ⟨w1.heap.size, 0, none⟩) (Nat.le_refl _) _,
      ⟨by rw [HH.out]; exact World.cell?_setCell_same' _ _ _ (by rw [hc2]; rfl), by rw [World.frozen?_setCell]; exact hf2⟩, (hB.trans (hb2.mono hB.size)).setCell (p := ⟨w1.heap.size, 0, none⟩) (Nat.le_refl _) _⟩
  case done =>
    rintro D ys W hD hys ⟨⟨hc, _⟩, hB⟩ hK
    rw [hys, hx2] at hc
    gi_wp2
    refine ⟨by simp, .inl ⟨_, _, rfl, run_takeDeferred hK, ?_⟩⟩
    exact ⟨_, results_tmp rfl _ _ _, rfl, (hb1.trans (hB.mono hB1)).trans (belowK_b (w := w) (Nat.le_refl _) W D _ _ (by simp at hD; omega) hK rfl rfl)⟩
  case stop =>
    rintro D c pre W _ _ h _
    exact h.elim
end Go.Proofs.YtcmjadfpifpknaaGreat
namespace Go.Proofs.YtcmjadfpifpknaaGreat
open Go.ChangeShapes Go.WideShapes Go.ChangeAt Go.RowKit
set_option linter.unusedVariables false
set_option linter.unusedSimpArgs false

theorem trHash_any {a : Option Addr} {n c : Nat} {l : List (List Int)} {w : World} (hR : Rws w a n l) (hlen : ∀ y ∈ l, y.length ≤ 1000000000) :
    Calls Tryz.prog 134 #[.slice a n c] w (Told (.int .i64 (trH l)) w) := by
  have K := isTranscript_any (c := c) hR
  cases ht : isTr l with
  | true =>
    rw [ht] at K
    have e : trH l = thAll l := by unfold trH; rw [if_pos ht]
    rw [e]
    exact callsIn_wide.1 (hashAll_in a n c l w hR ht (fun y hy => by have := hlen y hy; omega) K)
  | false =>
    have e : trH l = 0 := by unfold trH; rw [if_neg (by rw [ht]; decide)]
    rw [ht] at K
    rw [e]
    clear hR hlen e ht
    go_enter Tryz.func134, Tryz.ntmps134
    go_wp2_with fail
    refine K.mono ?_
    rintro e w1 ⟨rfl, hb⟩
    go_wp2_with fail
    go_ret
    exact ⟨rfl, hb⟩

theorem range_any (s : Int) (w : World) : Calls Tryz.prog 55 #[.int .i64 s, .int .i64 0, .int .i64 1] w fun e w' => e = .returned (.bool (sideB s)) ∧ w = w' := by
  unfold sideB
  by_cases h1 : (0 : Int) ≤ s <;> by_cases h2 : s ≤ 1 <;> (go_enter Tryz.func55, Tryz.ntmps55; go_wp2; go_ret; exact ⟨by simp [h1, h2], rfl⟩)
theorem fits_fin {s x : Int} (h0 : 0 ≤ s) (h1 : s ≤ 1) (h2 : 0 ≤ x) (h3 : x < 2147483647) : Fits64 [s, x] := by
  intro z hz
  simp only [List.mem_cons, List.not_mem_nil, or_false] at hz
  rcases hz with rfl | rfl
  · exact fit_mk (by omega) (by omega)
  · exact fit_mk (by omega) (by omega)
set_option maxRecDepth 100000 in
set_option maxHeartbeats 4000000 in
theorem finishOf_any (k s : Int) {a : Option Addr} {n c : Nat} {l : List (List Int)} {w : World} (hR : Rws w a n l) (hlen : ∀ y ∈ l, y.length ≤ 1000000000) :
    Calls Tryz.prog 90 #[.int .i64 k, .slice a n c, .int .i64 s] w (Told (.int .i64 (finP k l s)) w) := by
  have KK := Lib.hid (isValidKey_any k w)
  have KT := Lib.hid (isTranscript_any (c := c) hR)
  have HR := Lib.hid hR
  have HL := Lib.hid hlen
  clear hR hlen
  cases hk : keyB k with
  | false =>
    rw [show (decide (1 ≤ k) && decide (k ≤ 2147483646)) = false from hk] at KK
    rw [finP_zero (Or.inl hk)]
    clear hk
    go_enter Tryz.func90, Tryz.ntmps90
    go_wp2_with fail
    refine KK.out.mono ?_
    rintro e w1 ⟨rfl, rfl⟩
    go_wp2_with fail
    go_ret
    exact ⟨rfl, Below.refl _ _⟩
  | true =>
    rw [show (decide (1 ≤ k) && decide (k ≤ 2147483646)) = true from hk] at KK
    cases ht : isTr l with
    | false =>
      rw [ht] at KT
      rw [finP_zero (Or.inr (Or.inl ht))]
      clear hk ht
      go_enter Tryz.func90, Tryz.ntmps90
      go_wp2_with fail
      refine KK.out.mono ?_
      rintro e w1 ⟨rfl, rfl⟩
      go_wp2_with fail
      refine KT.out.mono ?_
      rintro e w2 ⟨rfl, hb2⟩
      have HB2 := Lib.hid hb2
      clear hb2
      go_wp2_with fail
      go_ret
      exact ⟨rfl, HB2.out⟩
    | true =>
      rw [ht] at KT
      have KS := Lib.hid (fun w0 => range_any s w0)
      cases hs : sideB s with
      | false =>
        rw [finP_zero (Or.inr (Or.inr hs))]
        rw [hs] at KS
        clear hk ht hs
        go_enter Tryz.func90, Tryz.ntmps90
        go_wp2_with fail
        refine KK.out.mono ?_
        rintro e w1 ⟨rfl, rfl⟩
        go_wp2_with fail
        refine KT.out.mono ?_
        rintro e w2 ⟨rfl, hb2⟩
        have HB2 := Lib.hid hb2
        clear hb2
        go_wp2_with fail
        refine (KS.out _).mono ?_
        rintro e w3 ⟨rfl, rfl⟩
        go_wp2_with fail
        go_ret
        exact ⟨rfl, HB2.out⟩
      | true =>
        have hkf : Fit64 k := by
          unfold keyB at hk
          rw [Bool.and_eq_true] at hk
          have := of_decide_eq_true hk.1
          have := of_decide_eq_true hk.2
          exact fit_mk (by omega) (by omega)
        have hsf : 0 ≤ s ∧ s ≤ 1 := by
          unfold sideB at hs
          rw [Bool.and_eq_true] at hs
          exact ⟨of_decide_eq_true hs.1, of_decide_eq_true hs.2⟩
        have hb := trH_bd l
        have HF := Lib.hid (fits_fin hsf.1 hsf.2 hb.1 hb.2)
        have HKF := Lib.hid hkf
        rw [finP_some hk ht hs]
        rw [hs] at KS
        have KH := Lib.hid (fun (w0 : World) (h0 : Below w.heap.size w w0) => trHash_any (c := c) (HR.out.same h0) HL.out)
        clear hk ht hs hkf hsf hb
        obtain ⟨x, hx⟩ : ∃ x, trH l = x := ⟨_, rfl⟩
        rw [hx] at HF KH ⊢
        clear hx
        go_enter Tryz.func90, Tryz.ntmps90
        go_wp2_with fail
        refine KK.out.mono ?_
        rintro e w1 ⟨rfl, rfl⟩
        go_wp2_with fail
        refine KT.out.mono ?_
        rintro e w2 ⟨rfl, hb2⟩
        have HB2 := Lib.hid hb2
        clear hb2
        go_wp2_with fail
        refine (KS.out _).mono ?_
        rintro e w3 ⟨rfl, rfl⟩
        go_wp2_with fail
        refine (KH.out _ HB2.out).mono ?_
        rintro e w4 ⟨rfl, hb4⟩
        have HB4 := Lib.hid (HB2.out.trans (hb4.mono HB2.out.size))
        have HN := Lib.hid (own_pair w4 s x (Nat.le_refl _)).nums
        clear hb4
        go_wp2_with fail
        refine (keyedHash_any k _ 2 2 _ _ HKF.out HN.out HF.out).mono ?_
        rintro e w5 ⟨rfl, hb5⟩
        have HB5 := Lib.hid (HB4.out.trans (((alloc_same w4 (.cells #[.int .i64 s, .int .i64 x] 3)).trans (hb5.mono (by simp))).mono HB4.out.size))
        clear hb5
        go_wp2_with fail
        go_ret
        exact ⟨rfl, HB5.out⟩
set_option maxRecDepth 100000 in
set_option maxHeartbeats 4000000 in
theorem checksOut_any (k s f : Int) {a : Option Addr} {n c : Nat} {l : List (List Int)} {w : World} (hR : Rws w a n l) (hlen : ∀ y ∈ l, y.length ≤ 1000000000) :
    Calls Tryz.prog 93 #[.int .i64 k, .slice a n c, .int .i64 s, .int .i64 f] w (Told (.bool (chkP k l s f)) w) := by
  have K := Lib.hid (finishOf_any k s (c := c) hR hlen)
  clear hR hlen
  unfold chkP
  obtain ⟨x, hx⟩ : ∃ x, finP k l s = x := ⟨_, rfl⟩
  rw [hx] at K ⊢
  clear hx
  cases h0 : f == 0 with
  | true =>
    have hb : (f != 0) = false := by simpa using h0
    obtain rfl : f = 0 := by simpa using h0
    clear h0
    go_enter Tryz.func93, Tryz.ntmps93
    go_wp2_with fail
    go_ret
    exact ⟨rfl, Below.refl _ _⟩
  | false =>
    have hb : (f != 0) = true := by simpa using h0
    clear h0
    cases h1 : x == f with
    | true =>
      obtain rfl : x = f := by simpa using h1
      clear h1
      go_enter Tryz.func93, Tryz.ntmps93
      go_wp2_with fail
      refine K.out.mono ?_
      rintro e w1 ⟨rfl, hb1⟩
      have HB1 := Lib.hid hb1
      clear hb1
      go_wp2_with fail
      go_ret
      exact ⟨rfl, HB1.out⟩
    | false =>
      have h2 : (f == x) = false := by
        rw [beq_eq_false_iff_ne] at h1 ⊢
        exact fun e => h1 e.symm
      go_enter Tryz.func93, Tryz.ntmps93
      go_wp2_with fail
      refine K.out.mono ?_
      rintro e w1 ⟨rfl, hb1⟩
      have HB1 := Lib.hid hb1
      clear hb1
      go_wp2_with fail
      go_ret
      exact ⟨rfl, HB1.out⟩
end Go.Proofs.YtcmjadfpifpknaaGreat
