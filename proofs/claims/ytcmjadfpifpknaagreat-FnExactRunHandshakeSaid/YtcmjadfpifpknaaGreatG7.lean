/- Where each number stands first: a map that the call fills from a list, from its back. The table of functions that write, read and measure a field's value: what is handed out for a kind. Integers are appended to a slice of the call's own: what is written, and where the outcome lies. No function of the program is spoken of. What is appended for a field's value, and the greatest number of bytes of one, by the program's functions of the table. -/
import Derived.RangeFuncNested
import Derived.RangeFuncBound
import Derived.RangeFuncCalls
import Derived.RangeFuncLeaves
import Derived.RangeFuncBox
import Derived.Shelf.Abstract
import Derived.Shelf.RegionOpen
import Derived.WalkKit
import Derived.OwnWalkIn
import Derived.TacticsInMore
import Derived.LoopNIn
import Derived.LoopIn
import Derived.Maps.AppendAt
import Derived.Maps.OwnIn
import Derived.Maps.OwnSet
import Derived.Test.YtcmjadfpifpknaaGreatG1
import Derived.Test.YtcmjadfpifpknaaGreatG2
import Derived.Laws.EntriesVeiled
import Derived.Handy
import Derived.Test.YtcmjadfpifpknaaGreatG5
import Derived.Test.YtcmjadfpifpknaaGreatG6
import Derived.Deep.RegionHeld3
namespace Go.Proofs.YtcmjadfpifpknaaGreat
open Go.ChangeShapes Go.WideShapes Go.ChangeAt Go.RowKit Go.Shelf
set_option linter.unusedVariables false
attribute [local go_sem] Oper.semAt_some

/-- An integer of 64 bits. -/
abbrev W64 := {x : Int // (Lit.int .i64 x).wf = true}
def mk64 (z : Int) : W64 := if h : (Lit.int .i64 z).wf = true then ⟨z, h⟩ else ⟨0, by decide⟩
theorem mk64_val {z : Int} (h : (Lit.int .i64 z).wf = true) : (mk64 z).1 = z := by unfold mk64; rw [dif_pos h]
/-- The places and numbers of a list, from its back: the first k of them. -/
def backs (zs : List Int) (k : Nat) : List (W64 × W64) := (List.range k).map fun (j : Nat) => (mk64 ((zs.length : Int) - 1 - (j : Int)), mk64 (zs.getD (zs.length - 1 - j) 0))
theorem backs_succ (zs : List Int) (k : Nat) : backs zs (k + 1) = backs zs k ++ [(mk64 ((zs.length : Int) - 1 - k), mk64 (zs.getD (zs.length - 1 - k) 0))] := by simp [backs, List.range_succ]
theorem backs_len (zs : List Int) (k : Nat) : (backs zs k).length = k := by simp [backs]
/-- A map that holds each number's first place. -/
def pl (i : Nat) : List Int → DataW Unit
  | [] => .map []
  | x :: t => (pl (i + 1) t).put (.int .i64 x) (.lit (.int .i64 (i : Int)))
def plP (ps : List (W64 × W64)) : DataW Unit := ps.foldl (fun D x => D.put (.int .i64 x.2.1) (.lit (.int .i64 x.1.1))) (.map [])
theorem plP_snoc (ps : List (W64 × W64)) (x : W64 × W64) : plP (ps ++ [x]) = (plP ps).put (.int .i64 x.2.1) (.lit (.int .i64 x.1.1)) := by simp [plP]
theorem plP_backs {zs : List Int} (hz : ∀ z ∈ zs, (Lit.int .i64 z).wf = true) (hn : zs.length ≤ 1048576000) : ∀ k, k ≤ zs.length → plP (backs zs k) = pl (zs.length - k) (zs.drop (zs.length - k))
  | 0, _ => by simp [backs, plP, pl]
  | k + 1, h => by
    have hj : zs.length - (k + 1) < zs.length := by omega
    rw [backs_succ, plP_snoc, plP_backs hz hn k (by omega), List.drop_eq_getElem_cons hj, pl, show zs.length - (k + 1) + 1 = zs.length - k by omega]
    have e1 : ((zs.length : Int) - 1 - k) = ((zs.length - (k + 1) : Nat) : Int) := by omega
    have e2 : zs.getD (zs.length - 1 - k) 0 = zs[zs.length - (k + 1)] := by
      rw [show zs.length - 1 - k = zs.length - (k + 1) by omega, List.getD, List.getElem?_eq_getElem hj]; rfl
    dsimp only
    rw [e1, e2, mk64_val (z := ((zs.length - (k + 1) : Nat) : Int)) (WalkArith.wf_i64 (by omega)), mk64_val (hz _ (List.getElem_mem hj))]
section
open Go.Maps
theorem pl_isMap : ∀ (i : Nat) (zs : List Int), IsMap (pl i zs)
  | _, [] => isMap_empty
  | i, x :: t => (pl_isMap (i + 1) t).put _ _
theorem pl_tidy : ∀ (i : Nat) (zs : List Int), Tidy (pl i zs)
  | _, [] => tidy_empty
  | i, x :: t => (pl_tidy (i + 1) t).put (by simp [WideAt.IsKeyLit]) _
theorem lit_ne {x k : Int} (h : ¬ x = k) : (Lit.int .i64 k) ≠ (Lit.int .i64 x) := fun e => h (by injection e with _ e2; exact e2.symm)
theorem pl_has (k : Int) : ∀ (i : Nat) (zs : List Int), Maps.has (pl i zs) (.int .i64 k) = decide (k ∈ zs)
  | _, [] => by simp [pl, Maps.has]
  | i, x :: t => by
    by_cases h : x = k
    · subst h
      rw [pl, has_put_same (pl_isMap _ _) (by simp [WideAt.IsKeyLit])]
      simp
    · rw [pl, has_put_other (lit_ne h), pl_has k (i + 1) t]
      have : ¬ k = x := fun e => h e.symm
      simp [this]
theorem pl_at (k : Int) (z : DataW Unit) : ∀ (i : Nat) (zs : List Int), k ∈ zs → (pl i zs).atKey (.int .i64 k) z = .lit (.int .i64 ((i + zs.idxOf k : Nat) : Int))
  | _, [], h => by simp at h
  | i, x :: t, h => by
    by_cases e : x = k
    · subst e
      rw [pl, atKey_put_same (pl_isMap _ _) (by simp [WideAt.IsKeyLit])]
      simp
    · have ht : k ∈ t := by
        rcases List.mem_cons.1 h with q | q
        · exact absurd q.symm e
        · exact q
      rw [pl, atKey_put_other (lit_ne e), pl_at k z (i + 1) t ht, List.idxOf_cons, beq_false_of_ne e, cond_false]
      congr 3
      omega
theorem pl_size_le : ∀ (i : Nat) (zs : List Int), Maps.size (pl i zs) ≤ zs.length
  | _, [] => by simp [pl, Maps.size]
  | i, x :: t => by
    rw [pl, size_put (pl_tidy _ _)]
    have := pl_size_le (i + 1) t
    split <;> simp <;> omega
theorem pl_size : ∀ (i : Nat) (zs : List Int), (Maps.size (pl i zs) = zs.length ↔ zs.Nodup)
  | _, [] => by simp [pl, Maps.size]
  | i, x :: t => by
    have h1 := pl_size (i + 1) t
    have h2 := pl_size_le (i + 1) t
    rw [pl, size_put (pl_tidy _ _), pl_has, List.nodup_cons]
    by_cases h : x ∈ t
    · simp [h]
      omega
    · simp [h]
      exact h1
end
theorem Nums.under {k : IntKind} {w w' : World} {a : Option Addr} {n n₀ : Nat} {l : List Int} (h : Nums k w a n l) (hb : Below n₀ w w') (ha : ∀ ad, a = some ad → ad.block < n₀) : Nums k w' a n l :=
  ⟨h.len, h.fits, fun j hj => by
    obtain ⟨ad, e, hx⟩ := h.cell j hj
    exact ⟨ad, e, by rw [hb.cell (by rw [addr_block]; exact ha ad e)]; exact hx⟩⟩
theorem Nums.in_ {k : IntKind} {w : World} {a : Option Addr} {n : Nat} {l : List Int} (h : Nums k w a n l) (hn : 0 < n) : ∀ ad, a = some ad → ad.block < w.heap.size := fun ad e => by
  obtain ⟨ad', e', hx⟩ := h.cell 0 hn
  rw [e] at e'
  cases e'
  have := cell_in hx
  rwa [addr_block] at this
/-- What lay ahead of n0, and block g, has not changed. -/
def KeptToo (n₀ g : Nat) (A B : World) : Prop := Below n₀ A B ∧ B.heap[g]? = A.heap[g]?

set_option maxRecDepth 100000 in
set_option maxHeartbeats 2000000 in
theorem back1_in (m l g n₀ : Nat) (a : Option Addr) (n c : Nat) (zs : List Int) (hm : 1 ≤ m) (hn : n ≤ 1048576000) (hz : ∀ z ∈ zs, (Lit.int .i64 z).wf = true) (ha : 0 < n → ∀ ad, a = some ad → ad.block < n₀) (J Jx : List (W64 × W64) → World → Prop)
    (hY : ∀ pre x W, J pre W → pre.length < n → YieldAt Fence.wide (m - 1) Tryz.prog l #[.int .i64 x.1.1, .int .i64 x.2.1] W fun e W' =>
      (e = .returned (.bool true) ∧ J (pre ++ [x]) W' ∧ KeptToo n₀ g W W') ∨ (e = .returned (.bool false) ∧ Jx (pre ++ [x]) W'))
    (W : World) (hG : W.heap[g]? = some (.cells #[.slice a n c] 24 (0, 0))) (hN : Nums .i64 W a n zs) (h0 : J [] W) :
    CallsIn Fence.wide m Tryz.prog 160 #[.func (.yield l) #[] #[], .pointer (some ⟨g, 0, none⟩)] W fun e W' => (∃ v, e = .returned v) ∧
      ((∃ ys, ys = backs zs n ∧ J ys W') ∨ (∃ pre, True ∧ Jx pre W')) := by
  have hl := hN.len
  have HN := Lib.hid hN
  have HZ := Lib.hid hz
  have HA := Lib.hid ha
  have hG0 := (block_cell hG 0).trans rfl
  have HG := Lib.hid hG
  clear hN hz ha hG
  refine callsIn_of_wp Tryz.func160 rfl trivial ?_ rfl
  simp only [Tryz.ntmps160, List.size_toArray, List.length_cons, List.length_nil, Nat.reduceAdd, Nat.reduceSub, Array.replicate_succ, Array.replicate_zero, List.push_toArray, List.append_toArray, List.nil_append, List.cons_append]
  gi_wp2
  gi_loopw [3] (fun i wr => ∃ k : Nat, k ≤ n ∧ i = .int .i64 ((n : Int) - 1 - k) ∧ J (backs zs k) wr ∧ KeptToo n₀ g W wr) (fun i _ => (intOf i + 1).toNat)
  case atStart => exact ⟨0, Nat.zero_le _, by simp, h0, Below.refl _ _, rfl⟩
  case round =>
    obtain ⟨k, hk, rfl, hJ, hK⟩ := hrel
    have HJ := Lib.hid hJ
    have HK := Lib.hid hK
    clear hJ hK
    by_cases hlt : k < n
    · have hg1 := (block_cell (HK.out.2.trans HG.out) 0).trans rfl
      obtain ⟨j, hj⟩ : ∃ j : Nat, j = n - 1 - k := ⟨_, rfl⟩
      have ej : (n : Int) - 1 - k = (j : Int) := by omega
      rw [ej]
      obtain ⟨ad, z, e, hx, hc⟩ := (HN.out.under HK.out.1 (HA.out (by omega))).at_ (j := j) (by omega)
      subst e
      have hzw := HZ.out z (List.mem_of_getElem? hx)
      have HS : Hid (backs zs (k + 1) = backs zs k ++ [(mk64 (j : Int), mk64 z)]) := Lib.hid (by
        rw [backs_succ, hl, ej, ← hj, List.getD, hx]; rfl)
      have e1 : (mk64 (j : Int)).1 = (j : Int) := mk64_val (WalkArith.wf_i64 (by omega))
      have e2 : (mk64 z).1 = z := mk64_val hzw
      obtain ⟨fn, tmps, assign, body, hy, hR⟩ := hY (backs zs k) (mk64 (j : Int), mk64 z) wr HJ.out (by rw [backs_len]; exact hlt)
      dsimp only at hy
      rw [e1, e2] at hy
      have HR := Lib.hid hR
      have HE := Lib.hid (show j + k + 1 = n by omega)
      have hjn : j < n := by have := HE.out; omega
      clear hx hzw e1 e2 hR hj ej
      gi_wp2
      refine HR.out.mono ?_
      rintro e w3 (⟨rfl, hJ3, hk3⟩ | ⟨rfl, hJx3⟩)
      · gi_wp2
        go_roundw
        case rel => exact ⟨k + 1, by have := HE.out; omega, by have := HE.out; go_num, by rw [HS.out]; exact hJ3, HK.out.1.trans hk3.1, hk3.2.trans HK.out.2⟩
        case measure => have := HE.out; simp [intOf]
      · gi_wp2
        refine bodyPost_ret (results_none rfl _ _ _) rfl ?_
        exact ⟨⟨_, rfl⟩, .inr ⟨_, trivial, hJx3⟩⟩
    · obtain rfl : k = n := by omega
      gi_wp2
      go_end0
      exact ⟨⟨_, rfl⟩, .inl ⟨_, rfl, HJ.out⟩⟩
theorem back_stops (m g n₀ : Nat) (a : Option Addr) (n c : Nat) (zs : List Int) (hm : 1 ≤ m) (hn : n ≤ 1048576000) (hz : ∀ z ∈ zs, (Lit.int .i64 z).wf = true) (ha : 0 < n → ∀ ad, a = some ad → ad.block < n₀) (w : World) (hG : w.heap[g]? = some (.cells #[.slice a n c] 24 (0, 0))) (hN : Nums .i64 w a n zs) :
    SeqStopsK Fence.wide m Tryz.prog 160 #[.pointer (some ⟨g, 0, none⟩)] (fun x : W64 × W64 => #[Value.int .i64 x.1.1, Value.int .i64 x.2.1]) (KeptToo n₀ g) (fun ys => ys = backs zs n) (fun _ => True) n w := fun l J Jx W hW hJ _ hY h0 =>
  back1_in m l g n₀ a n c zs hm hn hz ha J Jx hY W ((hW.block _ (Array.getElem?_eq_some_iff.1 hG).1).trans hG) (hN.same hW) h0
theorem backward_in (m : Nat) (a : Option Addr) (n c : Nat) (w : World) :
    CallsIn Fence.wide m Tryz.prog 142 #[.slice a n c] w fun e w' => e = .returned (.func (.func 160) #[] #[.pointer (some ⟨w.heap.size, 0, none⟩)]) ∧ w' = w.alloc (.cells #[.slice a n c] 24) := by
  refine callsIn_of_wp Tryz.func142 rfl trivial ?_ rfl
  simp only [Tryz.ntmps142, List.size_toArray, List.length_cons, List.length_nil, Nat.reduceAdd, Nat.reduceSub, Array.replicate_succ, Array.replicate_zero, List.push_toArray, List.append_toArray, List.nil_append, List.cons_append]
  gi_wp2
  go_ret
  exact ⟨rfl, rfl⟩
theorem map_zero (w : World) : (zeroValue 3).run Tryz.prog w = .ok (.int .i64 0) w := by kernel_rfl
theorem int_keys : Maps.Keyed Tryz.prog 3 := Maps.int_keyed Tryz.underlying3
theorem kept_t {n₀ g : Nat} {A B C : World} (h : KeptToo n₀ g A B) (k : KeptToo n₀ g B C) : KeptToo n₀ g A C := ⟨h.1.trans k.1, k.2.trans h.2⟩

set_option maxRecDepth 100000 in
set_option maxHeartbeats 2000000 in
theorem places_in (a : Option Addr) (n c : Nat) (zs : List Int) (w : World) (hN : Nums .i64 w a n zs) (hz : ∀ z ∈ zs, (Lit.int .i64 z).wf = true) (hn : n ≤ 1048576000) :
    CallsIn Fence.wide 4 Tryz.prog 101 #[.slice a n c] w fun e W' => e = .returned (.map (some w.heap.size)) ∧ W'.ownsMap Tryz.prog 3 (plainElem (H := Unit) Tryz.prog 3) w.heap.size n (pl 0 zs) ∧ Below w.heap.size w W' := by
  have h1 : 1 ≤ 4 := by omega
  have hmm := @run_makeMap Tryz.prog
  have hl := hN.len
  have ha : 0 < n → ∀ ad, a = some ad → ad.block < w.heap.size := fun h => hN.in_ h
  refine callsIn_of_wp_marks Tryz.func101 rfl trivial ?_ rfl
  simp only [Tryz.ntmps101, List.size_toArray, List.length_cons, List.length_nil, Nat.reduceAdd, Nat.reduceSub, Array.replicate_succ, Array.replicate_zero, List.push_toArray, List.append_toArray, List.nil_append, List.cons_append]
  gi_wp2_with (refine ⟨trivial, ?_⟩; gi_at_call 142; refine (backward_in 3 _ _ _ _).mono ?_; rintro e w' ⟨rfl, rfl⟩)
  have hm0 := World.ownsMap_made w Tryz.prog 3 (plainElem (H := Unit) Tryz.prog 3)
  have bS := (Boxed.new (w.alloc (.map #[] 0)) 127 (.map (some w.heap.size))).alloc (.cells #[.slice a n c] 24)
  have hG := World.alloc_heap_new ((w.alloc (.map #[] 0)).alloc (.cells #[.map (some w.heap.size)] 127)) (.cells #[.slice a n c] 24)
  simp only [World.size_alloc] at bS hG
  have hB0 : Below w.heap.size w (((w.alloc (.map #[] 0)).alloc (.cells #[.map (some w.heap.size)] 127)).alloc (.cells #[.slice a n c] 24)) := (((Below.refl _ w).alloc (Nat.le_refl _) _).alloc (by simp) _).alloc (by simp; omega) _
  refine wpIn_rangeFunc_ownG rfl h1 (gf := 160) (lb := #[.pointer (some ⟨w.heap.size + 1 + 1, 0, none⟩)]) rfl trivial (enters_of Tryz.func160 (by kernel_rfl) rfl)
    (back_stops 3 (w.heap.size + 1 + 1) w.heap.size a n c zs (by omega) hn hz ha _ hG (hN.same hB0)) (fun h k => kept_t h k) (fun W l o o' hl' ho hc hw => ⟨belowK_b (w := (((w.alloc (.map #[] 0)).alloc (.cells #[.map (some w.heap.size)] 127)).alloc (.cells #[.slice a n c] 24))) (by simp; omega) W l o o' hl' ho hc hw, World.putObj_heap_other (by simp at hl'; omega)⟩) (Below.refl _ _) (by intro x; rfl)
    (fun pre W => (W.cell? ⟨w.heap.size + 1, 0, none⟩ = some (.map (some w.heap.size)) ∧ W.cell? ⟨w.heap.size + 1 + 1, 0, none⟩ = some (.slice a n c) ∧ W.ownsMap Tryz.prog 3 (plainElem (H := Unit) Tryz.prog 3) w.heap.size pre.length (plP pre)) ∧ Below w.heap.size w W)
    (fun _ _ _ => False)
    (OwnFrom.and (fun s A B row hs hg hr => ⟨Go.cell_kept hs.1 hg (fun r e => (hr r e).2), Go.cell_kept hs.2.1 hg (fun r e => (hr r e).2), hs.2.2.kept hg (fun e => by have := (hr _ e.symm).1; simp at this; omega)⟩) (ownFrom_below (Nat.le_refl _) (by simp; omega)))
    (fun _ _ _ _ _ hs _ _ => hs)
    ⟨⟨bS.cell, (block_cell hG 0).trans rfl, (hm0.alloc _).alloc _⟩, hB0⟩
    (fun x => { tmps := #[.slice a n c, undef, .map none, .pointer (some ⟨w.heap.size + 1, 0, none⟩), .int .i64 x.1.1, .int .i64 x.2.1, .map (some w.heap.size), .slice a n c, .func (.func 160) #[] #[.pointer (some ⟨w.heap.size + 1 + 1, 0, none⟩)], .int .i64 x.1.1, .int .i64 x.2.1, undef, undef, undef, undef], defers := [] }) ?assign ?body ?done ?stop
  case assign =>
    intro l x W K hK
    gi_wp2
    exact hK
  case body =>
    rintro l pre x W ⟨⟨hc, hc2, hown⟩, hB⟩ hlt
    have hkey := Maps.keyOf_int_mk Tryz.underlying3 x.2.2
    gi_wp2_with (gi_at_mapUpdate; refine wpListIn_mapUpdate_own _ rfl _ _ _ 127 rfl 3 3 int_keys Tryz.underlying127 _ w.heap.size pre.length _ rfl hown (by unfold maxLen; omega) _ _ _ rfl rfl hkey _ [] (plainElem_int Tryz.underlying3 x.1.2) ?_; intro w1 hown1 hgrow1)
    obtain ⟨es, ck, hh, _⟩ := hown
    exact ⟨KeepsFrom.of_grownBy hgrow1 (fun j e => by cases e; simp; omega), ⟨(Below.refl _ W).grown hgrow1 hB.size (fun k e => by cases e; exact Nat.le_refl _), hgrow1.block _ (cell_in hc2) (by simp; omega)⟩,
      ⟨Go.cell_kept hc hgrow1 (fun r e => by cases e; exact ⟨_, hh, rfl⟩), Go.cell_kept hc2 hgrow1 (fun r e => by cases e; exact ⟨_, hh, rfl⟩), by rw [plP_snoc, List.length_append]; exact hown1⟩, hB.grown hgrow1 hB.size (fun k e => by cases e; exact Nat.le_refl _)⟩
  case done =>
    rintro D ys W hD rfl ⟨⟨hc, _, hown⟩, hB⟩ hK
    gi_wp2
    refine ⟨by simp, .inl ⟨_, _, rfl, run_takeDeferred hK, ?_⟩⟩
    have hfin := plP_backs hz (by omega) zs.length (Nat.le_refl _)
    rw [Nat.sub_self, List.drop_zero, hl] at hfin
    rw [backs_len, hfin] at hown
    exact ⟨_, results_tmp rfl _ _ _, rfl, hown.kept (grownBy_putObj' _ D _) (fun e => by cases e; simp at hD; omega), hB.trans (belowK_b (w := w) (Nat.le_refl _) W D _ _ (by simp at hD; omega) hK rfl rfl)⟩
  case stop =>
    rintro D c pre W _ _ h _
    exact h.elim
theorem placesOf_any (a : Option Addr) (n c : Nat) (zs : List Int) (w : World) (hN : Nums .i64 w a n zs) (hz : ∀ z ∈ zs, (Lit.int .i64 z).wf = true) (hn : n ≤ 1048576000) :
    Calls Tryz.prog 101 #[.slice a n c] w fun e w' => e = .returned (.map (some w.heap.size)) ∧ w'.ownsMap Tryz.prog 3 (plainElem (H := Unit) Tryz.prog 3) w.heap.size n (pl 0 zs) ∧ Below w.heap.size w w' := callsIn_wide.1 (places_in a n c zs w hN hz hn)
end Go.Proofs.YtcmjadfpifpknaaGreat
namespace Go.Proofs.YtcmjadfpifpknaaGreat
open Go.ChangeShapes Go.WideShapes Go.ChangeAt Go.RowKit
set_option linter.unusedVariables false

theorem three_same (w : World) (A B C : Obj) : Below w.heap.size w (((w.alloc A).alloc B).alloc C) :=
  (((Below.refl _ w).alloc (Nat.le_refl _) _).alloc (by simp) _).alloc (by simp; omega) _
end Go.Proofs.YtcmjadfpifpknaaGreat
namespace Go.Proofs.YtcmjadfpifpknaaGreat
open Go.ChangeShapes Go.WideShapes Go.ChangeAt Go.RowKit
set_option linter.unusedVariables false

section
variable {P : Program}
/-- Integers are appended to a slice of the call's own, wherever they lie: what is written, and where the outcome lies. -/
theorem run_app_g (w : World) {k : IntKind} (t ty e : TypeId) (i : TypeInfo) (z : Value) (bytes : Nat) (ht : P.underlying t = some (.slice e)) (hi : P.info? e = some i) (hz : i.zero = some z) (hsize : i.size = 1) (hby : i.bytes = bytes) (hzs : z.cells.size = 1)
    {B n c m d : Nat} {a b : Option Addr} {l l' : List Int} (ho : Own k e w B a n c l) (hs : Nums k w b m l') (hbytes : (n + m) * bytes ≤ 140737488355328) (h63 : n + m ≤ maxLen) (hB : B ≤ w.heap.size) :
    ∃ a' c' w', (Builtin.append_ #[t, t] ty #[.slice a n c, .slice b m d]).run P w = .ok (.slice a' (n + m) c') w' ∧ Own k e w' B a' (n + m) c' (l ++ l') ∧ w.grownBy w' (Value.ownBlock (.slice a n c)) ∧ (∀ cd, a' = some cd → (∃ bd, a = some bd ∧ bd.block = cd.block) ∨ cd.block = w.heap.size) := by
  rcases b with _ | ad
  · obtain rfl : m = 0 := by
      rcases Nat.eq_zero_or_pos m with h0 | h0
      · exact h0
      · obtain ⟨ad, h, _⟩ := hs.cell 0 h0
        cases h
    obtain rfl : l' = [] := List.eq_nil_of_length_eq_zero hs.len
    exact ⟨a, c, w, run_app_nothing w B t ty e i ht hi ho.2 d, by simpa using ho, grown_below (Below.refl _ _) _, fun cd e => Or.inl ⟨cd, e, rfl⟩⟩
  · obtain ⟨v', w', hr, h2, h3, _, h5⟩ := run_append_own_at (P := P) w B t ty e i z 1 bytes ht hi hz hsize hby hzs (by omega) (.slice a n c) n (l.map (Value.int k)) ho.2 ad m d (l'.map (Value.int k)) (by simp [hs.len]) (fun j u hu => by
      have hj : j < m := by
        rcases Nat.lt_or_ge j m with h | h
        · exact h
        · rw [List.getElem?_eq_none (by simp [hs.len]; exact h)] at hu; cases hu
      obtain ⟨ad', e', hx⟩ := hs.cell j hj
      cases e'
      have hl : j < l'.length := by rw [hs.len]; exact hj
      rw [List.getElem?_map, List.getElem?_eq_getElem hl] at hu
      cases hu
      rw [hx]
      simp [List.getD, List.getElem?_eq_getElem hl]) (ints_oneCell k l') h63 hbytes hB
    rw [← List.map_append] at h2
    have hlie : ∀ (g q cap : Nat), v' = .slice (some ⟨g, 0, none⟩) q cap → (∃ bd, a = some bd ∧ bd.block = g) ∨ g = w.heap.size := fun g q cap e => by
      subst e
      rcases h5 with e | e
      · left
        cases ha : a with
        | none => rw [ha] at e; simp [Value.ownBlock] at e
        | some bd => rw [ha] at e; simp only [Value.ownBlock, Option.some.injEq] at e; exact ⟨bd, rfl, e.symm⟩
      · right
        simpa [Value.ownBlock] using e
    rcases h2.2 with ⟨rfl, hn⟩ | ⟨g, cap, cur, rfl, hrest⟩
    · exact ⟨none, 0, w', by rw [hn]; exact hr, by rw [hn] at h2 ⊢; exact ⟨by have := h2.1; simpa using this, h2⟩, h3, fun cd e => by cases e⟩
    · exact ⟨_, cap, w', hr, ⟨by have := ho.len; have := hs.len; simp; omega, h2⟩, h3, fun cd e => by cases e; exact hlie _ _ _ rfl⟩
theorem step_app_g (w : World) {ops : Array Oper} {o : Oper} {act : Act} {K : Act → World → Prop} {Q : Exit → Act → World → Prop} {E : Prop} (hgd : o.guard = none) (s x : Operand) (t : TypeId)
    (ho : o.op = .call { callee := .builtin .append, args := #[s, x], argTypes := #[t, t] })
    (k : IntKind) (e : TypeId) (i : TypeInfo) (z : Value) (bytes : Nat) (ht : P.underlying t = some (.slice e)) (hi : P.info? e = some i) (hz : i.zero = some z) (hsize : i.size = 1) (hby : i.bytes = bytes) (hzs : z.cells.size = 1)
    {B n c m d : Nat} {a b : Option Addr} {l l' : List Int} (hs : act.eval s = .slice a n c) (hown : Own k e w B a n c l) (hx : act.eval x = .slice b m d) (hnew : Nums k w b m l')
    (hb1 : 0 < bytes) (hbytes : (n + m) * bytes ≤ 140737488355328) (hB : B ≤ w.heap.size)
    (h : ∀ a' c' w', Own k e w' B a' (n + m) c' (l ++ l') → w.grownBy w' (Value.ownBlock (.slice a n c)) → (∀ cd, a' = some cd → (∃ bd, a = some bd ∧ bd.block = cd.block) ∨ cd.block = w.heap.size) → K (act.put o.dst (.slice a' (n + m) c')) w') :
    if Region.wanted o (yielded ops act.tmps) = true then Oper.wp P o act w K Q else E := by
  have hw : Region.wanted o (yielded ops act.tmps) = true := by simp [Region.wanted, hgd]
  rw [if_pos hw]
  have h63 : n + m ≤ maxLen := by
    have := Nat.mul_le_mul_left (n + m) hb1
    unfold maxLen
    omega
  obtain ⟨a', c', w', hr, h2, h3, h4⟩ := run_app_g (P := P) (d := d) w t o.type e i z bytes ht hi hz hsize hby hzs hown hnew hbytes h63 hB
  unfold Oper.wp execOp
  simp only [ho, resolve, invoke, builtin, Sem.run_bind, Sem.run_pure, Result.andThen_ok, List.map_toArray, List.map_cons, List.map_nil, hs, hx, hr]
  exact h a' c' w' h2 h3 h4
theorem wpl_app_g (w : World) {ops : Array Oper} {rest : List Oper} {o : Oper} {act : Act} {Q : Exit → Act → World → Prop} (hgd : o.guard = none) (s x : Operand) (t : TypeId)
    (ho : o.op = .call { callee := .builtin .append, args := #[s, x], argTypes := #[t, t] })
    (k : IntKind) (e : TypeId) (i : TypeInfo) (z : Value) (bytes : Nat) (ht : P.underlying t = some (.slice e)) (hi : P.info? e = some i) (hz : i.zero = some z) (hsize : i.size = 1) (hby : i.bytes = bytes) (hzs : z.cells.size = 1)
    {B n c m d : Nat} {a b : Option Addr} {l l' : List Int} (hs : act.eval s = .slice a n c) (hown : Own k e w B a n c l) (hx : act.eval x = .slice b m d) (hnew : Nums k w b m l')
    (hb1 : 0 < bytes) (hbytes : (n + m) * bytes ≤ 140737488355328) (hB : B ≤ w.heap.size)
    (h : ∀ a' c' w', Own k e w' B a' (n + m) c' (l ++ l') → w.grownBy w' (Value.ownBlock (.slice a n c)) → wpList P ops Q rest (act.put o.dst (.slice a' (n + m) c')) w') : wpList P ops Q (o :: rest) act w := by
  refine wpList_plain hgd fun K hK => ?_
  have h63 : n + m ≤ maxLen := by
    have := Nat.mul_le_mul_left (n + m) hb1
    unfold maxLen
    omega
  obtain ⟨a', c', w', hr, h2, h3, _⟩ := run_app_g (P := P) (d := d) w t o.type e i z bytes ht hi hz hsize hby hzs hown hnew hbytes h63 hB
  unfold Oper.wp execOp
  simp only [ho, resolve, invoke, builtin, Sem.run_bind, Sem.run_pure, Result.andThen_ok, List.map_toArray, List.map_cons, List.map_nil, hs, hx, hr]
  exact hK _ _ (h a' c' w' h2 h3)
theorem wpl_app_e (w : World) {ops : Array Oper} {rest : List Oper} {o : Oper} {act : Act} {Q : Exit → Act → World → Prop} (hgd : o.guard = none) (s x : Operand) (t : TypeId)
    (ho : o.op = .call { callee := .builtin .append, args := #[s, x], argTypes := #[t, t] })
    (k : IntKind) (e : TypeId) (i : TypeInfo) (z : Value) (bytes : Nat) (ht : P.underlying t = some (.slice e)) (hi : P.info? e = some i) (hz : i.zero = some z) (hsize : i.size = 1) (hby : i.bytes = bytes) (hzs : z.cells.size = 1)
    {B n c m d : Nat} {a b : Option Addr} {l l' : List Int} (hs : act.eval s = .slice a n c) (hown : Own k e w B a n c l) (hx : act.eval x = .slice b m d) (hnew : Nums k w b m l')
    (hb1 : 0 < bytes) (hbytes : (n + m) * bytes ≤ 140737488355328) (hB : B ≤ w.heap.size)
    (h : ∀ a' c' w', Own k e w' B a' (n + m) c' (l ++ l') → w.grownBy w' (Value.ownBlock (.slice a n c)) → (∀ cd, a' = some cd → (∃ bd, a = some bd ∧ bd.block = cd.block) ∨ cd.block = w.heap.size) → wpList P ops Q rest (act.put o.dst (.slice a' (n + m) c')) w') : wpList P ops Q (o :: rest) act w := by
  refine wpList_plain hgd fun K hK => ?_
  have h63 : n + m ≤ maxLen := by
    have := Nat.mul_le_mul_left (n + m) hb1
    unfold maxLen
    omega
  obtain ⟨a', c', w', hr, h2, h3, h4⟩ := run_app_g (P := P) (d := d) w t o.type e i z bytes ht hi hz hsize hby hzs hown hnew hbytes h63 hB
  unfold Oper.wp execOp
  simp only [ho, resolve, invoke, builtin, Sem.run_bind, Sem.run_pure, Result.andThen_ok, List.map_toArray, List.map_cons, List.map_nil, hs, hx, hr]
  exact hK _ _ (h a' c' w' h2 h3 h4)
end
end Go.Proofs.YtcmjadfpifpknaaGreat
namespace Go.Proofs.YtcmjadfpifpknaaGreat
open Go.ChangeShapes Go.WideShapes Go.ChangeAt Go.RowKit
set_option linter.unusedVariables false

theorem nums_new2 (w : World) (o : Obj) (k : IntKind) (x : Int) (t : TypeId) : Nums k ((w.alloc o).alloc (.cells #[.int k x] t)) (some ⟨w.heap.size + 1, 0, none⟩) 1 [x] := by
  have := nums_new (w.alloc o) k x t
  simpa using this
/-- What a function leaves that appends to a slice of the caller's own: the new slice; nothing but its memory is written. -/
def Grew (tI : TypeId) (B : Nat) (a : Option Addr) (n c : Nat) (l : List Int) (w : World) (e : Ending) (w' : World) : Prop :=
  ∃ a' n' c', e = .returned (.slice a' n' c') ∧ Own .i64 tI w' B a' n' c' l ∧ w.grownBy w' (Value.ownBlock (.slice a n c))
theorem grown_on {w w1 w2 : World} {row row2 : Option Nat} (h : w.grownBy w1 row) (g : w1.grownBy w2 row2) (hr : ∀ r, row2 = some r → row = some r ∨ w.heap.size ≤ r) : w.grownBy w2 row :=
  ⟨g.os.trans h.os, g.tape.trans h.tape, g.output.trans h.output, Nat.le_trans h.size g.size, fun i hi hne => (g.block i (Nat.lt_of_lt_of_le hi h.size) (fun e => by
    rcases hr i e.symm with q | q
    · exact hne q.symm
    · omega)).trans (h.block i hi hne)⟩
theorem cell_off {w w' : World} {ad : Addr} {v : Value} {row : Option Nat} (h : w.cell? ad = some v) (hg : w.grownBy w' row) (hr : row ≠ some ad.block) : w'.cell? ad = some v := by
  have e := hg.block _ (cell_in h) hr.symm
  unfold World.cell? at h ⊢
  rw [e]
  exact h
theorem own_off {a : Option Addr} {n c lo hi g : Nat} (h : Span a lo hi) (hg : hi ≤ g) : Value.ownBlock (.slice a n c) ≠ some g := by
  cases a with
  | none => simp [Value.ownBlock]
  | some ad =>
    have := (h ad rfl).2
    simp [Value.ownBlock]
    omega
theorem row3 {a a' : Option Addr} {n c n' c' s t : Nat} (hl : ∀ cd, a' = some cd → (∃ bd, a = some bd ∧ bd.block = cd.block) ∨ cd.block = s) (hg : t ≤ s) : ∀ r, Value.ownBlock (.slice a' n' c') = some r → Value.ownBlock (.slice a n c) = some r ∨ t ≤ r := fun r e => by
  cases a' with
  | none => simp [Value.ownBlock] at e
  | some cd =>
    simp only [Value.ownBlock, Option.some.injEq] at e
    rcases hl cd rfl with ⟨bd, rfl, q⟩ | q
    · left
      simp only [Value.ownBlock, Option.some.injEq]
      omega
    · right
      omega
theorem off3 {a a' : Option Addr} {n c n' c' g s : Nat} (h : Value.ownBlock (.slice a n c) ≠ some g) (hl : ∀ cd, a' = some cd → (∃ bd, a = some bd ∧ bd.block = cd.block) ∨ cd.block = s) (hg : g < s) : Value.ownBlock (.slice a' n' c') ≠ some g := by
  cases a' with
  | none => simp [Value.ownBlock]
  | some cd =>
    rcases hl cd rfl with ⟨bd, rfl, e⟩ | e
    · simp only [Value.ownBlock, ne_eq, Option.some.injEq] at h ⊢
      omega
    · simp only [Value.ownBlock, ne_eq, Option.some.injEq]
      omega
set_option maxHeartbeats 2000000 in
set_option maxRecDepth 100000 in
theorem writeItems_any (B : Nat) (a : Option Addr) (n c : Nat) (l : List Int) (k : Int) (p : Option Addr) (m d : Nat) (y : List Int) (w : World) (h : Own .i64 3 w B a n c l) (hv : ∀ w', Below B w w' → Nums .i64 w' p m y) (hB : B ≤ w.heap.size) (hn : n ≤ 1000000) (hm : m ≤ 1000000) :
    Calls Tryz.prog 169 #[.slice a n c, .agg #[.int .i64 k, .slice p m d]] w (Grew 3 B a n c (l ++ (m : Int) :: y) w) := by
  have H := Lib.hid h
  have HV := Lib.hid hv
  have HB := Lib.hid hB
  obtain ⟨i0, hi, hz0, hz1, hz2⟩ := info_parts infoIntS
  have HI := Lib.hid (And.intro hi (And.intro hz0 (And.intro hz1 hz2)))
  clear h hv hi hz0 hz1 hz2
  go_enter Tryz.func169, Tryz.ntmps169
  go_wp2_with fail
  have hc : (w.alloc (.cells #[.int .i64 k, .slice p m d] 160)).cell? ⟨w.heap.size, 1, none⟩ = some (.slice p m d) := by simp
  have HW : Hid (Below w.heap.size w (w.alloc (.cells #[.int .i64 k, .slice p m d] 160))) := Lib.hid (alloc_same _ _)
  have H1 := Lib.hid (H.out.same HW.out)
  have HBW := Lib.hid (HW.out.mono HB.out)
  have HOFF : Hid (Value.ownBlock (.slice a n c) ≠ some w.heap.size) := Lib.hid (own_off H.out.span (Nat.le_refl _))
  have hB1 : B ≤ (w.alloc (.cells #[.int .i64 k, .slice p m d] 160)).heap.size := by have := HB.out; simp; omega
  have hlt1 : w.heap.size < (w.alloc (.cells #[.int .i64 k, .slice p m d] 160)).heap.size := by simp
  generalize w.alloc (.cells #[.int .i64 k, .slice p m d] 160) = w1 at *
  have HC := Lib.hid hc
  clear hc
  have HQ : Hid (Below w1.heap.size w1 (w1.alloc (.cells #[.int .i64 (m : Int)] 3)).drew) := Lib.hid (alloc_same _ _).drew
  have HO2 : Hid (Own .i64 3 (w1.alloc (.cells #[.int .i64 (m : Int)] 3)).drew B a n c l) := Lib.hid (H1.out.same HQ.out)
  have HN2 : Hid (Nums .i64 (w1.alloc (.cells #[.int .i64 (m : Int)] 3)).drew (some ⟨w1.heap.size, 0, none⟩) 1 [(m : Int)]) := Lib.hid ((nums_new _ _ _ _).same (Below.refl _ _).drew)
  have hs2 : B ≤ (w1.alloc (.cells #[.int .i64 (m : Int)] 3)).drew.heap.size := Nat.le_trans hB1 HQ.out.size
  have HWQ : Hid (Below w.heap.size w (w1.alloc (.cells #[.int .i64 (m : Int)] 3)).drew) := Lib.hid (HW.out.trans (HQ.out.mono (Nat.le_of_lt hlt1)))
  have hle2 : w.heap.size ≤ (w1.alloc (.cells #[.int .i64 (m : Int)] 3)).drew.heap.size := HWQ.out.size
  have hlt2 : w.heap.size < (w1.alloc (.cells #[.int .i64 (m : Int)] 3)).drew.heap.size := Nat.lt_of_lt_of_le hlt1 HQ.out.size
  go_region_held3 (fun w' => w'.cell? ⟨w.heap.size, 1, none⟩ = some (.slice p m d)) (first | exact cell_kept HC.out (Below.refl _ _).drew | exact cell_kept HC.out HQ.out | exact HC3.out | exact HC4.out) ((first | (refine step_app_g _ (by rfl) (.tmp 5) (.tmp 9) 24 (by rfl) .i64 3 i0 (.int .i64 0) 8 Tryz.underlying24 HI.out.1 HI.out.2.1 HI.out.2.2.1 HI.out.2.2.2 rfl (by rfl) HO2.out (by rfl) HN2.out (by omega) (by omega) hs2 ?_; intro a3 c3 w3 ho3 hg3 hl3; have HOFF3 : Hid (Value.ownBlock (.slice a3 (n + 1) c3) ≠ some w.heap.size) := Lib.hid (off3 HOFF.out hl3 hlt2); have HO3 := Lib.hid ho3; have HG3 := Lib.hid (grown_on (grown_below HWQ.out (Value.ownBlock (.slice a n c))) hg3 fun r e => Or.inl e); have HL3 := Lib.hid (row3 (n := n) (c := c) (n' := n + 1) (c' := c3) hl3 hle2); have HB3 := Lib.hid (grown_to hg3 (HBW.out.trans (HQ.out.mono hB1)) HO2.out.span (Nat.le_refl _) hs2); have HC3 := Lib.hid (cell_off (cell_kept HC.out HQ.out) hg3 HOFF.out); have hs3 : B ≤ w3.heap.size := Nat.le_trans hs2 hg3.size; clear ho3 hg3) | (refine step_app_g _ (by rfl) (.tmp 10) (.tmp 12) 24 (by rfl) .i64 3 i0 (.int .i64 0) 8 Tryz.underlying24 HI.out.1 HI.out.2.1 HI.out.2.2.1 HI.out.2.2.2 rfl (by rfl) HO3.out (by rfl) (HV.out _ HB3.out) (by omega) (by omega) hs3 ?_; intro a4 c4 w4 ho4 hg4 _; have HO4 := Lib.hid ho4; have HG4 := Lib.hid (grown_on HG3.out hg4 HL3.out); have HC4 := Lib.hid (cell_off HC3.out hg4 HOFF3.out); clear ho4 hg4)))
  go_wp2_with fail
  go_ret
  exact ⟨_, _, _, rfl, by simpa using HO4.out, HG4.out⟩
theorem own_away {a : Option Addr} {n c lo hi g : Nat} (h : Span a lo hi) (hg : g < lo) : Value.ownBlock (.slice a n c) ≠ some g := by
  cases a with
  | none => simp [Value.ownBlock]
  | some ad =>
    have := (h ad rfl).1
    simp [Value.ownBlock]
    omega
theorem kind_in {l : List Fd} {j : Nat} {x : Fd} (hok : okTo l l.length) (hj : j < l.length) (hx : l[j]? = some x) : x.kind = 1 ∨ x.kind = 2 ∨ x.kind = 3 := by
  have h := hok j x hj hx
  unfold fieldOk at h
  rw [Bool.and_eq_true, decide_eq_true_eq] at h
  have h1 := h.1
  unfold mostOf at h1
  revert h1
  repeat' split
  all_goals omega
end Go.Proofs.YtcmjadfpifpknaaGreat
