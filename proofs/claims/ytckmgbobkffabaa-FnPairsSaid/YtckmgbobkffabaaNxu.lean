/- Where each message that is sent, or received, leads to: by the program. -/
import Derived.Test.YtckmgbobkffabaaNxt
import Derived.Handy
namespace Go.Proofs.Ytckmgbobkffabaa
open Go.ChangeShapes Go.WideShapes Go.ChangeAt Go.RowKit Go.Shelf
set_option linter.unusedVariables false
set_option linter.unusedSimpArgs false
attribute [local go_sem] Oper.semAt_some

/-- A machine in one of its states, by value. -/
def partyV (v : Value) (s : Int) : Value := .agg (v.cells ++ #[.int .i64 s])
set_option maxRecDepth 100000 in
set_option maxHeartbeats 4000000 in
theorem next_in (st s : Int) (b : Bool) (p : Option Addr) (np cp : Nat) (a : Option Addr) (n c : Nat) (zs : List Mv) (w : World) (hN : Mvs w a n zs) (hz : ∀ z ∈ zs, Wmv z) (hn : n ≤ 1048576000) :
    CallsIn Fence.wide 4 Try.prog 93 #[.agg #[.int .i64 st, .slice p np cp, .slice a n c, .int .i64 s], .bool b] w fun e W' => ∃ g, e = .returned (.map (some g)) ∧ w.heap.size ≤ g ∧ W'.ownsMap Try.prog 3 (plainElem (H := Unit) Try.prog 3) g n (nx s b zs) ∧ Below w.heap.size w W' := by
  have h1 : 1 ≤ 4 := by omega
  have hmm := @run_makeMap Try.prog
  have hl := hN.len
  have ha : 0 < n → ∀ ad, a = some ad → ad.block < w.heap.size := fun h => mvs_in hN h
  refine callsIn_of_wp_marks Try.func93 rfl trivial ?_ rfl
  simp only [Try.ntmps93, List.size_toArray, List.length_cons, List.length_nil, Nat.reduceAdd, Nat.reduceSub, Array.replicate_succ, Array.replicate_zero, List.push_toArray, List.append_toArray, List.nil_append, List.cons_append]
  gi_wp2_with (refine ⟨trivial, ?_⟩; gi_at_call 108; refine (backwardM_in 3 _ _ _ _).mono ?_; rintro e w' ⟨rfl, rfl⟩)
  obtain ⟨W5, hW5⟩ : ∃ W5, W5 = ((((w.alloc (.cells #[.int .i64 st, .slice p np cp, .slice a n c, .int .i64 s] 73)).alloc (.cells #[.bool b] 4)).alloc (.map #[] 0)).alloc (.cells #[.map (some (w.heap.size + 1 + 1))] 107)).alloc (.cells #[.slice a n c] 25) := ⟨_, rfl⟩
  have hS5 : W5.heap.size = w.heap.size + 5 := by rw [hW5]; simp
  have hB5 : Below w.heap.size w W5 := by
    rw [hW5]
    exact (((((Below.refl _ w).alloc (Nat.le_refl _) _).alloc (by simp) _).alloc (by simp only [World.size_alloc]; omega) _).alloc (by simp only [World.size_alloc]; omega) _).alloc (by simp only [World.size_alloc]; omega) _
  have hp5 : W5.cell? ⟨w.heap.size, 3, none⟩ = some (.int .i64 s) := by
    have h0 := World.alloc_heap_new w (.cells #[.int .i64 st, .slice p np cp, .slice a n c, .int .i64 s] 73)
    refine (block_cell (w := W5) (g := w.heap.size) (cs := #[.int .i64 st, .slice p np cp, .slice a n c, .int .i64 s]) (t := 73) ?_ 3).trans rfl
    rw [hW5, Below.heap_alloc _ _ _ (by simp only [World.size_alloc]; omega), Below.heap_alloc _ _ _ (by simp only [World.size_alloc]; omega), Below.heap_alloc _ _ _ (by simp only [World.size_alloc]; omega), Below.heap_alloc _ _ _ (by simp only [World.size_alloc]; omega)]
    exact h0
  have hb5 : W5.cell? ⟨w.heap.size + 1, 0, none⟩ = some (.bool b) := by
    have h0 := World.alloc_heap_new (w.alloc (.cells #[.int .i64 st, .slice p np cp, .slice a n c, .int .i64 s] 73)) (.cells #[.bool b] 4)
    rw [World.size_alloc] at h0
    refine (block_cell (w := W5) (g := w.heap.size + 1) (cs := #[.bool b]) (t := 4) ?_ 0).trans rfl
    rw [hW5, Below.heap_alloc _ _ _ (by simp only [World.size_alloc]; omega), Below.heap_alloc _ _ _ (by simp only [World.size_alloc]; omega), Below.heap_alloc _ _ _ (by simp only [World.size_alloc]; omega)]
    exact h0
  have hm5 : W5.cell? ⟨w.heap.size + 1 + 1 + 1, 0, none⟩ = some (.map (some (w.heap.size + 1 + 1))) := by
    have h0 := World.alloc_heap_new (((w.alloc (.cells #[.int .i64 st, .slice p np cp, .slice a n c, .int .i64 s] 73)).alloc (.cells #[.bool b] 4)).alloc (.map #[] 0)) (.cells #[.map (some (w.heap.size + 1 + 1))] 107)
    simp only [World.size_alloc] at h0
    refine (block_cell (w := W5) (g := w.heap.size + 1 + 1 + 1) (cs := #[.map (some (w.heap.size + 1 + 1))]) (t := 107) ?_ 0).trans rfl
    rw [hW5, Below.heap_alloc _ _ _ (by simp only [World.size_alloc]; omega)]
    exact h0
  have hG5 : W5.heap[w.heap.size + 1 + 1 + 1 + 1]? = some (.cells #[.slice a n c] 25 (0, 0)) := by
    have h0 := World.alloc_heap_new ((((w.alloc (.cells #[.int .i64 st, .slice p np cp, .slice a n c, .int .i64 s] 73)).alloc (.cells #[.bool b] 4)).alloc (.map #[] 0)).alloc (.cells #[.map (some (w.heap.size + 1 + 1))] 107)) (.cells #[.slice a n c] 25)
    simp only [World.size_alloc] at h0
    rw [hW5]
    exact h0
  have ho5 : W5.ownsMap Try.prog 3 (plainElem (H := Unit) Try.prog 3) (w.heap.size + 1 + 1) 0 (.map []) := by
    have h0 := World.ownsMap_made ((w.alloc (.cells #[.int .i64 st, .slice p np cp, .slice a n c, .int .i64 s] 73)).alloc (.cells #[.bool b] 4)) Try.prog 3 (plainElem (H := Unit) Try.prog 3)
    simp only [World.size_alloc] at h0
    rw [hW5]
    exact (h0.alloc _).alloc _
  rw [← hW5]
  clear hW5
  refine wpIn_rangeFunc_ownH rfl h1 (gf := 117) (lb := #[.pointer (some ⟨w.heap.size + 1 + 1 + 1 + 1, 0, none⟩)]) rfl trivial (enters_of Try.func117 (by kernel_rfl) rfl)
    (backM_stops 3 (w.heap.size + 1 + 1 + 1 + 1) w.heap.size a n c zs (by omega) hn hz ha W5 hG5 (hN.same hB5)) (fun h k => keptM_t h k) (fun W l o o' hl' ho hc hw => ⟨belowK_b (w := W5) (by omega) W l o o' hl' ho hc hw, World.putObj_heap_other (by omega)⟩) (Below.refl _ _) (by intro x; rfl)
    (fun pre W => (W.cell? ⟨w.heap.size, 3, none⟩ = some (.int .i64 s) ∧ W.cell? ⟨w.heap.size + 1, 0, none⟩ = some (.bool b) ∧ W.cell? ⟨w.heap.size + 1 + 1 + 1, 0, none⟩ = some (.map (some (w.heap.size + 1 + 1))) ∧ W.cell? ⟨w.heap.size + 1 + 1 + 1 + 1, 0, none⟩ = some (.slice a n c) ∧ W.ownsMap Try.prog 3 (plainElem (H := Unit) Try.prog 3) (w.heap.size + 1 + 1) pre.length (nxP s b pre)) ∧ Below w.heap.size w W)
    (fun _ _ _ => False)
    (OwnFrom.and (fun s A B row hs hg hr => ⟨Go.cell_kept hs.1 hg (fun r e => (hr r e).2), Go.cell_kept hs.2.1 hg (fun r e => (hr r e).2), Go.cell_kept hs.2.2.1 hg (fun r e => (hr r e).2), Go.cell_kept hs.2.2.2.1 hg (fun r e => (hr r e).2), hs.2.2.2.2.kept hg (fun e => by have := (hr _ e.symm).1; omega)⟩) (ownFrom_below (Nat.le_refl _) (by omega)))
    (fun _ _ _ _ _ hs _ _ => hs)
    ⟨⟨hp5, hb5, hm5, (block_cell hG5 0).trans rfl, ho5⟩, hB5⟩
    (fun x a' W => ∃ BB, a' = { tmps := #[.agg #[.int .i64 st, .slice p np cp, .slice a n c, .int .i64 s], .bool b, .pointer (some ⟨w.heap.size, 0, none⟩), .pointer (some ⟨w.heap.size + 1, 0, none⟩), .map none, .pointer (some ⟨w.heap.size + 1 + 1 + 1, 0, none⟩), undef, .pointer (some ⟨BB, 0, none⟩), .map (some (w.heap.size + 1 + 1)), .pointer (some ⟨w.heap.size, 0, none⟩), .pointer (some ⟨w.heap.size, 2, none⟩), .slice a n c, .func (.func 117) #[] #[.pointer (some ⟨w.heap.size + 1 + 1 + 1 + 1, 0, none⟩)], .int .i64 x.1, .agg #[.int .i64 x.2.1.frm, .bool x.2.1.send, .int .i64 x.2.1.msg, .int .i64 x.2.1.to], undef, undef, undef, undef, undef, undef, undef, undef, undef, undef, undef, undef, undef, undef, undef, undef, undef], defers := [] } ∧ w.heap.size + 5 ≤ BB ∧ W.heap[BB]? = some (.cells #[.int .i64 x.2.1.frm, .bool x.2.1.send, .int .i64 x.2.1.msg, .int .i64 x.2.1.to] 63 (0, 0)))
    (fun x a' s A B row hs hg hr => by
      obtain ⟨BB, e1, e2, e3⟩ := hs
      refine ⟨BB, e1, e2, (hg.block BB (Array.getElem?_eq_some_iff.1 e3).1 (fun e => ?_)).trans e3⟩
      obtain ⟨_, o, ho, hc⟩ := hr BB e.symm
      rw [e3] at ho
      cases ho
      cases hc) ?assign ?body ?done ?stop
  case assign =>
    intro l pre x W K hI hK
    unfold Mv.val
    gi_wp2
    obtain ⟨⟨k1, k2, k3, k4, k5⟩, hB⟩ := hI
    have hlt : w.heap.size + 4 < W.heap.size := cell_in k4
    have hbw : Below W.heap.size W (W.alloc (.cells #[.int .i64 x.2.1.frm, .bool x.2.1.send, .int .i64 x.2.1.msg, .int .i64 x.2.1.to] 63)) := alloc_same W _
    refine hK _ _ ((KeepsOthers.alloc W _).from _) ⟨hbw.mono hB.size, hbw.block _ (by omega)⟩ ⟨⟨cell_stay k1 hbw, cell_stay k2 hbw, cell_stay k3 hbw, cell_stay k4 hbw, k5.alloc _⟩, hB.trans (hbw.mono hB.size)⟩ ⟨W.heap.size, rfl, by omega, World.alloc_heap_new W _⟩
  case body =>
    rintro l pre x a' W hl' hr ⟨⟨k1, k2, k3, k4, k5⟩, hB⟩ ⟨BB, rfl, hBB, hX⟩ hlt
    obtain ⟨c0, c1, c2, c3⟩ := four_at hX
    have hsn := nxP_snoc s b pre x
    have hbig : w.heap.size + 4 < W.heap.size := cell_in k4
    cases q : fromM s b x.2.1 with
    | true =>
      obtain ⟨e1, e2⟩ : x.2.1.frm = s ∧ x.2.1.send = b := by simpa [fromM] using q
      have hkey := Maps.keyOf_int_mk Try.underlying3 x.2.2.1
      rw [nxStep, if_pos q] at hsn
      rw [e1] at c0
      rw [e2] at c1
      clear hX q e1 e2
      gi_wp2_with (gi_at_mapUpdate; refine wpListIn_mapUpdate_own _ rfl _ _ _ 107 rfl 3 3 intM_keys Try.underlying107 _ (w.heap.size + 1 + 1) pre.length _ rfl k5 (by unfold maxLen; omega) _ _ _ rfl rfl hkey _ [] (plainElem_int Try.underlying3 x.2.2.2) ?_; intro w1 hown1 hgrow1)
      obtain ⟨es, ck, hh, _⟩ := k5
      exact ⟨KeepsFrom.of_grownBy hgrow1 (fun j e => by cases e; omega), ⟨(Below.refl _ W).grown hgrow1 hB.size (fun k e => by cases e; omega), hgrow1.block _ (cell_in k4) (by simp; omega)⟩,
        ⟨Go.cell_kept k1 hgrow1 (fun r e => by cases e; exact ⟨_, hh, rfl⟩), Go.cell_kept k2 hgrow1 (fun r e => by cases e; exact ⟨_, hh, rfl⟩), Go.cell_kept k3 hgrow1 (fun r e => by cases e; exact ⟨_, hh, rfl⟩), Go.cell_kept k4 hgrow1 (fun r e => by cases e; exact ⟨_, hh, rfl⟩), by rw [hsn, List.length_append]; exact hown1⟩, hB.grown hgrow1 hB.size (fun k e => by cases e; omega)⟩
    | false =>
      rw [nxStep, if_neg (by rw [q]; decide)] at hsn
      have k6 : W.ownsMap Try.prog 3 (plainElem (H := Unit) Try.prog 3) (w.heap.size + 1 + 1) (pre ++ [x]).length (nxP s b (pre ++ [x])) := by
        rw [hsn, List.length_append]
        obtain ⟨es, ck, h1, h2, h3, h4⟩ := k5
        exact ⟨es, ck, h1, h2, by omega, h4⟩
      by_cases e1 : x.2.1.frm = s
      · have e3 : (x.2.1.send == b) = false := by
          rw [fromM, e1] at q
          simpa using q
        rw [e1] at c0
        clear hX q e1
        gi_wp2
        exact ⟨KeepsFrom.refl _ _, ⟨Below.refl _ _, rfl⟩, ⟨k1, k2, k3, k4, k6⟩, hB⟩
      · have e3 : (x.2.1.frm == s) = false := by simpa using e1
        clear hX q e1
        gi_wp2
        exact ⟨KeepsFrom.refl _ _, ⟨Below.refl _ _, rfl⟩, ⟨k1, k2, k3, k4, k6⟩, hB⟩
  case done =>
    rintro D ys W hD rfl ⟨⟨k1, k2, k3, k4, k5⟩, hB⟩ hK
    gi_wp2
    refine ⟨by simp, .inl ⟨_, _, rfl, run_takeDeferred hK, ?_⟩⟩
    have hfin := nxP_backs s b hz zs.length (Nat.le_refl _)
    rw [Nat.sub_self, List.drop_zero, hl] at hfin
    rw [backM_len, hfin] at k5
    exact ⟨_, results_tmp rfl _ _ _, _, rfl, by omega, k5.kept (grownBy_putObj' _ D _) (fun e => by cases e; omega), hB.trans (belowK_b (w := w) (Nat.le_refl _) W D _ _ (by omega) hK rfl rfl)⟩
  case stop =>
    rintro D c pre W _ _ h _
    exact h.elim
theorem next_any {v : Value} {x : Mac} (s : Int) (b : Bool) {w : World} (h : MacW w v x) (hz : ∀ z ∈ x.moves, Wmv z) (hn : x.parts ≤ 1048576000) :
    Calls Try.prog 93 #[partyV v s, .bool b] w fun e w' => ∃ g, e = .returned (.map (some g)) ∧ w.heap.size ≤ g ∧ w'.ownsMap Try.prog 3 (plainElem (H := Unit) Try.prog 3) g x.moves.length (nx s b x.moves) ∧ Below w.heap.size w w' := by
  obtain ⟨p, np, cp, a, n, c, rfl, _, hm, _⟩ := h
  have := hm.len
  subst this
  exact callsIn_wide.1 (next_in x.st s b p np cp a _ c x.moves w hm hz (by unfold Mac.parts at hn; omega))
end Go.Proofs.Ytckmgbobkffabaa
