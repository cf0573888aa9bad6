/- Whether a machine in a state sends a message that another one does not receive: by the program. -/
import Derived.Test.YtckmgbobkffabaaPty
namespace Go.Proofs.Ytckmgbobkffabaa
open Go.ChangeShapes Go.WideShapes Go.ChangeAt Go.RowKit
set_option linter.unusedVariables false
set_option linter.unusedSimpArgs false

theorem four_twice (w : World) (c1 c2 : Array Value) (t1 t2 : TypeId) : Below w.heap.size w ((w.alloc (.cells c1 t1)).alloc (.cells c2 t2)) ∧ ((w.alloc (.cells c1 t1)).alloc (.cells c2 t2)).heap[w.heap.size]? = some (.cells c1 t1 (0, 0)) ∧
    ((w.alloc (.cells c1 t1)).alloc (.cells c2 t2)).heap[w.heap.size + 1]? = some (.cells c2 t2 (0, 0)) ∧ ((w.alloc (.cells c1 t1)).alloc (.cells c2 t2)).heap.size = w.heap.size + 2 := twice w c1 c2 t1 t2
theorem movesFrom_wf {x : Mac} {s : Int} {b : Bool} (hz : ∀ z ∈ x.moves, Wmv z) {k : Int} (hk : k ∈ movesFrom x s b) : (Lit.int .i64 k).wf = true := by
  obtain ⟨m, h1, h2⟩ := mem_movesFrom.1 hk
  rw [← (hitM_iff.1 h2).2.2]
  exact (hz m h1).1
theorem party_eq (a b c : Value) (s : Int) : partyV (.agg #[a, b, c]) s = .agg #[a, b, c, .int .i64 s] := rfl
set_option maxRecDepth 100000 in
theorem sendsUnread_any {v v' : Value} {x y : Mac} (s t : Int) {w : World} (h : MacW w v x) (h' : MacW w v' y) (hz : ∀ z ∈ x.moves, Wmv z) (hz' : ∀ z ∈ y.moves, Wmv z) (hn : x.parts ≤ 1000000000) (hn' : y.parts ≤ 1000000000) :
    Calls Try.prog 60 #[partyV v s, partyV v' t] w (Told (.bool (unreadP x y s t)) w) := by
  obtain ⟨p, np, cp, a, n, c, rfl⟩ := h.shape
  obtain ⟨p', np', cp', a', n', c', rfl⟩ := h'.shape
  obtain ⟨hB, hX, hY, hS⟩ := twice w #[.int .i64 x.st, .slice p np cp, .slice a n c, .int .i64 s] #[.int .i64 y.st, .slice p' np' cp', .slice a' n' c', .int .i64 t] 73 73
  have HB := Lib.hid hB
  have HX := Lib.hid (four_at hX)
  have HY := Lib.hid (four_at hY)
  have HN : Hid (∀ W', Below w.heap.size w W' → Calls Try.prog 93 #[.agg #[.int .i64 y.st, .slice p' np' cp', .slice a' n' c', .int .i64 t], .bool false] W' fun e w' => ∃ g, e = .returned (.map (some g)) ∧ W'.heap.size ≤ g ∧ w'.ownsMap Try.prog 3 (plainElem (H := Unit) Try.prog 3) g y.moves.length (nx t false y.moves) ∧ Below W'.heap.size W' w') := Lib.hid fun W' hb => by
    have q := next_any t false (h'.same hb) hz' (by omega)
    rw [party_eq] at q
    exact q
  have HT : Hid (∀ W', Below w.heap.size w W' → Calls Try.prog 95 #[.agg #[.int .i64 x.st, .slice p np cp, .slice a n c, .int .i64 s]] W' (Made .i64 3 W'.heap.size (movesFrom x s true) W')) := Lib.hid fun W' hb => by
    have q := sent_any s (h.same hb) (by omega)
    rw [party_eq] at q
    exact q
  have HZ := Lib.hid hz
  clear hB hX hY hS h h' hz hz'
  rw [party_eq, party_eq]
  go_enter Try.func60, Try.ntmps60
  go_wp2_with fail
  generalize ((w.alloc (.cells #[.int .i64 x.st, .slice p np cp, .slice a n c, .int .i64 s] 73)).alloc (.cells #[.int .i64 y.st, .slice p' np' cp', .slice a' n' c', .int .i64 t] 73)) = W0 at *
  refine (HN.out W0 HB.out).mono ?_
  rintro e w1 ⟨g, rfl, hg, hm, hb⟩
  have HB1 := Lib.hid (HB.out.trans (hb.mono HB.out.size))
  have HM := Lib.hid hm
  obtain ⟨x0, x1, x2, x3⟩ := HX.out
  replace HX := Lib.hid (And.intro (cell_stay x0 hb) (And.intro (cell_stay x1 hb) (And.intro (cell_stay x2 hb) (cell_stay x3 hb))))
  clear hb hm x0 x1 x2 x3
  have HA := Lib.hid (alloc_same w1 (.cells #[.map (some g)] 107))
  have HG := Lib.hid ((block_cell (heap_alloc_new w1 (.cells #[.map (some g)] 107 (0, 0))) 0).trans rfl)
  obtain ⟨x0, x1, x2, x3⟩ := HX.out
  replace HX := Lib.hid (And.intro (cell_stay x0 HA.out) (And.intro (cell_stay x1 HA.out) (And.intro (cell_stay x2 HA.out) (cell_stay x3 HA.out))))
  have HM2 := Lib.hid (HM.out.alloc (.cells #[.map (some g)] 107))
  clear x0 x1 x2 x3
  obtain ⟨x0, x1, x2, x3⟩ := HX.out
  go_wp2_with fail
  clear x0 x1 x2 x3
  generalize (w1.alloc (.cells #[.map (some g)] 107)) = W2 at *
  have HB2 := Lib.hid (HB1.out.trans (HA.out.mono HB1.out.size))
  refine (HT.out W2 HB2.out).mono ?_
  rintro e w3 ⟨a3, n3, c3, rfl, ho, hb⟩
  have HB3 := Lib.hid (HB2.out.trans (hb.mono HB2.out.size))
  have HCF := Lib.hid (containsUnread_any (c := c3) (ptr := .pointer (some ⟨w1.heap.size, 0, none⟩)) (p := fun k => (toOf y.moves t false k).isNone) ho.nums (fun k w' hk hb' => unread1_any (movesFrom_wf HZ.out hk) (cell_stay (cell_stay HG.out hb) hb') ((HM2.out.kept (grown_below hb none) (by simp)).kept (grown_below hb' none) (by simp))))
  clear ho hb
  go_wp2_with fail
  refine HCF.out.mono ?_
  rintro e w4 ⟨rfl, hb⟩
  have HB4 := Lib.hid (HB3.out.trans (hb.mono HB3.out.size))
  clear hb
  go_wp2_with fail
  go_ret
  exact ⟨rfl, HB4.out⟩
end Go.Proofs.Ytckmgbobkffabaa
