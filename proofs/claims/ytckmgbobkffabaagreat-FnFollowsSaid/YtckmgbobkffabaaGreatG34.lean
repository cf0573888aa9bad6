/- The pairs of states that follow: by the model. Whether a machine is valid: IsMachine by the model. -/
import Derived.Test.YtckmgbobkffabaaGreatG23
import Derived.Test.YtckmgbobkffabaaGreatG11
import Derived.Test.YtckmgbobkffabaaGreatG15
import Derived.StillTailTactics
import Derived.Test.YtckmgbobkffabaaGreatG18
import Derived.Test.YtckmgbobkffabaaGreatG1
namespace Go.Proofs.YtckmgbobkffabaaGreat
open Go.ChangeShapes Go.WideShapes Go.ChangeAt Go.RowKit
set_option linter.unusedVariables false
set_option linter.unusedSimpArgs false

theorem deliv_some {x y : Mac} {s t k r q : Int} (h1 : toOf x.moves s true k = some q) (h2 : toOf y.moves t false k = some r) : deliv x s y t k = some (q, r) := by
 unfold deliv
 rw [h1, h2]
 rfl
theorem deliv_none {x y : Mac} {s t k : Int} (h2 : toOf y.moves t false k = none) : deliv x s y t k = none := by
 unfold deliv
 rw [h2]
 rfl
theorem moveOf_none {x : Mac} {s : Int} {b : Bool} {k : Int} (h : toOf x.moves s b k = none) : moveOf x s b k = -1 := firstAt_none (toOf_none h)
theorem moveOf_some {x : Mac} {s : Int} {b : Bool} {k t : Int} (h : toOf x.moves s b k = some t) : ∃ (j : Nat) (m : Mv), moveOf x s b k = (j : Int) ∧ x.moves[j]? = some m ∧ m.to = t := by
 rcases firstAt_cases (hitM s b k) x.moves with ⟨_, hn⟩ | ⟨j, m, e, hm, hp, hb⟩
 ·obtain ⟨m, h1, _, h2⟩ := toOf_mem h
  rw [List.any_eq_false] at hn
  exact absurd h2 (by simpa using hn m h1)
 ·refine ⟨j, m, e, hm, ?_⟩
  have := toOf_first hm hp hb
  rw [h] at this
  exact (Option.some.inj this).symm
/-- Only block g has changed, or what is new. -/
def Kp (g : Nat) (w w' : World) : Prop := ∀ k, k < w.heap.size → k ≠ g → w'.heap[k]? = w.heap[k]?
theorem Kp.cell {g : Nat} {w w' : World} {p : Addr} {v : Value} (h : Kp g w w') (hc : w.cell? p = some v) (hne : p.block ≠ g) : w'.cell? p = some v := by
 have := h p.block (cell_in hc) hne
 unfold World.cell? at hc ⊢
 rw [this]
 exact hc
theorem Kp.below {g : Nat} {w w' : World} (h : Below w.heap.size w w') : Kp g w w' := fun k hk _ => h.block k hk
theorem Kp.grow {g : Nat} {w w1 w2 : World} (h : Below w.heap.size w w1) (hg : w1.grownBy w2 (some g)) : Kp g w w2 := fun k hk hne => by
 have := h.size
 rw [hg.block k (by omega) (fun e => hne (Option.some.inj e)), h.block k hk]
theorem items_two (w : World) (p : Int × Int) : Items rowEnc 1 ((w.alloc (.cells #[.int .i64 p.1, .int .i64 p.2] 3)).alloc (.cells #[.slice (some ⟨w.heap.size, 0, none⟩) 2 2] 36)) (some ⟨w.heap.size + 1, 0, none⟩) 1 [w.heap.size] := by
 have := items_new rowEnc_len (w.alloc (.cells #[.int .i64 p.1, .int .i64 p.2] 3)) w.heap.size 36
 rw [World.size_alloc] at this
 exact this
theorem Nums.kp {k : IntKind} {g : Nat} {w w' : World} {a : Option Addr} {n : Nat} {l : List Int} (h : Nums k w a n l) (hb : Kp g w w') (hne : ∀ ad, a = some ad → ad.block ≠ g) : Nums k w' a n l :=
 ⟨h.len, h.fits, fun j hj => by
  obtain ⟨ad, e, hx⟩ := h.cell j hj
  exact ⟨ad, e, hb.cell hx (by rw [addr_block]; exact hne ad e)⟩⟩
theorem row_push {rs : List Nat} {w w1 w' : World} {B g n c : Nat} {l : List (Int × Int)} {g' c' : Nat} {p : Int × Int} (h : OwnRs rs w.heap.size w B g n c l) (hb : Below w.heap.size w w1)
  (ho : OwnI rowEnc 1 36 w' B (some ⟨g', 0, none⟩) (n + 1) c' (rs ++ [w1.heap.size]))
  (hg : ((w1.alloc (.cells #[.int .i64 p.1, .int .i64 p.2] 3)).alloc (.cells #[.slice (some ⟨w1.heap.size, 0, none⟩) 2 2] 36)).grownBy w' (some g))
  (hg' : g' = g ∨ g' = ((w1.alloc (.cells #[.int .i64 p.1, .int .i64 p.2] 3)).alloc (.cells #[.slice (some ⟨w1.heap.size, 0, none⟩) 2 2] 36)).heap.size) : OwnRs (rs ++ [w1.heap.size]) w'.heap.size w' B g' (n + 1) c' (l ++ [p]) := by
 obtain ⟨hB, hX, _, hS⟩ := twice w1 #[.int .i64 p.1, .int .i64 p.2] #[.slice (some ⟨w1.heap.size, 0, none⟩) 2 2] 3 36
 have hs := hb.size
 have hlo := h.lo
 have hhi := h.hi
 exact ((h.same hb).same hB).push hX (by omega) (by omega) (fun q hq => by have := (h.out q hq).2.1; omega) ho hg hg'
end Go.Proofs.YtckmgbobkffabaaGreat
namespace Go.Proofs.YtckmgbobkffabaaGreat
open Go.ChangeShapes Go.WideShapes Go.ChangeAt Go.RowKit
set_option linter.unusedVariables false
set_option linter.unusedSimpArgs false

theorem l1In_told (n l h : Int) (w : World) :
  Calls Tryz.prog 41 #[.int .i64 n, .int .i64 l, .int .i64 h] w (Told (.bool (decide (l ≤ n) && decide (n ≤ h))) w) := by
 by_cases h1 : l ≤ n <;> by_cases h2 : n ≤ h <;> (go_enter Tryz.func41, Tryz.ntmps41; go_wp2; go_ret; exact ⟨by simp [h1, h2], Below.refl _ _⟩)

theorem take_allM {p : Mv → Bool} {l : List Mv} {j : Nat} {x : Mv} (hx : l[j]? = some x) (h : (l.take j).all p = true) (hp : p x = true) : (l.take (j + 1)).all p = true := by
 rw [List.take_add_one, hx, List.all_append, h]
 simp [hp]
theorem hit_self (z : Mv) : hitM z.frm z.send z.msg z = true := hitM_iff.2 ⟨rfl, rfl, rfl⟩
theorem hit_sym (a b : Mv) : hitM b.frm b.send b.msg a = hitM a.frm a.send a.msg b := by
 rw [Bool.eq_iff_iff, hitM_iff, hitM_iff]
 exact ⟨fun ⟨p, q, r⟩ => ⟨p.symm, q.symm, r.symm⟩, fun ⟨p, q, r⟩ => ⟨p.symm, q.symm, r.symm⟩⟩
/-- A move stands first, or one like it stands ahead. -/
theorem first_at {x : Mac} {j : Nat} {z : Mv} (hx : x.moves[j]? = some z) : decide (moveOf x z.frm z.send z.msg < (j : Int)) = (x.moves.take j).any (hitM z.frm z.send z.msg) := by
 cases h : (x.moves.take j).any (hitM z.frm z.send z.msg) with
 | false =>
  have : moveOf x z.frm z.send z.msg = (j : Int) := firstAt_hit hx h (hit_self z)
  rw [this]
  simp
 | true =>
  rcases firstAt_cases (hitM z.frm z.send z.msg) x.moves with ⟨_, e⟩ | ⟨k, y, e, hy, hp, hb⟩
  ·rw [List.any_eq_false] at e
   exact absurd (hit_self z) (e z (List.mem_of_getElem? hx))
  ·have : k < j := by
    rcases Nat.lt_or_ge k j with g | g
    ·exact g
    ·obtain ⟨u, hu, hpu⟩ := List.any_eq_true.1 h
     rw [List.any_eq_false] at hb
     exact absurd hpu (hb u (by
      have : x.moves.take j = (x.moves.take k).take j := by rw [List.take_take, Nat.min_eq_left g]
      rw [this] at hu
      exact List.mem_of_mem_take hu))
   unfold moveOf
   rw [e]
   simp; omega
theorem distinct_step {l : List Mv} {j : Nat} {z : Mv} (hx : l[j]? = some z) (h : Distinct (l.take j)) (hn : (l.take j).any (hitM z.frm z.send z.msg) = false) : Distinct (l.take (j + 1)) := by
 unfold Distinct at h ⊢
 rw [List.take_add_one, hx]
 refine List.pairwise_append.2 ⟨h, by simp, fun a ha b hb => ?_⟩
 have : b = z := by simpa using hb
 subst this
 rw [List.any_eq_false] at hn
 have := hn a ha
 unfold sameKey
 rw [← hit_sym a b]
 simpa using this
theorem not_distinct {l : List Mv} {j : Nat} {z : Mv} (hx : l[j]? = some z) (hn : (l.take j).any (hitM z.frm z.send z.msg) = true) : ¬ Distinct l := by
 intro h
 obtain ⟨y, hy, hp⟩ := List.any_eq_true.1 hn
 obtain ⟨i, hi⟩ := List.mem_iff_getElem?.1 hy
 rw [List.getElem?_take] at hi
 split at hi
 ·rename_i hij
  have hjl := at_lt hx
  have h3 := List.pairwise_iff_getElem.1 h i j (by omega) hjl hij
  rw [List.getElem?_eq_getElem (by omega)] at hi
  rw [List.getElem?_eq_getElem hjl] at hx
  rw [Option.some.inj hi, Option.some.inj hx] at h3
  unfold sameKey at h3
  rw [← hit_sym y z, hp] at h3
  cases h3
 ·cases hi
theorem from_other (x : Mac) (z : Mv) : decide (((movesFrom x z.frm (!z.send)).length : Int) > 0) = hasOther x.moves z := by
 have hm : ∀ y, y ∈ movesFrom x z.frm (!z.send) ↔ y ∈ msgsOf x.moves z.frm (!z.send) := fun y => by
  unfold movesFrom
  rw [(puts_asc (l := msgsOf x.moves z.frm (!z.send)) (acc := []) (by simp [Asc])).2 y]
  simp
 cases h : hasOther x.moves z with
 | true =>
  obtain ⟨y, hy, hp⟩ := List.any_eq_true.1 h
  have h1 : y.msg ∈ msgsOf x.moves z.frm (!z.send) := by
   unfold msgsOf
   refine List.mem_map.2 ⟨y, List.mem_filter.2 ⟨hy, ?_⟩, rfl⟩
   simp only [turnM, Bool.and_eq_true, beq_iff_eq, bne_iff_ne] at hp
   simp only [fromM, Bool.and_eq_true, beq_iff_eq]
   refine ⟨hp.1, ?_⟩
   cases h1 : y.send <;> cases h2 : z.send <;> simp_all
  have := List.length_pos_of_mem ((hm _).2 h1)
  simpa using this
 | false =>
  unfold hasOther at h
  rw [List.any_eq_false] at h
  have : movesFrom x z.frm (!z.send) = [] := by
   apply List.eq_nil_iff_forall_not_mem.2
   intro y hy
   have h1 := (hm y).1 hy
   unfold msgsOf at h1
   obtain ⟨u, hu, _⟩ := List.mem_map.1 h1
   obtain ⟨hu1, hu2⟩ := List.mem_filter.1 hu
   have h3 := h u hu1
   simp only [fromM, Bool.and_eq_true, beq_iff_eq] at hu2
   simp only [turnM, Bool.and_eq_true, beq_iff_eq, bne_iff_ne, not_and] at h3
   have := h3 hu2.1
   rw [hu2.2] at this
   cases h2 : z.send <;> simp_all
  rw [this]; rfl

set_option maxHeartbeats 8000000 in
set_option maxRecDepth 100000 in
theorem specIsMachine_any {w : World} {v : Value} {x : Mac} (h : MacW w v x) : Calls Tryz.prog 20 #[v] w (Told (.bool (isMac x)) w) := by
 obtain ⟨a, n, c, q, m, d, rfl, h1, h2, h3, h4⟩ := h
 have e1 := h1.len
 have e2 := h2.len
 have HB : Hid (Below w.heap.size w (w.alloc (.cells #[.int .i64 x.st, .slice a n c, .slice q m d] 27))) := Lib.hid (alloc_same w _)
 have HX : Hid ((w.alloc (.cells #[.int .i64 x.st, .slice a n c, .slice q m d] 27)).heap[w.heap.size]? = some (.cells #[.int .i64 x.st, .slice a n c, .slice q m d] 27 (0, 0))) := Lib.hid (heap_alloc_new w (.cells #[.int .i64 x.st, .slice a n c, .slice q m d] 27 (0, 0)))
 have hsz : (w.alloc (.cells #[.int .i64 x.st, .slice a n c, .slice q m d] 27)).heap.size = w.heap.size + 1 := by simp
 have HMW : Hid (MacW (w.alloc (.cells #[.int .i64 x.st, .slice a n c, .slice q m d] 27)) (.agg #[.int .i64 x.st, .slice a n c, .slice q m d]) x) := Lib.hid (MacW.same ⟨a, n, c, q, m, d, rfl, h1, h2, h3, h4⟩ HB.out)
 have H2 := Lib.hid (h2.same HB.out)
 have HE := Lib.hid (And.intro e1 e2)
 have hn64 : (n : Int) ≤ 9223372036854775807 := by omega
 have hm64 : (m : Int) ≤ 9223372036854775807 := by omega
 clear h1 h2 h3 h4 e1 e2
 have HI := Lib.hid (l1In_told x.st 1 6)
 cases q0 : inB x.st 1 6 with
 | false =>
  have HR : Hid (isMac x = false) := Lib.hid (by simp [isMac, q0])
  unfold inB at q0
  rw [q0] at HI
  clear q0
  go_enter Tryz.func20, Tryz.ntmps20
  go_wp2_with fail
  generalize (w.alloc (.cells #[.int .i64 x.st, .slice a n c, .slice q m d] 27)) = W0 at *
  refine (HI.out _).mono ?_
  rintro e w1 ⟨rfl, hb⟩
  have HD1 := Lib.hid hb
  have HB1 := Lib.hid (HB.out.trans (hb.mono HB.out.size))
  obtain ⟨b0, b1, b2, _, _, _⟩ := three_cells ((hb.block w.heap.size (by omega)).trans HX.out)
  clear hb
  go_wp2_with fail
  go_ret
  exact ⟨by rw [HR.out]; try rfl, HB1.out⟩
 | true =>
  have hst : 1 ≤ x.st ∧ x.st ≤ 6 := by simpa [inB] using q0
  have HQ0 := Lib.hid q0
  unfold inB at q0
  rw [q0] at HI
  clear q0
  by_cases q1 : (n : Int) = x.st
  ·have f1 : ((n : Int) != x.st) = false := by simpa using q1
   by_cases q2 : m ≤ 12
   ·have f2 : decide ((m : Int) > 12) = false := by simp; omega
    have f3 : decide ((12 : Int) < (m : Int)) = false := by simp; omega
    have HQ : Hid (isMac x = (x.moves.all (goodM x) && decide (Distinct x.moves))) := Lib.hid (by simp [isMac, HQ0.out, HE.out.1, HE.out.2, q1, q2])
    have HPT : Hid (x.parts ≤ 100) := Lib.hid (by unfold Mac.parts; rw [HE.out.1, HE.out.2]; omega)
    clear q1
    go_enter Tryz.func20, Tryz.ntmps20
    go_wp2_with fail
    generalize (w.alloc (.cells #[.int .i64 x.st, .slice a n c, .slice q m d] 27)) = W0 at *
    refine (HI.out _).mono ?_
    rintro e w1 ⟨rfl, hb⟩
    have HD1 := Lib.hid hb
    have HB1 := Lib.hid (HB.out.trans (hb.mono HB.out.size))
    obtain ⟨b0, b1, b2, _, _, _⟩ := three_cells ((hb.block w.heap.size (by omega)).trans HX.out)
    clear hb
    go_wp2_with fail
    clear f1 f2 f3 b0 b1 b2
    go_loopw [3] (fun i wr => ∃ j : Nat, j ≤ m ∧ i = .int .i64 j ∧ (x.moves.take j).all (goodM x) = true ∧ Distinct (x.moves.take j) ∧ Below W0.heap.size W0 wr) (fun i _ => m - (intOf i).toNat)
    case atStart => exact ⟨0, Nat.zero_le _, rfl, by simp, by simp [Distinct], HD1.out⟩
    case round =>
     obtain ⟨j, hj, rfl, hall, hdis, hb⟩ := hrel
     have HA := Lib.hid hall
     have HDI := Lib.hid hdis
     have HB9 := Lib.hid hb
     have hX1 := (hb.block w.heap.size (by omega)).trans HX.out
     obtain ⟨b0, b1, b2, _, _, _⟩ := three_cells hX1
     clear hall hb hX1 hdis
     by_cases hlt : j < m
     ·obtain ⟨y1, o1, z, rfl, hx, hc0, hc1, hc2, hc3⟩ := mvs_at (H2.out.same HB9.out) hlt
      have HXJ := Lib.hid hx
      have HM := Lib.hid (alloc_same wr (.cells #[.int .i64 z.frm, .bool z.send, .int .i64 z.msg, .int .i64 z.to] 43))
      have C := Lib.hid (four_at (heap_alloc_new wr (.cells #[.int .i64 z.frm, .bool z.send, .int .i64 z.msg, .int .i64 z.to] 43 (0, 0))))
      have A := Lib.hid (And.intro (cell_stay b0 HM.out) (And.intro (cell_stay b1 HM.out) (cell_stay b2 HM.out)))
      have HBM : Hid (Below W0.heap.size W0 (wr.alloc (.cells #[.int .i64 z.frm, .bool z.send, .int .i64 z.msg, .int .i64 z.to] 43))) := Lib.hid (HB9.out.trans (HM.out.mono HB9.out.size))
      have HT1 := Lib.hid (l1In_told z.frm 0 (x.st - 1))
      have HT2 := Lib.hid (l1In_told z.to 0 (x.st - 1))
      have HT3 := Lib.hid (l1In_told z.msg 0 5)
      have HT4 := Lib.hid (fun w' (h : MacW w' (.agg #[.int .i64 x.st, .slice a n c, .slice (some ⟨y1, o1, none⟩) m d]) x) => specMoveOf_any z.frm z.send z.msg h)
      have HT5 := Lib.hid (fun w' (h : MacW w' (.agg #[.int .i64 x.st, .slice a n c, .slice (some ⟨y1, o1, none⟩) m d]) x) => specMovesFrom_any z.frm (!z.send) h (by have := HPT.out; omega))
      have HJ4 := Lib.hid (first_at hx)
      have HJ5 := Lib.hid (from_other x z)
      clear hx
      cases q3 : inB z.frm 0 (x.st - 1) with
      | false =>
       have HR : Hid (isMac x = false) := Lib.hid (by
         rw [HQ.out]
         have : x.moves.all (goodM x) = false := by
          rw [List.all_eq_false]
          exact ⟨z, List.mem_of_getElem? HXJ.out, by simp [goodM, okM, q3]⟩
         rw [this]; rfl)
       unfold inB at q3
       rw [q3] at HT1
       clear q3
       have a0 := A.out.1
       have a1 := A.out.2.1
       have a2 := A.out.2.2
       go_wp2_with fail
       clear hc0 hc1 hc2 hc3 b0 b1 b2 a0 a1 a2
       generalize (wr.alloc (.cells #[.int .i64 z.frm, .bool z.send, .int .i64 z.msg, .int .i64 z.to] 43)) = W2 at *
       refine (HT1.out _).mono ?_
       rintro e v1 ⟨rfl, hb⟩
       have HV1 : Hid (Below W0.heap.size W0 v1) := Lib.hid (HBM.out.trans (hb.mono HBM.out.size))
       have HC1 : Hid (Below W2.heap.size W2 v1) := Lib.hid (hb)
       have c0 := cell_stay C.out.1 HC1.out
       have c1 := cell_stay C.out.2.1 HC1.out
       have c2 := cell_stay C.out.2.2.1 HC1.out
       have c3 := cell_stay C.out.2.2.2 HC1.out
       have k0 := cell_stay A.out.1 HC1.out
       have k1 := cell_stay A.out.2.1 HC1.out
       have k2 := cell_stay A.out.2.2 HC1.out
       clear hb
       go_wp2_with fail
       go_ret
       exact ⟨by rw [HR.out]; try rfl, HB.out.trans (HV1.out.mono HB.out.size)⟩
      | true =>
       cases q4 : inB z.to 0 (x.st - 1) with
       | false =>
        have HR : Hid (isMac x = false) := Lib.hid (by
          rw [HQ.out]
          have : x.moves.all (goodM x) = false := by
           rw [List.all_eq_false]
           exact ⟨z, List.mem_of_getElem? HXJ.out, by simp [goodM, okM, q4]⟩
          rw [this]; rfl)
        unfold inB at q3
        rw [q3] at HT1
        unfold inB at q4
        rw [q4] at HT2
        clear q3 q4
        have a0 := A.out.1
        have a1 := A.out.2.1
        have a2 := A.out.2.2
        go_wp2_with fail
        clear hc0 hc1 hc2 hc3 b0 b1 b2 a0 a1 a2
        generalize (wr.alloc (.cells #[.int .i64 z.frm, .bool z.send, .int .i64 z.msg, .int .i64 z.to] 43)) = W2 at *
        refine (HT1.out _).mono ?_
        rintro e v1 ⟨rfl, hb⟩
        have HV1 : Hid (Below W0.heap.size W0 v1) := Lib.hid (HBM.out.trans (hb.mono HBM.out.size))
        have HC1 : Hid (Below W2.heap.size W2 v1) := Lib.hid (hb)
        have c0 := cell_stay C.out.1 HC1.out
        have c1 := cell_stay C.out.2.1 HC1.out
        have c2 := cell_stay C.out.2.2.1 HC1.out
        have c3 := cell_stay C.out.2.2.2 HC1.out
        have k0 := cell_stay A.out.1 HC1.out
        have k1 := cell_stay A.out.2.1 HC1.out
        have k2 := cell_stay A.out.2.2 HC1.out
        clear hb
        go_wp2_with fail
        clear c0 c1 c2 c3 k0 k1 k2
        refine (HT2.out _).mono ?_
        rintro e v2 ⟨rfl, hb⟩
        have HV2 : Hid (Below W0.heap.size W0 v2) := Lib.hid (HV1.out.trans (hb.mono HV1.out.size))
        have HC2 : Hid (Below W2.heap.size W2 v2) := Lib.hid (HC1.out.trans (hb.mono HC1.out.size))
        have c0 := cell_stay C.out.1 HC2.out
        have c1 := cell_stay C.out.2.1 HC2.out
        have c2 := cell_stay C.out.2.2.1 HC2.out
        have c3 := cell_stay C.out.2.2.2 HC2.out
        have k0 := cell_stay A.out.1 HC2.out
        have k1 := cell_stay A.out.2.1 HC2.out
        have k2 := cell_stay A.out.2.2 HC2.out
        clear hb
        go_wp2_with fail
        go_ret
        exact ⟨by rw [HR.out]; try rfl, HB.out.trans (HV2.out.mono HB.out.size)⟩
       | true =>
        cases q5 : inB z.msg 0 5 with
        | false =>
         have HR : Hid (isMac x = false) := Lib.hid (by
           rw [HQ.out]
           have : x.moves.all (goodM x) = false := by
            rw [List.all_eq_false]
            exact ⟨z, List.mem_of_getElem? HXJ.out, by simp [goodM, okM, q5]⟩
           rw [this]; rfl)
         unfold inB at q3
         rw [q3] at HT1
         unfold inB at q4
         rw [q4] at HT2
         unfold inB at q5
         rw [q5] at HT3
         clear q3 q4 q5
         have a0 := A.out.1
         have a1 := A.out.2.1
         have a2 := A.out.2.2
         go_wp2_with fail
         clear hc0 hc1 hc2 hc3 b0 b1 b2 a0 a1 a2
         generalize (wr.alloc (.cells #[.int .i64 z.frm, .bool z.send, .int .i64 z.msg, .int .i64 z.to] 43)) = W2 at *
         refine (HT1.out _).mono ?_
         rintro e v1 ⟨rfl, hb⟩
         have HV1 : Hid (Below W0.heap.size W0 v1) := Lib.hid (HBM.out.trans (hb.mono HBM.out.size))
         have HC1 : Hid (Below W2.heap.size W2 v1) := Lib.hid (hb)
         have c0 := cell_stay C.out.1 HC1.out
         have c1 := cell_stay C.out.2.1 HC1.out
         have c2 := cell_stay C.out.2.2.1 HC1.out
         have c3 := cell_stay C.out.2.2.2 HC1.out
         have k0 := cell_stay A.out.1 HC1.out
         have k1 := cell_stay A.out.2.1 HC1.out
         have k2 := cell_stay A.out.2.2 HC1.out
         clear hb
         go_wp2_with fail
         clear c0 c1 c2 c3 k0 k1 k2
         refine (HT2.out _).mono ?_
         rintro e v2 ⟨rfl, hb⟩
         have HV2 : Hid (Below W0.heap.size W0 v2) := Lib.hid (HV1.out.trans (hb.mono HV1.out.size))
         have HC2 : Hid (Below W2.heap.size W2 v2) := Lib.hid (HC1.out.trans (hb.mono HC1.out.size))
         have c0 := cell_stay C.out.1 HC2.out
         have c1 := cell_stay C.out.2.1 HC2.out
         have c2 := cell_stay C.out.2.2.1 HC2.out
         have c3 := cell_stay C.out.2.2.2 HC2.out
         have k0 := cell_stay A.out.1 HC2.out
         have k1 := cell_stay A.out.2.1 HC2.out
         have k2 := cell_stay A.out.2.2 HC2.out
         clear hb
         go_wp2_with fail
         clear c0 c1 c2 c3 k0 k1 k2
         refine (HT3.out _).mono ?_
         rintro e v3 ⟨rfl, hb⟩
         have HV3 : Hid (Below W0.heap.size W0 v3) := Lib.hid (HV2.out.trans (hb.mono HV2.out.size))
         have HC3 : Hid (Below W2.heap.size W2 v3) := Lib.hid (HC2.out.trans (hb.mono HC2.out.size))
         have c0 := cell_stay C.out.1 HC3.out
         have c1 := cell_stay C.out.2.1 HC3.out
         have c2 := cell_stay C.out.2.2.1 HC3.out
         have c3 := cell_stay C.out.2.2.2 HC3.out
         have k0 := cell_stay A.out.1 HC3.out
         have k1 := cell_stay A.out.2.1 HC3.out
         have k2 := cell_stay A.out.2.2 HC3.out
         clear hb
         go_wp2_with fail
         go_ret
         exact ⟨by rw [HR.out]; try rfl, HB.out.trans (HV3.out.mono HB.out.size)⟩
        | true =>
         cases q6 : (x.moves.take j).any (hitM z.frm z.send z.msg) with
         | true =>
          have HR : Hid (isMac x = false) := Lib.hid (by
            rw [HQ.out, decide_eq_false (not_distinct HXJ.out q6)]
            simp)
          unfold inB at q3
          rw [q3] at HT1
          unfold inB at q4
          rw [q4] at HT2
          unfold inB at q5
          rw [q5] at HT3
          rw [q6] at HJ4
          have g4 := HJ4.out
          clear q3 q4 q5 q6
          have a0 := A.out.1
          have a1 := A.out.2.1
          have a2 := A.out.2.2
          go_wp2_with fail
          clear hc0 hc1 hc2 hc3 b0 b1 b2 a0 a1 a2
          generalize (wr.alloc (.cells #[.int .i64 z.frm, .bool z.send, .int .i64 z.msg, .int .i64 z.to] 43)) = W2 at *
          refine (HT1.out _).mono ?_
          rintro e v1 ⟨rfl, hb⟩
          have HV1 : Hid (Below W0.heap.size W0 v1) := Lib.hid (HBM.out.trans (hb.mono HBM.out.size))
          have HC1 : Hid (Below W2.heap.size W2 v1) := Lib.hid (hb)
          have c0 := cell_stay C.out.1 HC1.out
          have c1 := cell_stay C.out.2.1 HC1.out
          have c2 := cell_stay C.out.2.2.1 HC1.out
          have c3 := cell_stay C.out.2.2.2 HC1.out
          have k0 := cell_stay A.out.1 HC1.out
          have k1 := cell_stay A.out.2.1 HC1.out
          have k2 := cell_stay A.out.2.2 HC1.out
          clear hb
          go_wp2_with fail
          clear c0 c1 c2 c3 k0 k1 k2
          refine (HT2.out _).mono ?_
          rintro e v2 ⟨rfl, hb⟩
          have HV2 : Hid (Below W0.heap.size W0 v2) := Lib.hid (HV1.out.trans (hb.mono HV1.out.size))
          have HC2 : Hid (Below W2.heap.size W2 v2) := Lib.hid (HC1.out.trans (hb.mono HC1.out.size))
          have c0 := cell_stay C.out.1 HC2.out
          have c1 := cell_stay C.out.2.1 HC2.out
          have c2 := cell_stay C.out.2.2.1 HC2.out
          have c3 := cell_stay C.out.2.2.2 HC2.out
          have k0 := cell_stay A.out.1 HC2.out
          have k1 := cell_stay A.out.2.1 HC2.out
          have k2 := cell_stay A.out.2.2 HC2.out
          clear hb
          go_wp2_with fail
          clear c0 c1 c2 c3 k0 k1 k2
          refine (HT3.out _).mono ?_
          rintro e v3 ⟨rfl, hb⟩
          have HV3 : Hid (Below W0.heap.size W0 v3) := Lib.hid (HV2.out.trans (hb.mono HV2.out.size))
          have HC3 : Hid (Below W2.heap.size W2 v3) := Lib.hid (HC2.out.trans (hb.mono HC2.out.size))
          have c0 := cell_stay C.out.1 HC3.out
          have c1 := cell_stay C.out.2.1 HC3.out
          have c2 := cell_stay C.out.2.2.1 HC3.out
          have c3 := cell_stay C.out.2.2.2 HC3.out
          have k0 := cell_stay A.out.1 HC3.out
          have k1 := cell_stay A.out.2.1 HC3.out
          have k2 := cell_stay A.out.2.2 HC3.out
          clear hb
          go_wp2_with fail
          clear c0 c1 c2 c3 k0 k1 k2
          refine (HT4.out _ (HMW.out.same HV3.out)).mono ?_
          rintro e v4 ⟨rfl, hb⟩
          have HV4 : Hid (Below W0.heap.size W0 v4) := Lib.hid (HV3.out.trans (hb.mono HV3.out.size))
          have HC4 : Hid (Below W2.heap.size W2 v4) := Lib.hid (HC3.out.trans (hb.mono HC3.out.size))
          have c0 := cell_stay C.out.1 HC4.out
          have c1 := cell_stay C.out.2.1 HC4.out
          have c2 := cell_stay C.out.2.2.1 HC4.out
          have c3 := cell_stay C.out.2.2.2 HC4.out
          have k0 := cell_stay A.out.1 HC4.out
          have k1 := cell_stay A.out.2.1 HC4.out
          have k2 := cell_stay A.out.2.2 HC4.out
          clear hb
          go_wp2_with fail
          go_ret
          exact ⟨by rw [HR.out]; try rfl, HB.out.trans (HV4.out.mono HB.out.size)⟩
         | false =>
          cases q7 : hasOther x.moves z with
          | true =>
           have HR : Hid (isMac x = false) := Lib.hid (by
             rw [HQ.out]
             have : x.moves.all (goodM x) = false := by
              rw [List.all_eq_false]
              exact ⟨z, List.mem_of_getElem? HXJ.out, by simp [goodM, q7]⟩
             rw [this]; rfl)
           unfold inB at q3
           rw [q3] at HT1
           unfold inB at q4
           rw [q4] at HT2
           unfold inB at q5
           rw [q5] at HT3
           rw [q6] at HJ4
           have g4 := HJ4.out
           rw [q7] at HJ5
           clear q3 q4 q5 q6 q7
           have a0 := A.out.1
           have a1 := A.out.2.1
           have a2 := A.out.2.2
           go_wp2_with fail
           clear hc0 hc1 hc2 hc3 b0 b1 b2 a0 a1 a2
           generalize (wr.alloc (.cells #[.int .i64 z.frm, .bool z.send, .int .i64 z.msg, .int .i64 z.to] 43)) = W2 at *
           refine (HT1.out _).mono ?_
           rintro e v1 ⟨rfl, hb⟩
           have HV1 : Hid (Below W0.heap.size W0 v1) := Lib.hid (HBM.out.trans (hb.mono HBM.out.size))
           have HC1 : Hid (Below W2.heap.size W2 v1) := Lib.hid (hb)
           have c0 := cell_stay C.out.1 HC1.out
           have c1 := cell_stay C.out.2.1 HC1.out
           have c2 := cell_stay C.out.2.2.1 HC1.out
           have c3 := cell_stay C.out.2.2.2 HC1.out
           have k0 := cell_stay A.out.1 HC1.out
           have k1 := cell_stay A.out.2.1 HC1.out
           have k2 := cell_stay A.out.2.2 HC1.out
           clear hb
           go_wp2_with fail
           clear c0 c1 c2 c3 k0 k1 k2
           refine (HT2.out _).mono ?_
           rintro e v2 ⟨rfl, hb⟩
           have HV2 : Hid (Below W0.heap.size W0 v2) := Lib.hid (HV1.out.trans (hb.mono HV1.out.size))
           have HC2 : Hid (Below W2.heap.size W2 v2) := Lib.hid (HC1.out.trans (hb.mono HC1.out.size))
           have c0 := cell_stay C.out.1 HC2.out
           have c1 := cell_stay C.out.2.1 HC2.out
           have c2 := cell_stay C.out.2.2.1 HC2.out
           have c3 := cell_stay C.out.2.2.2 HC2.out
           have k0 := cell_stay A.out.1 HC2.out
           have k1 := cell_stay A.out.2.1 HC2.out
           have k2 := cell_stay A.out.2.2 HC2.out
           clear hb
           go_wp2_with fail
           clear c0 c1 c2 c3 k0 k1 k2
           refine (HT3.out _).mono ?_
           rintro e v3 ⟨rfl, hb⟩
           have HV3 : Hid (Below W0.heap.size W0 v3) := Lib.hid (HV2.out.trans (hb.mono HV2.out.size))
           have HC3 : Hid (Below W2.heap.size W2 v3) := Lib.hid (HC2.out.trans (hb.mono HC2.out.size))
           have c0 := cell_stay C.out.1 HC3.out
           have c1 := cell_stay C.out.2.1 HC3.out
           have c2 := cell_stay C.out.2.2.1 HC3.out
           have c3 := cell_stay C.out.2.2.2 HC3.out
           have k0 := cell_stay A.out.1 HC3.out
           have k1 := cell_stay A.out.2.1 HC3.out
           have k2 := cell_stay A.out.2.2 HC3.out
           clear hb
           go_wp2_with fail
           clear c0 c1 c2 c3 k0 k1 k2
           refine (HT4.out _ (HMW.out.same HV3.out)).mono ?_
           rintro e v4 ⟨rfl, hb⟩
           have HV4 : Hid (Below W0.heap.size W0 v4) := Lib.hid (HV3.out.trans (hb.mono HV3.out.size))
           have HC4 : Hid (Below W2.heap.size W2 v4) := Lib.hid (HC3.out.trans (hb.mono HC3.out.size))
           have c0 := cell_stay C.out.1 HC4.out
           have c1 := cell_stay C.out.2.1 HC4.out
           have c2 := cell_stay C.out.2.2.1 HC4.out
           have c3 := cell_stay C.out.2.2.2 HC4.out
           have k0 := cell_stay A.out.1 HC4.out
           have k1 := cell_stay A.out.2.1 HC4.out
           have k2 := cell_stay A.out.2.2 HC4.out
           clear hb
           go_wp2_with fail
           clear c0 c1 c2 c3 k0 k1 k2
           refine (HT5.out _ (HMW.out.same HV4.out)).mono ?_
           rintro e v5 ⟨p5, u5, r5, rfl, ho, hb⟩
           have hu5 := ho.len
           have HV5 : Hid (Below W0.heap.size W0 v5) := Lib.hid (HV4.out.trans (hb.mono HV4.out.size))
           have HC5 : Hid (Below W2.heap.size W2 v5) := Lib.hid (HC4.out.trans (hb.mono HC4.out.size))
           have c0 := cell_stay C.out.1 HC5.out
           have c1 := cell_stay C.out.2.1 HC5.out
           have c2 := cell_stay C.out.2.2.1 HC5.out
           have c3 := cell_stay C.out.2.2.2 HC5.out
           have k0 := cell_stay A.out.1 HC5.out
           have k1 := cell_stay A.out.2.1 HC5.out
           have k2 := cell_stay A.out.2.2 HC5.out
           clear hb
           have g5 := HJ5.out
           rw [hu5] at g5
           have g6 : 0 < u5 := by simpa using g5
           clear ho hu5 g5
           go_wp2_with fail
           go_ret
           exact ⟨by rw [HR.out]; try rfl, HB.out.trans (HV5.out.mono HB.out.size)⟩
          | false =>
           have HS := Lib.hid (take_allM HXJ.out HA.out (by simp [goodM, okM, q3, q4, q5, q7]))
           have HS2 := Lib.hid (distinct_step HXJ.out HDI.out q6)
           unfold inB at q3
           rw [q3] at HT1
           unfold inB at q4
           rw [q4] at HT2
           unfold inB at q5
           rw [q5] at HT3
           rw [q6] at HJ4
           have g4 := HJ4.out
           rw [q7] at HJ5
           clear q3 q4 q5 q6 q7
           have a0 := A.out.1
           have a1 := A.out.2.1
           have a2 := A.out.2.2
           go_wp2_with fail
           clear hc0 hc1 hc2 hc3 b0 b1 b2 a0 a1 a2
           generalize (wr.alloc (.cells #[.int .i64 z.frm, .bool z.send, .int .i64 z.msg, .int .i64 z.to] 43)) = W2 at *
           refine (HT1.out _).mono ?_
           rintro e v1 ⟨rfl, hb⟩
           have HV1 : Hid (Below W0.heap.size W0 v1) := Lib.hid (HBM.out.trans (hb.mono HBM.out.size))
           have HC1 : Hid (Below W2.heap.size W2 v1) := Lib.hid (hb)
           have c0 := cell_stay C.out.1 HC1.out
           have c1 := cell_stay C.out.2.1 HC1.out
           have c2 := cell_stay C.out.2.2.1 HC1.out
           have c3 := cell_stay C.out.2.2.2 HC1.out
           have k0 := cell_stay A.out.1 HC1.out
           have k1 := cell_stay A.out.2.1 HC1.out
           have k2 := cell_stay A.out.2.2 HC1.out
           clear hb
           go_wp2_with fail
           clear c0 c1 c2 c3 k0 k1 k2
           refine (HT2.out _).mono ?_
           rintro e v2 ⟨rfl, hb⟩
           have HV2 : Hid (Below W0.heap.size W0 v2) := Lib.hid (HV1.out.trans (hb.mono HV1.out.size))
           have HC2 : Hid (Below W2.heap.size W2 v2) := Lib.hid (HC1.out.trans (hb.mono HC1.out.size))
           have c0 := cell_stay C.out.1 HC2.out
           have c1 := cell_stay C.out.2.1 HC2.out
           have c2 := cell_stay C.out.2.2.1 HC2.out
           have c3 := cell_stay C.out.2.2.2 HC2.out
           have k0 := cell_stay A.out.1 HC2.out
           have k1 := cell_stay A.out.2.1 HC2.out
           have k2 := cell_stay A.out.2.2 HC2.out
           clear hb
           go_wp2_with fail
           clear c0 c1 c2 c3 k0 k1 k2
           refine (HT3.out _).mono ?_
           rintro e v3 ⟨rfl, hb⟩
           have HV3 : Hid (Below W0.heap.size W0 v3) := Lib.hid (HV2.out.trans (hb.mono HV2.out.size))
           have HC3 : Hid (Below W2.heap.size W2 v3) := Lib.hid (HC2.out.trans (hb.mono HC2.out.size))
           have c0 := cell_stay C.out.1 HC3.out
           have c1 := cell_stay C.out.2.1 HC3.out
           have c2 := cell_stay C.out.2.2.1 HC3.out
           have c3 := cell_stay C.out.2.2.2 HC3.out
           have k0 := cell_stay A.out.1 HC3.out
           have k1 := cell_stay A.out.2.1 HC3.out
           have k2 := cell_stay A.out.2.2 HC3.out
           clear hb
           go_wp2_with fail
           clear c0 c1 c2 c3 k0 k1 k2
           refine (HT4.out _ (HMW.out.same HV3.out)).mono ?_
           rintro e v4 ⟨rfl, hb⟩
           have HV4 : Hid (Below W0.heap.size W0 v4) := Lib.hid (HV3.out.trans (hb.mono HV3.out.size))
           have HC4 : Hid (Below W2.heap.size W2 v4) := Lib.hid (HC3.out.trans (hb.mono HC3.out.size))
           have c0 := cell_stay C.out.1 HC4.out
           have c1 := cell_stay C.out.2.1 HC4.out
           have c2 := cell_stay C.out.2.2.1 HC4.out
           have c3 := cell_stay C.out.2.2.2 HC4.out
           have k0 := cell_stay A.out.1 HC4.out
           have k1 := cell_stay A.out.2.1 HC4.out
           have k2 := cell_stay A.out.2.2 HC4.out
           clear hb
           go_wp2_with fail
           clear c0 c1 c2 c3 k0 k1 k2
           refine (HT5.out _ (HMW.out.same HV4.out)).mono ?_
           rintro e v5 ⟨p5, u5, r5, rfl, ho, hb⟩
           have hu5 := ho.len
           have HV5 : Hid (Below W0.heap.size W0 v5) := Lib.hid (HV4.out.trans (hb.mono HV4.out.size))
           have HC5 : Hid (Below W2.heap.size W2 v5) := Lib.hid (HC4.out.trans (hb.mono HC4.out.size))
           have c0 := cell_stay C.out.1 HC5.out
           have c1 := cell_stay C.out.2.1 HC5.out
           have c2 := cell_stay C.out.2.2.1 HC5.out
           have c3 := cell_stay C.out.2.2.2 HC5.out
           have k0 := cell_stay A.out.1 HC5.out
           have k1 := cell_stay A.out.2.1 HC5.out
           have k2 := cell_stay A.out.2.2 HC5.out
           clear hb
           have g5 := HJ5.out
           rw [hu5] at g5
           have g6 : u5 = 0 := by simpa using g5
           clear ho hu5 g5
           subst g6
           go_wp2_with fail
           go_roundw
           case rel => exact ⟨j + 1, by omega, by go_num, HS.out, HS2.out, HV5.out⟩
           case measure => simp [intOf]; omega
     ·obtain rfl : j = m := by omega
      have hall : x.moves.all (goodM x) = true := by
       have h1 := HA.out
       rwa [List.take_of_length_le (by rw [HE.out.2]; omega)] at h1
      have hdis : Distinct x.moves := by
       have h1 := HDI.out
       rwa [List.take_of_length_le (by rw [HE.out.2]; omega)] at h1
      have HR : Hid (isMac x = true) := Lib.hid (by rw [HQ.out, hall, decide_eq_true hdis]; rfl)
      clear hall hdis
      go_wp2_with fail
      go_ret
      exact ⟨by rw [HR.out]; try rfl, HB.out.trans (HB9.out.mono HB.out.size)⟩
   ·have f1 : decide ((m : Int) > 12) = true := by simp; omega
    have f2 : decide ((12 : Int) < (m : Int)) = true := by simp; omega
    have f0 : ((n : Int) != x.st) = false := by simpa using q1
    have HR : Hid (isMac x = false) := Lib.hid (by
     have : decide (x.moves.length ≤ 12) = false := by rw [HE.out.2]; simpa using q2
     simp [isMac, this])
    clear q1 q2
    go_enter Tryz.func20, Tryz.ntmps20
    go_wp2_with fail
    generalize (w.alloc (.cells #[.int .i64 x.st, .slice a n c, .slice q m d] 27)) = W0 at *
    refine (HI.out _).mono ?_
    rintro e w1 ⟨rfl, hb⟩
    have HD1 := Lib.hid hb
    have HB1 := Lib.hid (HB.out.trans (hb.mono HB.out.size))
    obtain ⟨b0, b1, b2, _, _, _⟩ := three_cells ((hb.block w.heap.size (by omega)).trans HX.out)
    clear hb
    go_wp2_with fail
    go_ret
    exact ⟨by rw [HR.out]; try rfl, HB1.out⟩
  ·have f0 : ((n : Int) != x.st) = true := by simpa using q1
   have HR : Hid (isMac x = false) := Lib.hid (by
    have : decide ((x.ends.length : Int) = x.st) = false := by rw [HE.out.1]; simpa using q1
    simp [isMac, this])
   clear q1
   go_enter Tryz.func20, Tryz.ntmps20
   go_wp2_with fail
   generalize (w.alloc (.cells #[.int .i64 x.st, .slice a n c, .slice q m d] 27)) = W0 at *
   refine (HI.out _).mono ?_
   rintro e w1 ⟨rfl, hb⟩
   have HD1 := Lib.hid hb
   have HB1 := Lib.hid (HB.out.trans (hb.mono HB.out.size))
   obtain ⟨b0, b1, b2, _, _, _⟩ := three_cells ((hb.block w.heap.size (by omega)).trans HX.out)
   clear hb
   go_wp2_with fail
   go_ret
   exact ⟨by rw [HR.out]; try rfl, HB1.out⟩
end Go.Proofs.YtckmgbobkffabaaGreat
