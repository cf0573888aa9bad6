/- Whether an answer fits a hello: by the model. Integers are appended to a slice of the call's own, at a step of a region that draws its order. No function of the program is spoken of. Bytes, transcripts and their hash: by the model. The hash of a transcript, what each side makes of it, whether it checks out: by the model. -/
import Derived.Test.YtcmjadfpifpknaaGreatG17
import Derived.Test.YtcmjadfpifpknaaGreatG16
import Derived.Test.YtcmjadfpifpknaaGreatG29
import Derived.Deep.RegionHeld3
import Derived.Test.YtcmjadfpifpknaaGreatG1
import Derived.Test.YtcmjadfpifpknaaGreatG20
import Derived.Test.YtcmjadfpifpknaaGreatG12
namespace Go.Proofs.YtcmjadfpifpknaaGreat
open Go.ChangeShapes Go.WideShapes Go.ChangeAt Go.RowKit
set_option linter.unusedVariables false
set_option linter.unusedSimpArgs false

theorem all_no {α : Type} {p : α → Bool} {l : List α} {j : Nat} {x : α} (hx : l[j]? = some x) (hp : p x = false) : l.all p = false := by
  rw [List.all_eq_false]
  exact ⟨x, List.mem_of_getElem? hx, by simp [hp]⟩
theorem all_next {α : Type} {p : α → Bool} {l : List α} {j : Nat} {x : α} (hx : l[j]? = some x) (h : (l.take j).all p = true) (hp : p x = true) : (l.take (j + 1)).all p = true := by
  rw [List.take_add_one, hx, List.all_append, h]
  simp [hp]
set_option maxHeartbeats 4000000 in
set_option maxRecDepth 100000 in
theorem specFitsHello_any {u v : Value} {x : Hel} {y : Ans} {w : World} (h : HelW w u x) (h' : AnsW w v y) (hm1 : y.exts.length ≤ 1048576) :
    Calls Tryz.prog 75 #[u, v] w (Told (.bool (fitsA x y)) w) := by
  have KH := Lib.hid (fun (w0 : World) (hb : Below w.heap.size w w0) => specIsHello_any (h.same hb))
  have KA := Lib.hid (fun (w0 : World) (hb : Below w.heap.size w w0) => specIsAnswer_any (h'.same hb))
  obtain ⟨va, vn, vc, xa, xn, xc, rfl, g1, g2, g3⟩ := h
  obtain ⟨b, m, d, rfl, g4, g5⟩ := h'
  obtain ⟨hsz, hC, hD, hb0⟩ := two w #[.slice va vn vc, .slice xa xn xc] #[.int .i64 y.ver, .slice b m d] 27 44
  have hlw : w.heap.size + 1 < ((w.alloc (.cells #[.slice va vn vc, .slice xa xn xc] 27)).alloc (.cells #[.int .i64 y.ver, .slice b m d] 44)).heap.size := by omega
  have HB := Lib.hid hb0
  have HC := Lib.hid hC
  have HD := Lib.hid hD
  have hln := Lib.hid g4.len
  have hmm : m ≤ 1048576 := by have := g4.len; omega
  have G := Lib.hid (And.intro g1 (And.intro g2 g4))
  have KL := Lib.hid (fun (w0 : World) (hb : Below w.heap.size w w0) => told_same (l9Has_any (c := vc) y.ver (g1.same hb)))
  have KX := Lib.hid (fun (t : Int) (w0 : World) (hb : Below w.heap.size w w0) => told_same (specExtOf_any (c := xc) t (g2.same hb)))
  obtain ⟨s0, s1, -⟩ := two_cells hC
  obtain ⟨t0, t1, -⟩ := two_cells hD
  clear hb0 hsz g1 g2 g3 g4 g5 hm1
  unfold fitsA
  go_enter Tryz.func75, Tryz.ntmps75
  go_wp2_with fail
  clear s0 s1 t0 t1 hC hD
  generalize ((w.alloc (.cells #[.slice va vn vc, .slice xa xn xc] 27)).alloc (.cells #[.int .i64 y.ver, .slice b m d] 44)) = W1 at *
  go_loopw [5] (fun i wr => ∃ j : Nat, j ≤ m ∧ i = .int .i64 j ∧ (y.exts.take j).all (fun e => decide (e.num ∈ tagsX x.exts) && !resv e.num) = true ∧ Below w.heap.size w wr ∧ (wr.heap[w.heap.size]? = W1.heap[w.heap.size]? ∧ wr.heap[w.heap.size + 1]? = W1.heap[w.heap.size + 1]?) ∧ W1.heap.size ≤ wr.heap.size) (fun i _ => m - (intOf i).toNat)
  case atStart => exact ⟨0, Nat.zero_le _, rfl, by simp, HB.out, ⟨rfl, rfl⟩, Nat.le_refl _⟩
  case round =>
    obtain ⟨j, hj, rfl, hall, hb, hk2, hs2⟩ := hrel
    have HALL := Lib.hid hall
    have HBr := Lib.hid hb
    have HCr := Lib.hid (hk2.1.trans HC.out)
    have HDr := Lib.hid (hk2.2.trans HD.out)
    clear hall hb hk2
    have hlr : w.heap.size + 1 < wr.heap.size := by omega
    by_cases hlt : j < m
    · obtain ⟨bb, o, p, pm, pd, k, z, rfl, hx, hc0, hc1, hN, hr⟩ := (G.out.2.2.same HBr.out).at_ hlt
      obtain ⟨s0, s1, -⟩ := two_cells HCr.out
      obtain ⟨t0, t1, -⟩ := two_cells HDr.out
      have CX := Lib.hid s1
      have CY := Lib.hid t1
      have CK := Lib.hid hc0
      have HX := Lib.hid hx
      have hj0 : (0 : Int) ≤ (j : Int) := by omega
      have hj1 : (j : Int) < (m : Int) := by omega
      clear hc1 hN hr hx s0 t0 hc0
      by_cases hin : k ∈ tagsX x.exts
      · have hex := extOf_yes hin
        have KE := Lib.hid (KX.out k)
        rw [hex] at KE
        obtain ⟨r, hr⟩ : ∃ r : Nat, (tagsX x.exts).idxOf k = r := ⟨_, rfl⟩
        rw [hr] at KE
        have hneg : decide ((r : Int) < 0) = false := decide_eq_false (by omega)
        have hr0 : (0 : Int) ≤ (r : Int) := by omega
        clear hex hr
        have KR := Lib.hid (fun w0 => told_back (specIsReserved_any k w0))
        cases hres : resv k with
        | true =>
          rw [hres] at KR
          have HE : Hid (fitsX x y = false) := Lib.hid (by unfold fitsX; exact all_no (p := fun e => decide (e.num ∈ tagsX x.exts) && !resv e.num) HX.out (by dsimp only; rw [hres]; simp))
          clear hres
          go_wp2_with fail
          clear s1 t1
          have HBd : Hid (Below wr.heap.size wr wr.drew) := Lib.hid (Below.refl _ _).drew
          refine wp_region_held_drew (S := fun w9 => w9.cell? ⟨w.heap.size, 1, none⟩ = some (.slice xa xn xc) ∧ w9.cell? ⟨w.heap.size + 1, 1, none⟩ = some (.slice (some ⟨bb, o, none⟩) m d) ∧ w9.cell? ⟨bb, o + j * 2, none⟩ = some (.int .i64 k)) (by kernel_rfl) ⟨cell_stay CX.out HBd.out, cell_stay CY.out HBd.out, cell_stay CK.out HBd.out⟩ (fun hHeld => ?_)
          refine wpAnyH_take (i := 0) (v := ?v1) (by simp only [List.getElem?_toArray, List.getElem?_cons_succ, List.getElem?_cons_zero]; rfl) (by kernel_rfl) (by kernel_rfl) (by kernel_rfl) (by exact fun _ _ _ h => h) (Or.inl ⟨by rfl, fun w9 hS9 => ?hy1⟩) hHeld ?rest1
          case hy1 =>
            dsimp only at hS9
            obtain ⟨q0, q1, q2⟩ := hS9
            go_simp
            try with_reducible rfl
          try simp only [Act.put, List.setIfInBounds_toArray, List.set_cons_zero, List.set_cons_succ]
          refine wpAnyH_take (i := 1) (v := ?v2) (by simp only [List.getElem?_toArray, List.getElem?_cons_succ, List.getElem?_cons_zero]; rfl) (by kernel_rfl) (by kernel_rfl) (by kernel_rfl) (by exact fun _ _ _ h => h) (Or.inl ⟨by rfl, fun w9 hS9 => ?hy2⟩) hHeld ?rest2
          case hy2 =>
            dsimp only at hS9
            obtain ⟨q0, q1, q2⟩ := hS9
            go_simp
            try with_reducible rfl
          try simp only [Act.put, List.setIfInBounds_toArray, List.set_cons_zero, List.set_cons_succ]
          refine wpAnyH_take (i := 2) (v := ?v3) (by simp only [List.getElem?_toArray, List.getElem?_cons_succ, List.getElem?_cons_zero]; rfl) (by kernel_rfl) (by kernel_rfl) (by kernel_rfl) (by exact fun _ _ _ h => h) (Or.inl ⟨by rfl, fun w9 hS9 => ?hy3⟩) hHeld ?rest3
          case hy3 =>
            dsimp only at hS9
            obtain ⟨q0, q1, q2⟩ := hS9
            go_simp
            try with_reducible rfl
          try simp only [Act.put, List.setIfInBounds_toArray, List.set_cons_zero, List.set_cons_succ]
          refine wpAnyH_take (i := 3) (v := ?v4) (by simp only [List.getElem?_toArray, List.getElem?_cons_succ, List.getElem?_cons_zero]; rfl) (by kernel_rfl) (by kernel_rfl) (by kernel_rfl) (by exact fun _ _ _ h => h) (Or.inl ⟨by rfl, fun w9 hS9 => ?hy4⟩) hHeld ?rest4
          case hy4 =>
            dsimp only at hS9
            obtain ⟨q0, q1, q2⟩ := hS9
            go_simp
            try with_reducible rfl
          try simp only [Act.put, List.setIfInBounds_toArray, List.set_cons_zero, List.set_cons_succ]
          refine wpAnyH_take (i := 4) (v := ?v5) (by simp only [List.getElem?_toArray, List.getElem?_cons_succ, List.getElem?_cons_zero]; rfl) (by kernel_rfl) (by kernel_rfl) (by kernel_rfl) (by exact fun _ _ _ h => h) (Or.inl ⟨by rfl, fun w9 hS9 => ?hy5⟩) hHeld ?rest5
          case hy5 =>
            dsimp only at hS9
            obtain ⟨q0, q1, q2⟩ := hS9
            go_simp
            try with_reducible rfl
          try simp only [Act.put, List.setIfInBounds_toArray, List.set_cons_zero, List.set_cons_succ]
          refine wpAnyH_take (i := 5) (v := ?v6) (by simp only [List.getElem?_toArray, List.getElem?_cons_succ, List.getElem?_cons_zero]; rfl) (by kernel_rfl) (by kernel_rfl) (by kernel_rfl) (by exact fun _ _ _ h => h) (Or.inl ⟨by rfl, fun w9 hS9 => ?hy6⟩) hHeld ?rest6
          case hy6 =>
            dsimp only at hS9
            obtain ⟨q0, q1, q2⟩ := hS9
            go_simp
            try with_reducible rfl
          try simp only [Act.put, List.setIfInBounds_toArray, List.set_cons_zero, List.set_cons_succ]
          refine wpAnyH_take (i := 6) (v := ?v7) (by simp only [List.getElem?_toArray, List.getElem?_cons_succ, List.getElem?_cons_zero]; rfl) (by kernel_rfl) (by kernel_rfl) (by kernel_rfl) (by exact fun _ _ _ h => h) (Or.inl ⟨by rfl, fun w9 hS9 => ?hy7⟩) hHeld ?rest7
          case hy7 =>
            dsimp only at hS9
            obtain ⟨q0, q1, q2⟩ := hS9
            go_simp
            try with_reducible rfl
          try simp only [Act.put, List.setIfInBounds_toArray, List.set_cons_zero, List.set_cons_succ]
          refine wpAnyH_take (i := 7) (v := ?v8) (by simp only [List.getElem?_toArray, List.getElem?_cons_succ, List.getElem?_cons_zero]; rfl) (by kernel_rfl) (by kernel_rfl) (by kernel_rfl) (by exact fun _ _ _ h => h) (Or.inl ⟨by rfl, fun w9 hS9 => ?hy8⟩) hHeld ?rest8
          case hy8 =>
            dsimp only at hS9
            obtain ⟨q0, q1, q2⟩ := hS9
            go_simp
            try with_reducible rfl
          try simp only [Act.put, List.setIfInBounds_toArray, List.set_cons_zero, List.set_cons_succ]
          refine wpAnyH_ready (rs := [8]) (by kernel_rfl) (by simp) (AllReadyH.cons (by simp only [List.getElem?_toArray, List.getElem?_cons_succ, List.getElem?_cons_zero]; rfl) (fun K hK => ?_) AllReadyH.nil)
          go_simp
          refine (KE.out _ (HBr.out.trans (HBd.out.mono HBr.out.size))).mono ?_
          rintro e w1 ⟨rfl, hb1⟩
          have HB1 : Hid (Below wr.heap.size wr w1) := Lib.hid (HBd.out.trans (hb1.mono HBd.out.size))
          clear hb1
          go_wp2_with fail
          refine hK.out _ _ ⟨cell_stay CX.out HB1.out, cell_stay CY.out HB1.out, cell_stay CK.out HB1.out⟩ (fun hHeld => ?_)
          clear hK K
          try simp only [Act.put, List.setIfInBounds_toArray, List.set_cons_zero, List.set_cons_succ]
          refine wpAnyH_take (i := 9) (v := ?v9) (by simp only [List.getElem?_toArray, List.getElem?_cons_succ, List.getElem?_cons_zero]; rfl) (by kernel_rfl) (by kernel_rfl) (by kernel_rfl) (by exact fun _ _ _ h => h) (Or.inl ⟨by rfl, fun w9 hS9 => ?hy9⟩) hHeld ?rest9
          case hy9 =>
            dsimp only at hS9
            obtain ⟨q0, q1, q2⟩ := hS9
            go_simp
            try with_reducible rfl
          try simp only [Act.put, List.setIfInBounds_toArray, List.set_cons_zero, List.set_cons_succ]
          refine wpAnyH_take (i := 10) (v := ?v10) (by simp only [List.getElem?_toArray, List.getElem?_cons_succ, List.getElem?_cons_zero]; rfl) (by kernel_rfl) (by kernel_rfl) (by kernel_rfl) (by exact fun _ _ _ h => h) (Or.inl ⟨by rfl, fun w9 hS9 => ?hy10⟩) hHeld ?rest10
          case hy10 =>
            dsimp only at hS9
            obtain ⟨q0, q1, q2⟩ := hS9
            go_simp
            try with_reducible rfl
          try simp only [Act.put, List.setIfInBounds_toArray, List.set_cons_zero, List.set_cons_succ]
          refine wpAnyH_take (i := 11) (v := ?v11) (by simp only [List.getElem?_toArray, List.getElem?_cons_succ, List.getElem?_cons_zero]; rfl) (by kernel_rfl) (by kernel_rfl) (by kernel_rfl) (by exact fun _ _ _ h => h) (Or.inl ⟨by rfl, fun w9 hS9 => ?hy11⟩) hHeld ?rest11
          case hy11 =>
            dsimp only at hS9
            obtain ⟨q0, q1, q2⟩ := hS9
            go_simp
            try with_reducible rfl
          try simp only [Act.put, List.setIfInBounds_toArray, List.set_cons_zero, List.set_cons_succ]
          refine wpAnyH_take (i := 12) (v := ?v12) (by simp only [List.getElem?_toArray, List.getElem?_cons_succ, List.getElem?_cons_zero]; rfl) (by kernel_rfl) (by kernel_rfl) (by kernel_rfl) (by exact fun _ _ _ h => h) (Or.inl ⟨by rfl, fun w9 hS9 => ?hy12⟩) hHeld ?rest12
          case hy12 =>
            dsimp only at hS9
            obtain ⟨q0, q1, q2⟩ := hS9
            go_simp
            try with_reducible rfl
          try simp only [Act.put, List.setIfInBounds_toArray, List.set_cons_zero, List.set_cons_succ]
          refine wpAnyH_take (i := 13) (v := ?v13) (by simp only [List.getElem?_toArray, List.getElem?_cons_succ, List.getElem?_cons_zero]; rfl) (by kernel_rfl) (by kernel_rfl) (by kernel_rfl) (by exact fun _ _ _ h => h) (Or.inl ⟨by rfl, fun w9 hS9 => ?hy13⟩) hHeld ?rest13
          case hy13 =>
            dsimp only at hS9
            obtain ⟨q0, q1, q2⟩ := hS9
            go_simp
            try with_reducible rfl
          try simp only [Act.put, List.setIfInBounds_toArray, List.set_cons_zero, List.set_cons_succ]
          refine wpAnyH_take (i := 14) (v := ?v14) (by simp only [List.getElem?_toArray, List.getElem?_cons_succ, List.getElem?_cons_zero]; rfl) (by kernel_rfl) (by kernel_rfl) (by kernel_rfl) (by exact fun _ _ _ h => h) (Or.inl ⟨by rfl, fun w9 hS9 => ?hy14⟩) hHeld ?rest14
          case hy14 =>
            dsimp only at hS9
            obtain ⟨q0, q1, q2⟩ := hS9
            go_simp
            try with_reducible rfl
          try simp only [Act.put, List.setIfInBounds_toArray, List.set_cons_zero, List.set_cons_succ]
          refine wpAnyH_take (i := 15) (v := ?v15) (by simp only [List.getElem?_toArray, List.getElem?_cons_succ, List.getElem?_cons_zero]; rfl) (by kernel_rfl) (by kernel_rfl) (by kernel_rfl) (by exact fun _ _ _ h => h) (Or.inl ⟨by rfl, fun w9 hS9 => ?hy15⟩) hHeld ?rest15
          case hy15 =>
            dsimp only at hS9
            obtain ⟨q0, q1, q2⟩ := hS9
            go_simp
            try with_reducible rfl
          try simp only [Act.put, List.setIfInBounds_toArray, List.set_cons_zero, List.set_cons_succ]
          refine wpAnyH_take (i := 16) (v := ?v16) (by simp only [List.getElem?_toArray, List.getElem?_cons_succ, List.getElem?_cons_zero]; rfl) (by kernel_rfl) (by kernel_rfl) (by kernel_rfl) (by exact fun _ _ _ h => h) (Or.inl ⟨by rfl, fun w9 hS9 => ?hy16⟩) hHeld ?rest16
          case hy16 =>
            dsimp only at hS9
            obtain ⟨q0, q1, q2⟩ := hS9
            go_simp
            try with_reducible rfl
          try simp only [Act.put, List.setIfInBounds_toArray, List.set_cons_zero, List.set_cons_succ]
          refine wpAnyH_ready (rs := [17]) (by kernel_rfl) (by simp) (AllReadyH.cons (by simp only [List.getElem?_toArray, List.getElem?_cons_succ, List.getElem?_cons_zero]; rfl) (fun K hK => ?_) AllReadyH.nil)
          go_simp
          refine (KR.out _).mono ?_
          rintro e w2 ⟨rfl, hb2⟩
          have HB2 : Hid (Below wr.heap.size wr w2) := Lib.hid (HB1.out.trans (hb2.mono HB1.out.size))
          clear hb2
          go_wp2_with fail
          refine hK.out _ _ ⟨cell_stay CX.out HB2.out, cell_stay CY.out HB2.out, cell_stay CK.out HB2.out⟩ (fun hHeld => ?_)
          clear hK K
          try simp only [Act.put, List.setIfInBounds_toArray, List.set_cons_zero, List.set_cons_succ]
          refine wpAnyH_take (i := 18) (v := ?v17) (by simp only [List.getElem?_toArray, List.getElem?_cons_succ, List.getElem?_cons_zero]; rfl) (by kernel_rfl) (by kernel_rfl) (by kernel_rfl) (by exact fun _ _ _ h => h) (Or.inl ⟨by rfl, fun w9 hS9 => ?hy17⟩) hHeld ?rest17
          case hy17 =>
            dsimp only at hS9
            obtain ⟨q0, q1, q2⟩ := hS9
            go_simp
            try with_reducible rfl
          try simp only [Act.put, List.setIfInBounds_toArray, List.set_cons_zero, List.set_cons_succ]
          refine wpAnyH_done (by kernel_rfl) ?_ _
          go_wp2_with fail
          go_ret
          rw [HE.out]
          exact ⟨rfl, HBr.out.trans (HB2.out.mono HBr.out.size)⟩
        | false =>
          rw [hres] at KR
          have HE : Hid ((y.exts.take (j + 1)).all (fun e => decide (e.num ∈ tagsX x.exts) && !resv e.num) = true) := Lib.hid (all_next HX.out HALL.out (by dsimp only; rw [hres, decide_eq_true hin]; rfl))
          clear hres
          go_wp2_with fail
          clear s1 t1
          have HBd : Hid (Below wr.heap.size wr wr.drew) := Lib.hid (Below.refl _ _).drew
          refine wp_region_held_drew (S := fun w9 => w9.cell? ⟨w.heap.size, 1, none⟩ = some (.slice xa xn xc) ∧ w9.cell? ⟨w.heap.size + 1, 1, none⟩ = some (.slice (some ⟨bb, o, none⟩) m d) ∧ w9.cell? ⟨bb, o + j * 2, none⟩ = some (.int .i64 k)) (by kernel_rfl) ⟨cell_stay CX.out HBd.out, cell_stay CY.out HBd.out, cell_stay CK.out HBd.out⟩ (fun hHeld => ?_)
          refine wpAnyH_take (i := 0) (v := ?v18) (by simp only [List.getElem?_toArray, List.getElem?_cons_succ, List.getElem?_cons_zero]; rfl) (by kernel_rfl) (by kernel_rfl) (by kernel_rfl) (by exact fun _ _ _ h => h) (Or.inl ⟨by rfl, fun w9 hS9 => ?hy18⟩) hHeld ?rest18
          case hy18 =>
            dsimp only at hS9
            obtain ⟨q0, q1, q2⟩ := hS9
            go_simp
            try with_reducible rfl
          try simp only [Act.put, List.setIfInBounds_toArray, List.set_cons_zero, List.set_cons_succ]
          refine wpAnyH_take (i := 1) (v := ?v19) (by simp only [List.getElem?_toArray, List.getElem?_cons_succ, List.getElem?_cons_zero]; rfl) (by kernel_rfl) (by kernel_rfl) (by kernel_rfl) (by exact fun _ _ _ h => h) (Or.inl ⟨by rfl, fun w9 hS9 => ?hy19⟩) hHeld ?rest19
          case hy19 =>
            dsimp only at hS9
            obtain ⟨q0, q1, q2⟩ := hS9
            go_simp
            try with_reducible rfl
          try simp only [Act.put, List.setIfInBounds_toArray, List.set_cons_zero, List.set_cons_succ]
          refine wpAnyH_take (i := 2) (v := ?v20) (by simp only [List.getElem?_toArray, List.getElem?_cons_succ, List.getElem?_cons_zero]; rfl) (by kernel_rfl) (by kernel_rfl) (by kernel_rfl) (by exact fun _ _ _ h => h) (Or.inl ⟨by rfl, fun w9 hS9 => ?hy20⟩) hHeld ?rest20
          case hy20 =>
            dsimp only at hS9
            obtain ⟨q0, q1, q2⟩ := hS9
            go_simp
            try with_reducible rfl
          try simp only [Act.put, List.setIfInBounds_toArray, List.set_cons_zero, List.set_cons_succ]
          refine wpAnyH_take (i := 3) (v := ?v21) (by simp only [List.getElem?_toArray, List.getElem?_cons_succ, List.getElem?_cons_zero]; rfl) (by kernel_rfl) (by kernel_rfl) (by kernel_rfl) (by exact fun _ _ _ h => h) (Or.inl ⟨by rfl, fun w9 hS9 => ?hy21⟩) hHeld ?rest21
          case hy21 =>
            dsimp only at hS9
            obtain ⟨q0, q1, q2⟩ := hS9
            go_simp
            try with_reducible rfl
          try simp only [Act.put, List.setIfInBounds_toArray, List.set_cons_zero, List.set_cons_succ]
          refine wpAnyH_take (i := 4) (v := ?v22) (by simp only [List.getElem?_toArray, List.getElem?_cons_succ, List.getElem?_cons_zero]; rfl) (by kernel_rfl) (by kernel_rfl) (by kernel_rfl) (by exact fun _ _ _ h => h) (Or.inl ⟨by rfl, fun w9 hS9 => ?hy22⟩) hHeld ?rest22
          case hy22 =>
            dsimp only at hS9
            obtain ⟨q0, q1, q2⟩ := hS9
            go_simp
            try with_reducible rfl
          try simp only [Act.put, List.setIfInBounds_toArray, List.set_cons_zero, List.set_cons_succ]
          refine wpAnyH_take (i := 5) (v := ?v23) (by simp only [List.getElem?_toArray, List.getElem?_cons_succ, List.getElem?_cons_zero]; rfl) (by kernel_rfl) (by kernel_rfl) (by kernel_rfl) (by exact fun _ _ _ h => h) (Or.inl ⟨by rfl, fun w9 hS9 => ?hy23⟩) hHeld ?rest23
          case hy23 =>
            dsimp only at hS9
            obtain ⟨q0, q1, q2⟩ := hS9
            go_simp
            try with_reducible rfl
          try simp only [Act.put, List.setIfInBounds_toArray, List.set_cons_zero, List.set_cons_succ]
          refine wpAnyH_take (i := 6) (v := ?v24) (by simp only [List.getElem?_toArray, List.getElem?_cons_succ, List.getElem?_cons_zero]; rfl) (by kernel_rfl) (by kernel_rfl) (by kernel_rfl) (by exact fun _ _ _ h => h) (Or.inl ⟨by rfl, fun w9 hS9 => ?hy24⟩) hHeld ?rest24
          case hy24 =>
            dsimp only at hS9
            obtain ⟨q0, q1, q2⟩ := hS9
            go_simp
            try with_reducible rfl
          try simp only [Act.put, List.setIfInBounds_toArray, List.set_cons_zero, List.set_cons_succ]
          refine wpAnyH_take (i := 7) (v := ?v25) (by simp only [List.getElem?_toArray, List.getElem?_cons_succ, List.getElem?_cons_zero]; rfl) (by kernel_rfl) (by kernel_rfl) (by kernel_rfl) (by exact fun _ _ _ h => h) (Or.inl ⟨by rfl, fun w9 hS9 => ?hy25⟩) hHeld ?rest25
          case hy25 =>
            dsimp only at hS9
            obtain ⟨q0, q1, q2⟩ := hS9
            go_simp
            try with_reducible rfl
          try simp only [Act.put, List.setIfInBounds_toArray, List.set_cons_zero, List.set_cons_succ]
          refine wpAnyH_ready (rs := [8]) (by kernel_rfl) (by simp) (AllReadyH.cons (by simp only [List.getElem?_toArray, List.getElem?_cons_succ, List.getElem?_cons_zero]; rfl) (fun K hK => ?_) AllReadyH.nil)
          go_simp
          refine (KE.out _ (HBr.out.trans (HBd.out.mono HBr.out.size))).mono ?_
          rintro e w1 ⟨rfl, hb1⟩
          have HB1 : Hid (Below wr.heap.size wr w1) := Lib.hid (HBd.out.trans (hb1.mono HBd.out.size))
          clear hb1
          go_wp2_with fail
          refine hK.out _ _ ⟨cell_stay CX.out HB1.out, cell_stay CY.out HB1.out, cell_stay CK.out HB1.out⟩ (fun hHeld => ?_)
          clear hK K
          try simp only [Act.put, List.setIfInBounds_toArray, List.set_cons_zero, List.set_cons_succ]
          refine wpAnyH_take (i := 9) (v := ?v26) (by simp only [List.getElem?_toArray, List.getElem?_cons_succ, List.getElem?_cons_zero]; rfl) (by kernel_rfl) (by kernel_rfl) (by kernel_rfl) (by exact fun _ _ _ h => h) (Or.inl ⟨by rfl, fun w9 hS9 => ?hy26⟩) hHeld ?rest26
          case hy26 =>
            dsimp only at hS9
            obtain ⟨q0, q1, q2⟩ := hS9
            go_simp
            try with_reducible rfl
          try simp only [Act.put, List.setIfInBounds_toArray, List.set_cons_zero, List.set_cons_succ]
          refine wpAnyH_take (i := 10) (v := ?v27) (by simp only [List.getElem?_toArray, List.getElem?_cons_succ, List.getElem?_cons_zero]; rfl) (by kernel_rfl) (by kernel_rfl) (by kernel_rfl) (by exact fun _ _ _ h => h) (Or.inl ⟨by rfl, fun w9 hS9 => ?hy27⟩) hHeld ?rest27
          case hy27 =>
            dsimp only at hS9
            obtain ⟨q0, q1, q2⟩ := hS9
            go_simp
            try with_reducible rfl
          try simp only [Act.put, List.setIfInBounds_toArray, List.set_cons_zero, List.set_cons_succ]
          refine wpAnyH_take (i := 11) (v := ?v28) (by simp only [List.getElem?_toArray, List.getElem?_cons_succ, List.getElem?_cons_zero]; rfl) (by kernel_rfl) (by kernel_rfl) (by kernel_rfl) (by exact fun _ _ _ h => h) (Or.inl ⟨by rfl, fun w9 hS9 => ?hy28⟩) hHeld ?rest28
          case hy28 =>
            dsimp only at hS9
            obtain ⟨q0, q1, q2⟩ := hS9
            go_simp
            try with_reducible rfl
          try simp only [Act.put, List.setIfInBounds_toArray, List.set_cons_zero, List.set_cons_succ]
          refine wpAnyH_take (i := 12) (v := ?v29) (by simp only [List.getElem?_toArray, List.getElem?_cons_succ, List.getElem?_cons_zero]; rfl) (by kernel_rfl) (by kernel_rfl) (by kernel_rfl) (by exact fun _ _ _ h => h) (Or.inl ⟨by rfl, fun w9 hS9 => ?hy29⟩) hHeld ?rest29
          case hy29 =>
            dsimp only at hS9
            obtain ⟨q0, q1, q2⟩ := hS9
            go_simp
            try with_reducible rfl
          try simp only [Act.put, List.setIfInBounds_toArray, List.set_cons_zero, List.set_cons_succ]
          refine wpAnyH_take (i := 13) (v := ?v30) (by simp only [List.getElem?_toArray, List.getElem?_cons_succ, List.getElem?_cons_zero]; rfl) (by kernel_rfl) (by kernel_rfl) (by kernel_rfl) (by exact fun _ _ _ h => h) (Or.inl ⟨by rfl, fun w9 hS9 => ?hy30⟩) hHeld ?rest30
          case hy30 =>
            dsimp only at hS9
            obtain ⟨q0, q1, q2⟩ := hS9
            go_simp
            try with_reducible rfl
          try simp only [Act.put, List.setIfInBounds_toArray, List.set_cons_zero, List.set_cons_succ]
          refine wpAnyH_take (i := 14) (v := ?v31) (by simp only [List.getElem?_toArray, List.getElem?_cons_succ, List.getElem?_cons_zero]; rfl) (by kernel_rfl) (by kernel_rfl) (by kernel_rfl) (by exact fun _ _ _ h => h) (Or.inl ⟨by rfl, fun w9 hS9 => ?hy31⟩) hHeld ?rest31
          case hy31 =>
            dsimp only at hS9
            obtain ⟨q0, q1, q2⟩ := hS9
            go_simp
            try with_reducible rfl
          try simp only [Act.put, List.setIfInBounds_toArray, List.set_cons_zero, List.set_cons_succ]
          refine wpAnyH_take (i := 15) (v := ?v32) (by simp only [List.getElem?_toArray, List.getElem?_cons_succ, List.getElem?_cons_zero]; rfl) (by kernel_rfl) (by kernel_rfl) (by kernel_rfl) (by exact fun _ _ _ h => h) (Or.inl ⟨by rfl, fun w9 hS9 => ?hy32⟩) hHeld ?rest32
          case hy32 =>
            dsimp only at hS9
            obtain ⟨q0, q1, q2⟩ := hS9
            go_simp
            try with_reducible rfl
          try simp only [Act.put, List.setIfInBounds_toArray, List.set_cons_zero, List.set_cons_succ]
          refine wpAnyH_take (i := 16) (v := ?v33) (by simp only [List.getElem?_toArray, List.getElem?_cons_succ, List.getElem?_cons_zero]; rfl) (by kernel_rfl) (by kernel_rfl) (by kernel_rfl) (by exact fun _ _ _ h => h) (Or.inl ⟨by rfl, fun w9 hS9 => ?hy33⟩) hHeld ?rest33
          case hy33 =>
            dsimp only at hS9
            obtain ⟨q0, q1, q2⟩ := hS9
            go_simp
            try with_reducible rfl
          try simp only [Act.put, List.setIfInBounds_toArray, List.set_cons_zero, List.set_cons_succ]
          refine wpAnyH_ready (rs := [17]) (by kernel_rfl) (by simp) (AllReadyH.cons (by simp only [List.getElem?_toArray, List.getElem?_cons_succ, List.getElem?_cons_zero]; rfl) (fun K hK => ?_) AllReadyH.nil)
          go_simp
          refine (KR.out _).mono ?_
          rintro e w2 ⟨rfl, hb2⟩
          have HB2 : Hid (Below wr.heap.size wr w2) := Lib.hid (HB1.out.trans (hb2.mono HB1.out.size))
          clear hb2
          go_wp2_with fail
          refine hK.out _ _ ⟨cell_stay CX.out HB2.out, cell_stay CY.out HB2.out, cell_stay CK.out HB2.out⟩ (fun hHeld => ?_)
          clear hK K
          try simp only [Act.put, List.setIfInBounds_toArray, List.set_cons_zero, List.set_cons_succ]
          refine wpAnyH_take (i := 18) (v := ?v34) (by simp only [List.getElem?_toArray, List.getElem?_cons_succ, List.getElem?_cons_zero]; rfl) (by kernel_rfl) (by kernel_rfl) (by kernel_rfl) (by exact fun _ _ _ h => h) (Or.inl ⟨by rfl, fun w9 hS9 => ?hy34⟩) hHeld ?rest34
          case hy34 =>
            dsimp only at hS9
            obtain ⟨q0, q1, q2⟩ := hS9
            go_simp
            try with_reducible rfl
          try simp only [Act.put, List.setIfInBounds_toArray, List.set_cons_zero, List.set_cons_succ]
          refine wpAnyH_done (by kernel_rfl) ?_ _
          go_wp2_with fail
          go_roundw
          case rel => exact ⟨j + 1, by omega, by go_num, HE.out, HBr.out.trans (HB2.out.mono HBr.out.size), ⟨((HB2.out.block _ (by omega)).trans HCr.out).trans HC.out.symm, ((HB2.out.block _ hlr).trans HDr.out).trans HD.out.symm⟩, Nat.le_trans hs2 HB2.out.size⟩
          case measure => simp [intOf]; omega
      · have hex := extOf_no hin
        have KE := Lib.hid (KX.out k)
        rw [hex] at KE
        have HE : Hid (fitsX x y = false) := Lib.hid (by unfold fitsX; exact all_no (p := fun e => decide (e.num ∈ tagsX x.exts) && !resv e.num) HX.out (by dsimp only; rw [decide_eq_false hin]; rfl))
        clear hex
        go_wp2_with fail
        clear s1 t1
        have HBd : Hid (Below wr.heap.size wr wr.drew) := Lib.hid (Below.refl _ _).drew
        refine wp_region_held_drew (S := fun w9 => w9.cell? ⟨w.heap.size, 1, none⟩ = some (.slice xa xn xc) ∧ w9.cell? ⟨w.heap.size + 1, 1, none⟩ = some (.slice (some ⟨bb, o, none⟩) m d) ∧ w9.cell? ⟨bb, o + j * 2, none⟩ = some (.int .i64 k)) (by kernel_rfl) ⟨cell_stay CX.out HBd.out, cell_stay CY.out HBd.out, cell_stay CK.out HBd.out⟩ (fun hHeld => ?_)
        refine wpAnyH_take (i := 0) (v := ?v35) (by simp only [List.getElem?_toArray, List.getElem?_cons_succ, List.getElem?_cons_zero]; rfl) (by kernel_rfl) (by kernel_rfl) (by kernel_rfl) (by exact fun _ _ _ h => h) (Or.inl ⟨by rfl, fun w9 hS9 => ?hy35⟩) hHeld ?rest35
        case hy35 =>
          dsimp only at hS9
          obtain ⟨q0, q1, q2⟩ := hS9
          go_simp
          try with_reducible rfl
        try simp only [Act.put, List.setIfInBounds_toArray, List.set_cons_zero, List.set_cons_succ]
        refine wpAnyH_take (i := 1) (v := ?v36) (by simp only [List.getElem?_toArray, List.getElem?_cons_succ, List.getElem?_cons_zero]; rfl) (by kernel_rfl) (by kernel_rfl) (by kernel_rfl) (by exact fun _ _ _ h => h) (Or.inl ⟨by rfl, fun w9 hS9 => ?hy36⟩) hHeld ?rest36
        case hy36 =>
          dsimp only at hS9
          obtain ⟨q0, q1, q2⟩ := hS9
          go_simp
          try with_reducible rfl
        try simp only [Act.put, List.setIfInBounds_toArray, List.set_cons_zero, List.set_cons_succ]
        refine wpAnyH_take (i := 2) (v := ?v37) (by simp only [List.getElem?_toArray, List.getElem?_cons_succ, List.getElem?_cons_zero]; rfl) (by kernel_rfl) (by kernel_rfl) (by kernel_rfl) (by exact fun _ _ _ h => h) (Or.inl ⟨by rfl, fun w9 hS9 => ?hy37⟩) hHeld ?rest37
        case hy37 =>
          dsimp only at hS9
          obtain ⟨q0, q1, q2⟩ := hS9
          go_simp
          try with_reducible rfl
        try simp only [Act.put, List.setIfInBounds_toArray, List.set_cons_zero, List.set_cons_succ]
        refine wpAnyH_take (i := 3) (v := ?v38) (by simp only [List.getElem?_toArray, List.getElem?_cons_succ, List.getElem?_cons_zero]; rfl) (by kernel_rfl) (by kernel_rfl) (by kernel_rfl) (by exact fun _ _ _ h => h) (Or.inl ⟨by rfl, fun w9 hS9 => ?hy38⟩) hHeld ?rest38
        case hy38 =>
          dsimp only at hS9
          obtain ⟨q0, q1, q2⟩ := hS9
          go_simp
          try with_reducible rfl
        try simp only [Act.put, List.setIfInBounds_toArray, List.set_cons_zero, List.set_cons_succ]
        refine wpAnyH_take (i := 4) (v := ?v39) (by simp only [List.getElem?_toArray, List.getElem?_cons_succ, List.getElem?_cons_zero]; rfl) (by kernel_rfl) (by kernel_rfl) (by kernel_rfl) (by exact fun _ _ _ h => h) (Or.inl ⟨by rfl, fun w9 hS9 => ?hy39⟩) hHeld ?rest39
        case hy39 =>
          dsimp only at hS9
          obtain ⟨q0, q1, q2⟩ := hS9
          go_simp
          try with_reducible rfl
        try simp only [Act.put, List.setIfInBounds_toArray, List.set_cons_zero, List.set_cons_succ]
        refine wpAnyH_take (i := 5) (v := ?v40) (by simp only [List.getElem?_toArray, List.getElem?_cons_succ, List.getElem?_cons_zero]; rfl) (by kernel_rfl) (by kernel_rfl) (by kernel_rfl) (by exact fun _ _ _ h => h) (Or.inl ⟨by rfl, fun w9 hS9 => ?hy40⟩) hHeld ?rest40
        case hy40 =>
          dsimp only at hS9
          obtain ⟨q0, q1, q2⟩ := hS9
          go_simp
          try with_reducible rfl
        try simp only [Act.put, List.setIfInBounds_toArray, List.set_cons_zero, List.set_cons_succ]
        refine wpAnyH_take (i := 6) (v := ?v41) (by simp only [List.getElem?_toArray, List.getElem?_cons_succ, List.getElem?_cons_zero]; rfl) (by kernel_rfl) (by kernel_rfl) (by kernel_rfl) (by exact fun _ _ _ h => h) (Or.inl ⟨by rfl, fun w9 hS9 => ?hy41⟩) hHeld ?rest41
        case hy41 =>
          dsimp only at hS9
          obtain ⟨q0, q1, q2⟩ := hS9
          go_simp
          try with_reducible rfl
        try simp only [Act.put, List.setIfInBounds_toArray, List.set_cons_zero, List.set_cons_succ]
        refine wpAnyH_take (i := 7) (v := ?v42) (by simp only [List.getElem?_toArray, List.getElem?_cons_succ, List.getElem?_cons_zero]; rfl) (by kernel_rfl) (by kernel_rfl) (by kernel_rfl) (by exact fun _ _ _ h => h) (Or.inl ⟨by rfl, fun w9 hS9 => ?hy42⟩) hHeld ?rest42
        case hy42 =>
          dsimp only at hS9
          obtain ⟨q0, q1, q2⟩ := hS9
          go_simp
          try with_reducible rfl
        try simp only [Act.put, List.setIfInBounds_toArray, List.set_cons_zero, List.set_cons_succ]
        refine wpAnyH_ready (rs := [8]) (by kernel_rfl) (by simp) (AllReadyH.cons (by simp only [List.getElem?_toArray, List.getElem?_cons_succ, List.getElem?_cons_zero]; rfl) (fun K hK => ?_) AllReadyH.nil)
        go_simp
        refine (KE.out _ (HBr.out.trans (HBd.out.mono HBr.out.size))).mono ?_
        rintro e w1 ⟨rfl, hb1⟩
        have HB1 : Hid (Below wr.heap.size wr w1) := Lib.hid (HBd.out.trans (hb1.mono HBd.out.size))
        clear hb1
        go_wp2_with fail
        refine hK.out _ _ ⟨cell_stay CX.out HB1.out, cell_stay CY.out HB1.out, cell_stay CK.out HB1.out⟩ (fun hHeld => ?_)
        clear hK K
        try simp only [Act.put, List.setIfInBounds_toArray, List.set_cons_zero, List.set_cons_succ]
        refine wpAnyH_take (i := 9) (v := ?v43) (by simp only [List.getElem?_toArray, List.getElem?_cons_succ, List.getElem?_cons_zero]; rfl) (by kernel_rfl) (by kernel_rfl) (by kernel_rfl) (by exact fun _ _ _ h => h) (Or.inl ⟨by rfl, fun w9 hS9 => ?hy43⟩) hHeld ?rest43
        case hy43 =>
          dsimp only at hS9
          obtain ⟨q0, q1, q2⟩ := hS9
          go_simp
          try with_reducible rfl
        try simp only [Act.put, List.setIfInBounds_toArray, List.set_cons_zero, List.set_cons_succ]
        refine wpAnyH_take (i := 10) (v := ?v44) (by simp only [List.getElem?_toArray, List.getElem?_cons_succ, List.getElem?_cons_zero]; rfl) (by kernel_rfl) (by kernel_rfl) (by kernel_rfl) (by exact fun _ _ _ h => h) (Or.inl ⟨by rfl, fun w9 hS9 => ?hy44⟩) hHeld ?rest44
        case hy44 =>
          dsimp only at hS9
          obtain ⟨q0, q1, q2⟩ := hS9
          go_simp
          try with_reducible rfl
        try simp only [Act.put, List.setIfInBounds_toArray, List.set_cons_zero, List.set_cons_succ]
        refine wpAnyH_take (i := 11) (v := undef) (by simp only [List.getElem?_toArray, List.getElem?_cons_succ, List.getElem?_cons_zero]; rfl) (by kernel_rfl) (by kernel_rfl) (by kernel_rfl) (by exact fun _ _ _ h => h) (Or.inr ⟨by rfl, rfl⟩) hHeld ?_
        try simp only [Act.put, List.setIfInBounds_toArray, List.set_cons_zero, List.set_cons_succ]
        refine wpAnyH_take (i := 12) (v := undef) (by simp only [List.getElem?_toArray, List.getElem?_cons_succ, List.getElem?_cons_zero]; rfl) (by kernel_rfl) (by kernel_rfl) (by kernel_rfl) (by exact fun _ _ _ h => h) (Or.inr ⟨by rfl, rfl⟩) hHeld ?_
        try simp only [Act.put, List.setIfInBounds_toArray, List.set_cons_zero, List.set_cons_succ]
        refine wpAnyH_take (i := 13) (v := undef) (by simp only [List.getElem?_toArray, List.getElem?_cons_succ, List.getElem?_cons_zero]; rfl) (by kernel_rfl) (by kernel_rfl) (by kernel_rfl) (by exact fun _ _ _ h => h) (Or.inr ⟨by rfl, rfl⟩) hHeld ?_
        try simp only [Act.put, List.setIfInBounds_toArray, List.set_cons_zero, List.set_cons_succ]
        refine wpAnyH_take (i := 14) (v := undef) (by simp only [List.getElem?_toArray, List.getElem?_cons_succ, List.getElem?_cons_zero]; rfl) (by kernel_rfl) (by kernel_rfl) (by kernel_rfl) (by exact fun _ _ _ h => h) (Or.inr ⟨by rfl, rfl⟩) hHeld ?_
        try simp only [Act.put, List.setIfInBounds_toArray, List.set_cons_zero, List.set_cons_succ]
        refine wpAnyH_take (i := 15) (v := undef) (by simp only [List.getElem?_toArray, List.getElem?_cons_succ, List.getElem?_cons_zero]; rfl) (by kernel_rfl) (by kernel_rfl) (by kernel_rfl) (by exact fun _ _ _ h => h) (Or.inr ⟨by rfl, rfl⟩) hHeld ?_
        try simp only [Act.put, List.setIfInBounds_toArray, List.set_cons_zero, List.set_cons_succ]
        refine wpAnyH_take (i := 16) (v := undef) (by simp only [List.getElem?_toArray, List.getElem?_cons_succ, List.getElem?_cons_zero]; rfl) (by kernel_rfl) (by kernel_rfl) (by kernel_rfl) (by exact fun _ _ _ h => h) (Or.inr ⟨by rfl, rfl⟩) hHeld ?_
        try simp only [Act.put, List.setIfInBounds_toArray, List.set_cons_zero, List.set_cons_succ]
        refine wpAnyH_take (i := 17) (v := undef) (by simp only [List.getElem?_toArray, List.getElem?_cons_succ, List.getElem?_cons_zero]; rfl) (by kernel_rfl) (by kernel_rfl) (by kernel_rfl) (by exact fun _ _ _ h => h) (Or.inr ⟨by rfl, rfl⟩) hHeld ?_
        try simp only [Act.put, List.setIfInBounds_toArray, List.set_cons_zero, List.set_cons_succ]
        refine wpAnyH_take (i := 18) (v := ?v52) (by simp only [List.getElem?_toArray, List.getElem?_cons_succ, List.getElem?_cons_zero]; rfl) (by kernel_rfl) (by kernel_rfl) (by kernel_rfl) (by exact fun _ _ _ h => h) (Or.inl ⟨by rfl, fun w9 hS9 => ?hy52⟩) hHeld ?rest52
        case hy52 =>
          dsimp only at hS9
          obtain ⟨q0, q1, q2⟩ := hS9
          go_simp
          try with_reducible rfl
        try simp only [Act.put, List.setIfInBounds_toArray, List.set_cons_zero, List.set_cons_succ]
        refine wpAnyH_done (by kernel_rfl) ?_ _
        go_wp2_with fail
        go_ret
        rw [HE.out]
        exact ⟨rfl, HBr.out.trans (HB1.out.mono HBr.out.size)⟩
    · obtain rfl : j = m := by omega
      have HF : Hid (fitsX x y = true) := Lib.hid (by
        have h1 := HALL.out
        rw [List.take_of_length_le (by rw [hln.out]; omega)] at h1
        exact h1)
      obtain ⟨s0, s1, -⟩ := two_cells HCr.out
      obtain ⟨t0, t1, -⟩ := two_cells HDr.out
      rcases (isH x).eq_false_or_eq_true with hh | hh
      rotate_left
      · rw [hh] at KH
        have HH := Lib.hid hh
        clear hh
        go_wp2_with fail
        refine (KH.out _ HBr.out).mono ?_
        rintro e w2 ⟨rfl, hb2⟩
        have HB2 := Lib.hid (HBr.out.trans (hb2.mono HBr.out.size))
        clear hb2 s0 s1 t0 t1
        go_wp2_with fail
        go_ret
        exact ⟨by rw [HF.out, HH.out]; rfl, HB2.out⟩
      · rw [hh] at KH
        have HH := Lib.hid hh
        clear hh
        rcases (isA y).eq_false_or_eq_true with ha | ha
        rotate_left
        · rw [ha] at KA
          have HA := Lib.hid ha
          clear ha
          go_wp2_with fail
          refine (KH.out _ HBr.out).mono ?_
          rintro e w2 ⟨rfl, hb2⟩
          have HB2 := Lib.hid (HBr.out.trans (hb2.mono HBr.out.size))
          clear s0 s1 t0 t1
          obtain ⟨s0, s1, -⟩ := two_cells ((hb2.block _ (by omega)).trans HCr.out)
          obtain ⟨t0, t1, -⟩ := two_cells ((hb2.block _ hlr).trans HDr.out)
          clear hb2
          go_wp2_with fail
          refine (KA.out _ HB2.out).mono ?_
          rintro e w3 ⟨rfl, hb3⟩
          have HB3 := Lib.hid (HB2.out.trans (hb3.mono HB2.out.size))
          clear hb3 s0 s1 t0 t1
          go_wp2_with fail
          go_ret
          exact ⟨by rw [HF.out, HH.out, HA.out]; rfl, HB3.out⟩
        · rw [ha] at KA
          have HA := Lib.hid ha
          clear ha
          go_wp2_with fail
          refine (KH.out _ HBr.out).mono ?_
          rintro e w2 ⟨rfl, hb2⟩
          have HB2 := Lib.hid (HBr.out.trans (hb2.mono HBr.out.size))
          clear s0 s1 t0 t1
          have HC2 := Lib.hid ((hb2.block _ (by omega)).trans HCr.out)
          have HD2 := Lib.hid ((hb2.block _ hlr).trans HDr.out)
          have hl2 := Nat.lt_of_lt_of_le hlr hb2.size
          obtain ⟨s0, s1, -⟩ := two_cells HC2.out
          obtain ⟨t0, t1, -⟩ := two_cells HD2.out
          clear hb2
          go_wp2_with fail
          refine (KA.out _ HB2.out).mono ?_
          rintro e w3 ⟨rfl, hb3⟩
          have HB3 := Lib.hid (HB2.out.trans (hb3.mono HB2.out.size))
          clear s0 s1 t0 t1
          obtain ⟨s0, s1, -⟩ := two_cells ((hb3.block _ (by omega)).trans HC2.out)
          obtain ⟨t0, t1, -⟩ := two_cells ((hb3.block _ hl2).trans HD2.out)
          clear hb3
          go_wp2_with fail
          refine (KL.out _ HB3.out).mono ?_
          rintro e w4 ⟨rfl, hb4⟩
          have HB4 := Lib.hid (HB3.out.trans (hb4.mono HB3.out.size))
          clear hb4 s0 s1 t0 t1
          go_wp2_with fail
          go_ret
          exact ⟨by rw [HF.out, HH.out, HA.out]; rfl, HB4.out⟩
end Go.Proofs.YtcmjadfpifpknaaGreat
namespace Go.Proofs.YtcmjadfpifpknaaGreat
open Go.ChangeShapes Go.WideShapes Go.ChangeAt Go.RowKit
set_option linter.unusedVariables false

section
variable {P : Program}
/-- Integers are appended to a slice of the call's own, at a step of a region that draws its order. -/
theorem step_app (w : World) {ops : Array Oper} {o : Oper} {act : Act} {K : Act → World → Prop} {Q : Exit → Act → World → Prop} {E : Prop} (hgd : o.guard = none) (s x : Operand) (t : TypeId)
    (ho : o.op = .call { callee := .builtin .append, args := #[s, x], argTypes := #[t, t] })
    (k : IntKind) (e : TypeId) (i : TypeInfo) (z : Value) (bytes : Nat) (ht : P.underlying t = some (.slice e)) (hi : P.info? e = some i) (hz : i.zero = some z) (hsize : i.size = 1) (hby : i.bytes = bytes) (hzs : z.cells.size = 1)
    {B n c m d : Nat} {a b : Option Addr} {l l' : List Int} (hs : act.eval s = .slice a n c) (hown : Own k e w B a n c l) (hx : act.eval x = .slice b m d) (hnew : Nums k w b m l')
    (hb1 : 0 < bytes) (hbytes : (n + m) * bytes ≤ 140737488355328) (hB : B ≤ w.heap.size)
    (h : ∀ a' c' w', Own k e w' B a' (n + m) c' (l ++ l') → Below B w w' → K (act.put o.dst (.slice a' (n + m) c')) w') :
    if Region.wanted o (yielded ops act.tmps) = true then Oper.wp P o act w K Q else E := by
  have hw : Region.wanted o (yielded ops act.tmps) = true := by simp [Region.wanted, hgd]
  rw [if_pos hw]
  have h63 : n + m ≤ maxLen := by
    have := Nat.mul_le_mul_left (n + m) hb1
    unfold maxLen
    omega
  obtain ⟨a', c', w', hr, h2, h3⟩ := run_app (P := P) (d := d) w t o.type e i z bytes ht hi hz hsize hby hzs hown hnew hbytes h63 hB
  unfold Oper.wp execOp
  simp only [ho, resolve, invoke, builtin, Sem.run_bind, Sem.run_pure, Result.andThen_ok, List.map_toArray, List.map_cons, List.map_nil, hs, hx, hr]
  exact h a' c' w' h2 h3
end
end Go.Proofs.YtcmjadfpifpknaaGreat
namespace Go.Proofs.YtcmjadfpifpknaaGreat
open Go.ChangeShapes Go.WideShapes Go.ChangeAt Go.RowKit
set_option linter.unusedVariables false
set_option linter.unusedSimpArgs false

theorem specByte_any (z : Int) (w : World) : Calls Tryz.prog 99 #[.int .i64 z, .int .i64 0, .int .i64 255] w fun e w' => e = .returned (.bool (byteB z)) ∧ w = w' := by
  unfold byteB
  by_cases h1 : (0 : Int) ≤ z <;> by_cases h2 : z ≤ 255 <;> (go_enter Tryz.func99, Tryz.ntmps99; go_wp2; go_ret; exact ⟨by simp [h1, h2], rfl⟩)
set_option maxRecDepth 100000 in
theorem l9ByteL_any {p : Option Addr} {m c : Nat} {y : List Int} {w : World} (h : Nums .i64 w p m y) :
    Calls Tryz.prog 146 #[.slice p m c] w fun e w' => e = .returned (.bool (rowB y)) ∧ w = w' := by
  have H := Lib.hid h
  have hl := h.len
  have hfit := h.fits
  clear h
  go_enter Tryz.func146, Tryz.ntmps146
  go_wp2_with fail
  go_loop [3] (fun i => ∃ j : Nat, j ≤ m ∧ i = .int .i64 j ∧ rowB (y.take j) = true) (fun i => m - (intOf i).toNat)
  case atStart => exact ⟨0, Nat.zero_le _, rfl, rowB_zero _⟩
  case round =>
    obtain ⟨j, hj, rfl, hall⟩ := hrel
    have HA := Lib.hid hall
    clear hall
    by_cases hlt : j < m
    · obtain ⟨ad, z, rfl, hz, hc⟩ := H.out.at_ hlt
      have K := Lib.hid (fun w0 => specByte_any z w0)
      cases hi : byteB z with
      | true =>
        have HS := Lib.hid (rowB_step HA.out hz hi)
        rw [hi] at K
        clear hz hi
        go_wp2_with (go_at_call 99; refine (K.out _).mono ?_; rintro e w' ⟨rfl, rfl⟩)
        go_round
        case rel => exact ⟨j + 1, by omega, by go_num, HS.out⟩
        case measure => simp [intOf]; omega
      | false =>
        have HE := Lib.hid (rowB_no hz hi)
        rw [hi] at K
        clear hz hi
        go_wp2_with (go_at_call 99; refine (K.out _).mono ?_; rintro e w' ⟨rfl, rfl⟩)
        go_ret
        exact ⟨by rw [HE.out]; rfl, rfl⟩
    · obtain rfl : j = m := by omega
      have h2 := HA.out
      rw [List.take_of_length_le (by omega)] at h2
      have HE := Lib.hid h2
      clear h2
      go_wp2_with fail
      go_ret
      exact ⟨by rw [HE.out]; rfl, rfl⟩
set_option maxRecDepth 100000 in
set_option maxHeartbeats 2000000 in
theorem specIsTranscript_any {a : Option Addr} {n c : Nat} {l : List (List Int)} {w : World} (h : Rws w a n l) : Calls Tryz.prog 118 #[.slice a n c] w (Told (.bool (isTr l)) w) := by
  have H := Lib.hid h
  have hl := h.len
  have hfit := h.fits
  clear h
  go_enter Tryz.func118, Tryz.ntmps118
  go_wp2_with fail
  go_loop [3] (fun i => ∃ j : Nat, j ≤ n ∧ i = .int .i64 j ∧ (l.take j).all rowB = true) (fun i => n - (intOf i).toNat)
  case atStart => exact ⟨0, Nat.zero_le _, rfl, by simp⟩
  case round =>
    obtain ⟨j, hj, rfl, hall⟩ := hrel
    have HA := Lib.hid hall
    clear hall
    by_cases hlt : j < n
    · obtain ⟨ad, p, m, d, y, rfl, hy, hc, hN, _⟩ := H.out.at_ hlt
      have K := Lib.hid (l9ByteL_any (c := d) hN)
      cases hi : rowB y with
      | true =>
        have HS := Lib.hid (allR_step HA.out hy hi)
        rw [hi] at K
        clear hy hi hN
        go_wp2_with (go_at_call 146; refine K.out.mono ?_; rintro e w' ⟨rfl, rfl⟩)
        go_round
        case rel => exact ⟨j + 1, by omega, by go_num, HS.out⟩
        case measure => simp [intOf]; omega
      | false =>
        have HE : Hid (isTr l = false) := Lib.hid (by unfold isTr; rw [allR_no hy hi, Bool.and_false])
        rw [hi] at K
        clear hy hi hN
        go_wp2_with (go_at_call 146; refine K.out.mono ?_; rintro e w' ⟨rfl, rfl⟩)
        go_ret
        exact ⟨by rw [HE.out]; rfl, Below.refl _ _⟩
    · obtain rfl : j = n := by omega
      have h2 := HA.out
      rw [List.take_of_length_le (by omega)] at h2
      have HE : Hid (decide ((j : Int) ≤ 12) = isTr l) := Lib.hid (by unfold isTr; rw [h2, Bool.and_true, hl]; exact decide_eq_decide.2 (by omega))
      clear h2
      go_wp2_with fail
      go_ret
      exact ⟨congrArg (fun b => Ending.returned (.bool b)) HE.out, Below.refl _ _⟩
set_option maxRecDepth 100000 in
set_option maxHeartbeats 4000000 in
theorem spec_trHash_any {a : Option Addr} {n c : Nat} {l : List (List Int)} {w : World} (hR : Rws w a n l) (hlen : ∀ y ∈ l, y.length ≤ 1000000000) :
    Calls Tryz.prog 120 #[.slice a n c] w (Told (.int .i64 (trH l)) w) := by
  have K := Lib.hid (specIsTranscript_any (c := c) hR)
  have hl := hR.len
  have hfit := hR.fits
  cases ht : isTr l with
  | false =>
    have e : trH l = 0 := by unfold trH; rw [if_neg (by rw [ht]; decide)]
    rw [ht] at K
    rw [e]
    clear hR hlen e ht
    go_enter Tryz.func120, Tryz.ntmps120
    go_wp2_with fail
    refine K.out.mono ?_
    rintro e w1 ⟨rfl, hb⟩
    go_wp2_with fail
    go_ret
    exact ⟨rfl, hb⟩
  | true =>
    have e : trH l = thAll l := by unfold trH; rw [if_pos ht]
    obtain ⟨h12, hall⟩ := isTr_parts ht
    rw [ht] at K
    rw [e]
    have H := Lib.hid hR
    have HL := Lib.hid hlen
    have HA := Lib.hid hall
    clear hR hlen e ht hall
    obtain ⟨i0, hi, hz0, hz1, hz2⟩ := info_parts infoIntS
    have HI := Lib.hid (And.intro hi (And.intro hz0 (And.intro hz1 hz2)))
    clear hi hz0 hz1 hz2
    go_enter Tryz.func120, Tryz.ntmps120
    go_wp2_with fail
    refine K.out.mono ?_
    rintro e w1 ⟨rfl, hb1⟩
    have HB1 := Lib.hid hb1
    clear hb1
    go_wp2_with fail
    go_loopw [3, 4] (fun v i wr => ∃ (j : Nat) (h : Int), j ≤ n ∧ i = .int .i64 j ∧ v = .int .i64 h ∧ Hid (thAll (l.take j) = h) ∧ Below w.heap.size w wr) (fun _ i _ => n - (intOf i).toNat)
    case atStart => exact ⟨0, 1, Nat.zero_le _, rfl, rfl, Lib.hid rfl, HB1.out⟩
    case round =>
      obtain ⟨j, h, hj, rfl, rfl, HH, hb⟩ := hrel
      have HB := Lib.hid hb
      have hsz := hb.size
      clear hb
      by_cases hlt : j < n
      · obtain ⟨ad, p, m, d, y, rfl, hy, hc, hN, _⟩ := (H.out.same HB.out).at_ hlt
        have hjI : ((j : Nat) : Int) < (n : Int) := by omega
        have hj0 : (0 : Int) ≤ ((j : Nat) : Int) := by omega
        have hmem := List.mem_of_getElem? hy
        have hym := hN.len
        have hml : m ≤ 1000000000 := by rw [← hym]; exact HL.out y hmem
        have hbd := thAll_bd (l.take j)
        rw [HH.out] at hbd
        have HF := Lib.hid (fits_twoT (n := m) hbd.1 hbd.2 (by omega) (row_fits HA.out hmem))
        obtain ⟨h2, hh2⟩ : ∃ h2, hashOf ([h, (m : Int)] ++ y) = h2 := ⟨_, rfl⟩
        have HH2 : Hid (thAll (l.take (j + 1)) = h2) := Lib.hid (by rw [thAll_take hy, HH.out]; unfold thStep; rw [hym]; exact hh2)
        have HE2 := Lib.hid hh2
        have HC := Lib.hid hc
        have HN := Lib.hid hN
        have HO : Hid (Own .i64 3 (wr.alloc (.cells #[.int .i64 h, .int .i64 (m : Int)] 3)).drew wr.heap.size (some ⟨wr.heap.size, 0, none⟩) 2 2 [h, (m : Int)]) := Lib.hid ((own_pair wr h (m : Int) (Nat.le_refl _)).same (Below.refl _ _).drew)
        have HB2 : Hid (Below wr.heap.size wr (wr.alloc (.cells #[.int .i64 h, .int .i64 (m : Int)] 3)).drew) := Lib.hid (alloc_same wr _).drew
        clear hy hc hN hh2 hmem
        go_wp2_with fail
        go_region_held3 (fun w9 => w9.cell? (ad.add j) = some (.slice p m d)) (first | exact cell_stay HC.out (Below.refl _ _).drew | exact cell_stay HC.out HB2.out | exact cell_stay HC.out HB3.out | exact cell_stay HC.out HB4.out) ((first | (refine step_app _ (by rfl) (.tmp 20) (.tmp 24) 24 (by rfl) .i64 3 i0 (.int .i64 0) 8 Tryz.underlying24 HI.out.1 HI.out.2.1 HI.out.2.2.1 HI.out.2.2.2 rfl (by rfl) HO.out (by rfl) (HN.out.same HB2.out) (by omega) (by omega) (by simp) ?_; intro a3 c3 w3 ho3 hb3; have HO3 := Lib.hid ho3; have HB3 : Hid (Below wr.heap.size wr w3) := Lib.hid (HB2.out.trans hb3); clear ho3 hb3) | (go_at_call 148; refine (specHash_any _ _ _ _ _ HO3.out.nums HF.out).mono ?_; rw [HE2.out]; rintro e w4 ⟨rfl, hb4⟩; have HB4 : Hid (Below wr.heap.size wr w4) := Lib.hid (HB3.out.trans (hb4.mono HB3.out.size)); clear hb4)))
        go_wp2_with fail
        go_roundw
        case rel => exact ⟨j + 1, h2, by omega, by go_num, rfl, HH2, HB.out.trans (HB4.out.mono hsz)⟩
        case measure => simp [intOf]; omega
      · obtain rfl : j = n := by omega
        have h2 := HH.out
        rw [List.take_of_length_le (by omega)] at h2
        have HX := Lib.hid h2
        clear h2
        go_wp2_with fail
        go_ret
        exact ⟨by rw [HX.out]; rfl, HB.out⟩
end Go.Proofs.YtcmjadfpifpknaaGreat
namespace Go.Proofs.YtcmjadfpifpknaaGreat
open Go.ChangeShapes Go.WideShapes Go.ChangeAt Go.RowKit
set_option linter.unusedVariables false
set_option linter.unusedSimpArgs false

theorem spec_range_any (s : Int) (w : World) : Calls Tryz.prog 99 #[.int .i64 s, .int .i64 0, .int .i64 1] w fun e w' => e = .returned (.bool (sideB s)) ∧ w = w' := by
  unfold sideB
  by_cases h1 : (0 : Int) ≤ s <;> by_cases h2 : s ≤ 1 <;> (go_enter Tryz.func99, Tryz.ntmps99; go_wp2; go_ret; exact ⟨by simp [h1, h2], rfl⟩)
theorem fits_finspec_ {s x : Int} (h0 : 0 ≤ s) (h1 : s ≤ 1) (h2 : 0 ≤ x) (h3 : x < 2147483647) : Fits64 [s, x] := by
  intro z hz
  simp only [List.mem_cons, List.not_mem_nil, or_false] at hz
  rcases hz with rfl | rfl
  · exact fit_mk (by omega) (by omega)
  · exact fit_mk (by omega) (by omega)
set_option maxRecDepth 100000 in
set_option maxHeartbeats 4000000 in
theorem spec_finishOf_any (k s : Int) {a : Option Addr} {n c : Nat} {l : List (List Int)} {w : World} (hR : Rws w a n l) (hlen : ∀ y ∈ l, y.length ≤ 1000000000) :
    Calls Tryz.prog 72 #[.int .i64 k, .slice a n c, .int .i64 s] w (Told (.int .i64 (finP k l s)) w) := by
  have KK := Lib.hid (specIsValidKey_any k w)
  have KT := Lib.hid (specIsTranscript_any (c := c) hR)
  have HR := Lib.hid hR
  have HL := Lib.hid hlen
  clear hR hlen
  cases hk : keyB k with
  | false =>
    rw [show (decide (1 ≤ k) && decide (k ≤ 2147483646)) = false from hk] at KK
    rw [finP_zero (Or.inl hk)]
    clear hk
    go_enter Tryz.func72, Tryz.ntmps72
    go_wp2_with fail
    refine KK.out.mono ?_
    rintro e w1 ⟨rfl, rfl⟩
    go_wp2_with fail
    go_ret
    exact ⟨rfl, Below.refl _ _⟩
  | true =>
    rw [show (decide (1 ≤ k) && decide (k ≤ 2147483646)) = true from hk] at KK
    cases ht : isTr l with
    | false =>
      rw [ht] at KT
      rw [finP_zero (Or.inr (Or.inl ht))]
      clear hk ht
      go_enter Tryz.func72, Tryz.ntmps72
      go_wp2_with fail
      refine KK.out.mono ?_
      rintro e w1 ⟨rfl, rfl⟩
      go_wp2_with fail
      refine KT.out.mono ?_
      rintro e w2 ⟨rfl, hb2⟩
      have HB2 := Lib.hid hb2
      clear hb2
      go_wp2_with fail
      go_ret
      exact ⟨rfl, HB2.out⟩
    | true =>
      rw [ht] at KT
      have KS := Lib.hid (fun w0 => spec_range_any s w0)
      cases hs : sideB s with
      | false =>
        rw [finP_zero (Or.inr (Or.inr hs))]
        rw [hs] at KS
        clear hk ht hs
        go_enter Tryz.func72, Tryz.ntmps72
        go_wp2_with fail
        refine KK.out.mono ?_
        rintro e w1 ⟨rfl, rfl⟩
        go_wp2_with fail
        refine KT.out.mono ?_
        rintro e w2 ⟨rfl, hb2⟩
        have HB2 := Lib.hid hb2
        clear hb2
        go_wp2_with fail
        refine (KS.out _).mono ?_
        rintro e w3 ⟨rfl, rfl⟩
        go_wp2_with fail
        go_ret
        exact ⟨rfl, HB2.out⟩
      | true =>
        have hkf : Fit64 k := by
          unfold keyB at hk
          rw [Bool.and_eq_true] at hk
          have := of_decide_eq_true hk.1
          have := of_decide_eq_true hk.2
          exact fit_mk (by omega) (by omega)
        have hsf : 0 ≤ s ∧ s ≤ 1 := by
          unfold sideB at hs
          rw [Bool.and_eq_true] at hs
          exact ⟨of_decide_eq_true hs.1, of_decide_eq_true hs.2⟩
        have hb := trH_bd l
        have HF := Lib.hid (fits_finspec_ hsf.1 hsf.2 hb.1 hb.2)
        have HKF := Lib.hid hkf
        rw [finP_some hk ht hs]
        rw [hs] at KS
        have KH := Lib.hid (fun (w0 : World) (h0 : Below w.heap.size w w0) => spec_trHash_any (c := c) (HR.out.same h0) HL.out)
        clear hk ht hs hkf hsf hb
        obtain ⟨x, hx⟩ : ∃ x, trH l = x := ⟨_, rfl⟩
        rw [hx] at HF KH ⊢
        clear hx
        go_enter Tryz.func72, Tryz.ntmps72
        go_wp2_with fail
        refine KK.out.mono ?_
        rintro e w1 ⟨rfl, rfl⟩
        go_wp2_with fail
        refine KT.out.mono ?_
        rintro e w2 ⟨rfl, hb2⟩
        have HB2 := Lib.hid hb2
        clear hb2
        go_wp2_with fail
        refine (KS.out _).mono ?_
        rintro e w3 ⟨rfl, rfl⟩
        go_wp2_with fail
        refine (KH.out _ HB2.out).mono ?_
        rintro e w4 ⟨rfl, hb4⟩
        have HB4 := Lib.hid (HB2.out.trans (hb4.mono HB2.out.size))
        have HN := Lib.hid (own_pair w4 s x (Nat.le_refl _)).nums
        clear hb4
        go_wp2_with fail
        refine (specKeyedHash_any k _ 2 2 _ _ HKF.out HN.out (by omega) HF.out).mono ?_
        rintro e w5 ⟨rfl, hb5⟩
        have HB5 := Lib.hid (HB4.out.trans (((alloc_same w4 (.cells #[.int .i64 s, .int .i64 x] 3)).trans (hb5.mono (by simp))).mono HB4.out.size))
        clear hb5
        go_wp2_with fail
        go_ret
        exact ⟨rfl, HB5.out⟩
end Go.Proofs.YtcmjadfpifpknaaGreat
