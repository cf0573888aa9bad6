/- What a machine reaches by a list of numbers: by the model. -/
import Derived.Test.YtaaogdhkehkamaaRm
import Derived.Test.YtaaogdhkehkamaaIsM
import Derived.Deep.RegionHeld3
namespace Go.Proofs.Ytaaogdhkehkamaa
open Go.ChangeShapes Go.WideShapes Go.ChangeAt Go.RowKit
set_option linter.unusedVariables false
set_option linter.unusedSimpArgs false

set_option maxHeartbeats 4000000 in
set_option maxRecDepth 100000 in
theorem specRunMachine_any {w : World} {v : Value} {x : Mac} {a0 : Option Addr} {n0 c0 : Nat} {word : List Int} (h : MacW w v x) (hN : Nums .i64 w a0 n0 word) (hF : ∀ z ∈ word, (Lit.int .i64 z).wf = true) :
    Calls Try.prog 29 #[v, .slice a0 n0 c0] w (Told (.int .i64 (runM x word)) w) := by
  obtain ⟨a, n, c, q, m, d, rfl, h1, h2, h3, h4⟩ := h
  have e2 := h2.len
  have HB : Hid (Below w.heap.size w (w.alloc (.cells #[.int .i64 x.st, .slice a n c, .slice q m d] 27))) := Lib.hid (alloc_same w _)
  have HX : Hid ((w.alloc (.cells #[.int .i64 x.st, .slice a n c, .slice q m d] 27)).heap[w.heap.size]? = some (.cells #[.int .i64 x.st, .slice a n c, .slice q m d] 27 (0, 0))) := Lib.hid (heap_alloc_new w (.cells #[.int .i64 x.st, .slice a n c, .slice q m d] 27 (0, 0)))
  have hsz : (w.alloc (.cells #[.int .i64 x.st, .slice a n c, .slice q m d] 27)).heap.size = w.heap.size + 1 := by simp
  have HMW : Hid (MacW (w.alloc (.cells #[.int .i64 x.st, .slice a n c, .slice q m d] 27)) (.agg #[.int .i64 x.st, .slice a n c, .slice q m d]) x) := Lib.hid (MacW.same ⟨a, n, c, q, m, d, rfl, h1, h2, h3, h4⟩ HB.out)
  have H2 := Lib.hid (h2.same HB.out)
  have HN := Lib.hid (hN.same HB.out)
  have HF := Lib.hid hF
  have HE := Lib.hid (And.intro e2 hN.len)
  have hn64 := hN.fits
  have HIM := Lib.hid (fun w' (h : MacW w' (.agg #[.int .i64 x.st, .slice a n c, .slice q m d]) x) => specIsMachine_any h)
  clear h1 h2 h3 h4 e2 hN hF
  cases q0 : isMac x with
  | false =>
    have HR : Hid (runM x word = -1) := Lib.hid (by simp [runM, q0])
    rw [q0] at HIM
    clear q0
    go_enter Try.func29, Try.ntmps29
    go_wp2_with fail
    generalize (w.alloc (.cells #[.int .i64 x.st, .slice a n c, .slice q m d] 27)) = W0 at *
    refine (HIM.out _ HMW.out).mono ?_
    rintro e w1 ⟨rfl, hb⟩
    have HD1 := Lib.hid hb
    have HB1 := Lib.hid (HB.out.trans (hb.mono HB.out.size))
    obtain ⟨b0, b1, b2, _, _, _⟩ := three_cells ((hb.block w.heap.size (by omega)).trans HX.out)
    clear hb
    go_wp2_with fail
    go_ret
    exact ⟨by rw [HR.out]; try rfl, HB1.out⟩
  | true =>
    have HP := Lib.hid (isMac_parts q0)
    by_cases q1 : n0 ≤ 20
    · have f2 : decide ((n0 : Int) > 20) = false := by simp; omega
      have f3 : decide ((20 : Int) < (n0 : Int)) = false := by simp; omega
      have HR : Hid (runM x word = (runTo x.moves 0 word).getD (-1)) := Lib.hid (by
        unfold runM
        rw [if_pos ⟨q0, by rw [HE.out.2]; exact q1⟩])
      rw [q0] at HIM
      clear q0
      go_enter Try.func29, Try.ntmps29
      go_wp2_with fail
      generalize (w.alloc (.cells #[.int .i64 x.st, .slice a n c, .slice q m d] 27)) = W0 at *
      refine (HIM.out _ HMW.out).mono ?_
      rintro e w1 ⟨rfl, hb⟩
      have HD1 := Lib.hid hb
      have HB1 := Lib.hid (HB.out.trans (hb.mono HB.out.size))
      obtain ⟨b0, b1, b2, _, _, _⟩ := three_cells ((hb.block w.heap.size (by omega)).trans HX.out)
      clear hb
      go_wp2_with fail
      clear f2 f3 b0 b1 b2
      go_loopw [5, 6] (fun t i wr => ∃ (j : Nat) (s : Int), j ≤ n0 ∧ i = .int .i64 j ∧ t = .int .i64 s ∧ runTo x.moves 0 (word.take j) = some s ∧ Below W0.heap.size W0 wr) (fun _ i _ => n0 - (intOf i).toNat)
      case atStart => exact ⟨0, 0, Nat.zero_le _, rfl, rfl, rfl, HD1.out⟩
      case round =>
        obtain ⟨j, s, hj, rfl, rfl, hrun, hb⟩ := hrel
        have HU := Lib.hid hrun
        have HB9 := Lib.hid hb
        clear hrun hb
        by_cases hlt : j < n0
        · obtain ⟨ad, z, rfl, hz, hc0⟩ := (HN.out.same HB9.out).at_ hlt
          have HZ := Lib.hid hz
          have hwz := HF.out z (List.mem_of_getElem? hz)
          have hbz : -9223372036854775808 ≤ z ∧ z ≤ 9223372036854775807 := by
            simp [Lit.wf, IntKind.min, IntKind.max, IntKind.signed, IntKind.bits] at hwz
            omega
          have C := Lib.hid (three_cells ((HB9.out.block w.heap.size (by omega)).trans HX.out))
          have D := Lib.hid hc0
          have HMS := Lib.hid (HMW.out.same HB9.out)
          clear hz hwz hc0
          by_cases h0 : 0 ≤ z
          · have q0 : decide (z ≥ 0) = true := by simpa using h0
            have eS : sendNo z = true := by simpa [sendNo] using h0
            have eM : msgNo z = z := by unfold msgNo; rw [if_pos h0]
            have HSE : Hid (moveOf x s true z = firstAt (hitM s (sendNo z) (msgNo z)) x.moves) := Lib.hid (by rw [eS, eM]; rfl)
            clear eS eM
            rcases firstAt_find (p := hitM s (sendNo z) (msgNo z)) x.moves with ⟨e, q2⟩ | ⟨k, y, e, hy, q2⟩
            · replace q2 : nextM x.moves s z = none := q2
              have HQ : Hid (runM x word = -1) := Lib.hid (by rw [HR.out, runTo_stop HU.out HZ.out q2]; rfl)
              have HI := Lib.hid e
              clear q2 e
              have hcw := D.out
              go_wp2_with fail
              clear hcw
              have HBd : Hid (Below wr.heap.size wr wr.drew) := Lib.hid (Below.refl _ _).drew
              refine wp_region_held_drew (S := fun w9 => w9.cell? ⟨w.heap.size, 0, none⟩ = some (.int .i64 x.st) ∧ w9.cell? ⟨w.heap.size, 1, none⟩ = some (.slice a n c) ∧ w9.cell? ⟨w.heap.size, 2, none⟩ = some (.slice q m d) ∧ w9.cell? (ad.add j) = some (.int .i64 z)) (by kernel_rfl) ⟨cell_stay C.out.1 HBd.out, cell_stay C.out.2.1 HBd.out, cell_stay C.out.2.2.1 HBd.out, cell_stay D.out HBd.out⟩ (fun hHeld => ?_)
              refine wpAnyH_take (i := 0) (v := ?v1) (by simp only [List.getElem?_toArray, List.getElem?_cons_succ, List.getElem?_cons_zero]; rfl) (by kernel_rfl) (by kernel_rfl) (by kernel_rfl) (by exact fun _ _ _ h => h) (Or.inl ⟨by rfl, fun w9 hS9 => ?hy1⟩) hHeld ?rest1
              case hy1 =>
                dsimp only at hS9
                obtain ⟨p0, p1, p2, p3⟩ := hS9
                go_simp
                try with_reducible rfl
              try simp only [Act.put, List.setIfInBounds_toArray, List.set_cons_zero, List.set_cons_succ]
              refine wpAnyH_take (i := 1) (v := ?v2) (by simp only [List.getElem?_toArray, List.getElem?_cons_succ, List.getElem?_cons_zero]; rfl) (by kernel_rfl) (by kernel_rfl) (by kernel_rfl) (by exact fun _ _ _ h => h) (Or.inl ⟨by rfl, fun w9 hS9 => ?hy2⟩) hHeld ?rest2
              case hy2 =>
                dsimp only at hS9
                obtain ⟨p0, p1, p2, p3⟩ := hS9
                go_simp
                try with_reducible rfl
              try simp only [Act.put, List.setIfInBounds_toArray, List.set_cons_zero, List.set_cons_succ]
              refine wpAnyH_take (i := 2) (v := ?v3) (by simp only [List.getElem?_toArray, List.getElem?_cons_succ, List.getElem?_cons_zero]; rfl) (by kernel_rfl) (by kernel_rfl) (by kernel_rfl) (by exact fun _ _ _ h => h) (Or.inl ⟨by rfl, fun w9 hS9 => ?hy3⟩) hHeld ?rest3
              case hy3 =>
                dsimp only at hS9
                obtain ⟨p0, p1, p2, p3⟩ := hS9
                go_simp
                try with_reducible rfl
              try simp only [Act.put, List.setIfInBounds_toArray, List.set_cons_zero, List.set_cons_succ]
              refine wpAnyH_take (i := 3) (v := ?v4) (by simp only [List.getElem?_toArray, List.getElem?_cons_succ, List.getElem?_cons_zero]; rfl) (by kernel_rfl) (by kernel_rfl) (by kernel_rfl) (by exact fun _ _ _ h => h) (Or.inl ⟨by rfl, fun w9 hS9 => ?hy4⟩) hHeld ?rest4
              case hy4 =>
                dsimp only at hS9
                obtain ⟨p0, p1, p2, p3⟩ := hS9
                go_simp
                try with_reducible rfl
              try simp only [Act.put, List.setIfInBounds_toArray, List.set_cons_zero, List.set_cons_succ]
              refine wpAnyH_take (i := 4) (v := ?v5) (by simp only [List.getElem?_toArray, List.getElem?_cons_succ, List.getElem?_cons_zero]; rfl) (by kernel_rfl) (by kernel_rfl) (by kernel_rfl) (by exact fun _ _ _ h => h) (Or.inl ⟨by rfl, fun w9 hS9 => ?hy5⟩) hHeld ?rest5
              case hy5 =>
                dsimp only at hS9
                obtain ⟨p0, p1, p2, p3⟩ := hS9
                go_simp
                try with_reducible rfl
              try simp only [Act.put, List.setIfInBounds_toArray, List.set_cons_zero, List.set_cons_succ]
              refine wpAnyH_take (i := 5) (v := ?v6) (by simp only [List.getElem?_toArray, List.getElem?_cons_succ, List.getElem?_cons_zero]; rfl) (by kernel_rfl) (by kernel_rfl) (by kernel_rfl) (by exact fun _ _ _ h => h) (Or.inl ⟨by rfl, fun w9 hS9 => ?hy6⟩) hHeld ?rest6
              case hy6 =>
                dsimp only at hS9
                obtain ⟨p0, p1, p2, p3⟩ := hS9
                go_simp
                try with_reducible rfl
              try simp only [Act.put, List.setIfInBounds_toArray, List.set_cons_zero, List.set_cons_succ]
              refine wpAnyH_ready (rs := [6]) (by kernel_rfl) (by simp) (AllReadyH.cons (by simp only [List.getElem?_toArray, List.getElem?_cons_succ, List.getElem?_cons_zero]; rfl) (fun K hK => ?_) AllReadyH.nil)
              go_simp
              refine ((show Calls Try.prog 23 #[(.agg #[.int .i64 x.st, .slice a n c, .slice q m d]), .int .i64 s, .bool true, .int .i64 z] _ (Told (.int .i64 (-1)) _) from by have h9 := specMoveOf_any s true z (HMS.out.same HBd.out); rw [HSE.out, HI.out] at h9; exact h9)).mono ?_
              rintro e w1 ⟨rfl, hb1⟩
              have HB1 : Hid (Below wr.heap.size wr w1) := Lib.hid (HBd.out.trans (hb1.mono HBd.out.size))
              clear hb1
              go_wp2_with fail
              refine hK.out _ _ ⟨cell_stay C.out.1 HB1.out, cell_stay C.out.2.1 HB1.out, cell_stay C.out.2.2.1 HB1.out, cell_stay D.out HB1.out⟩ (fun hHeld => ?_)
              clear hK K
              try simp only [Act.put, List.setIfInBounds_toArray, List.set_cons_zero, List.set_cons_succ]
              refine wpAnyH_take (i := 7) (v := ?v7) (by simp only [List.getElem?_toArray, List.getElem?_cons_succ, List.getElem?_cons_zero]; rfl) (by kernel_rfl) (by kernel_rfl) (by kernel_rfl) (by exact fun _ _ _ h => h) (Or.inl ⟨by rfl, fun w9 hS9 => ?hy7⟩) hHeld ?rest7
              case hy7 =>
                dsimp only at hS9
                obtain ⟨p0, p1, p2, p3⟩ := hS9
                go_simp
                try with_reducible rfl
              try simp only [Act.put, List.setIfInBounds_toArray, List.set_cons_zero, List.set_cons_succ]
              refine wpAnyH_done (by kernel_rfl) ?_ _
              go_wp2_with fail
              go_ret
              exact ⟨by rw [HQ.out]; try rfl, HB.out.trans ((HB9.out.trans (HB1.out.mono HB9.out.size)).mono HB.out.size)⟩
            · replace q2 : nextM x.moves s z = some y := q2
              have HU2 := Lib.hid (runTo_step HU.out HZ.out q2)
              have HI := Lib.hid e
              have hkm : k < m := by have := at_lt hy; have := HE.out.1; omega
              obtain ⟨y1, o1, y', hq, hy', hc0, hc1, hc2, hc3⟩ := mvs_at (H2.out.same HB9.out) hkm
              rw [hy] at hy'
              cases hy'
              have HQ1 := Lib.hid hq
              have HY3 := Lib.hid hc3
              clear q2 e hy hq hc0 hc1 hc2 hc3
              have hcw := D.out
              go_wp2_with fail
              clear hcw
              have HBd : Hid (Below wr.heap.size wr wr.drew) := Lib.hid (Below.refl _ _).drew
              refine wp_region_held_drew (S := fun w9 => w9.cell? ⟨w.heap.size, 0, none⟩ = some (.int .i64 x.st) ∧ w9.cell? ⟨w.heap.size, 1, none⟩ = some (.slice a n c) ∧ w9.cell? ⟨w.heap.size, 2, none⟩ = some (.slice q m d) ∧ w9.cell? (ad.add j) = some (.int .i64 z)) (by kernel_rfl) ⟨cell_stay C.out.1 HBd.out, cell_stay C.out.2.1 HBd.out, cell_stay C.out.2.2.1 HBd.out, cell_stay D.out HBd.out⟩ (fun hHeld => ?_)
              refine wpAnyH_take (i := 0) (v := ?v8) (by simp only [List.getElem?_toArray, List.getElem?_cons_succ, List.getElem?_cons_zero]; rfl) (by kernel_rfl) (by kernel_rfl) (by kernel_rfl) (by exact fun _ _ _ h => h) (Or.inl ⟨by rfl, fun w9 hS9 => ?hy8⟩) hHeld ?rest8
              case hy8 =>
                dsimp only at hS9
                obtain ⟨p0, p1, p2, p3⟩ := hS9
                go_simp
                try with_reducible rfl
              try simp only [Act.put, List.setIfInBounds_toArray, List.set_cons_zero, List.set_cons_succ]
              refine wpAnyH_take (i := 1) (v := ?v9) (by simp only [List.getElem?_toArray, List.getElem?_cons_succ, List.getElem?_cons_zero]; rfl) (by kernel_rfl) (by kernel_rfl) (by kernel_rfl) (by exact fun _ _ _ h => h) (Or.inl ⟨by rfl, fun w9 hS9 => ?hy9⟩) hHeld ?rest9
              case hy9 =>
                dsimp only at hS9
                obtain ⟨p0, p1, p2, p3⟩ := hS9
                go_simp
                try with_reducible rfl
              try simp only [Act.put, List.setIfInBounds_toArray, List.set_cons_zero, List.set_cons_succ]
              refine wpAnyH_take (i := 2) (v := ?v10) (by simp only [List.getElem?_toArray, List.getElem?_cons_succ, List.getElem?_cons_zero]; rfl) (by kernel_rfl) (by kernel_rfl) (by kernel_rfl) (by exact fun _ _ _ h => h) (Or.inl ⟨by rfl, fun w9 hS9 => ?hy10⟩) hHeld ?rest10
              case hy10 =>
                dsimp only at hS9
                obtain ⟨p0, p1, p2, p3⟩ := hS9
                go_simp
                try with_reducible rfl
              try simp only [Act.put, List.setIfInBounds_toArray, List.set_cons_zero, List.set_cons_succ]
              refine wpAnyH_take (i := 3) (v := ?v11) (by simp only [List.getElem?_toArray, List.getElem?_cons_succ, List.getElem?_cons_zero]; rfl) (by kernel_rfl) (by kernel_rfl) (by kernel_rfl) (by exact fun _ _ _ h => h) (Or.inl ⟨by rfl, fun w9 hS9 => ?hy11⟩) hHeld ?rest11
              case hy11 =>
                dsimp only at hS9
                obtain ⟨p0, p1, p2, p3⟩ := hS9
                go_simp
                try with_reducible rfl
              try simp only [Act.put, List.setIfInBounds_toArray, List.set_cons_zero, List.set_cons_succ]
              refine wpAnyH_take (i := 4) (v := ?v12) (by simp only [List.getElem?_toArray, List.getElem?_cons_succ, List.getElem?_cons_zero]; rfl) (by kernel_rfl) (by kernel_rfl) (by kernel_rfl) (by exact fun _ _ _ h => h) (Or.inl ⟨by rfl, fun w9 hS9 => ?hy12⟩) hHeld ?rest12
              case hy12 =>
                dsimp only at hS9
                obtain ⟨p0, p1, p2, p3⟩ := hS9
                go_simp
                try with_reducible rfl
              try simp only [Act.put, List.setIfInBounds_toArray, List.set_cons_zero, List.set_cons_succ]
              refine wpAnyH_take (i := 5) (v := ?v13) (by simp only [List.getElem?_toArray, List.getElem?_cons_succ, List.getElem?_cons_zero]; rfl) (by kernel_rfl) (by kernel_rfl) (by kernel_rfl) (by exact fun _ _ _ h => h) (Or.inl ⟨by rfl, fun w9 hS9 => ?hy13⟩) hHeld ?rest13
              case hy13 =>
                dsimp only at hS9
                obtain ⟨p0, p1, p2, p3⟩ := hS9
                go_simp
                try with_reducible rfl
              try simp only [Act.put, List.setIfInBounds_toArray, List.set_cons_zero, List.set_cons_succ]
              refine wpAnyH_ready (rs := [6]) (by kernel_rfl) (by simp) (AllReadyH.cons (by simp only [List.getElem?_toArray, List.getElem?_cons_succ, List.getElem?_cons_zero]; rfl) (fun K hK => ?_) AllReadyH.nil)
              go_simp
              refine ((show Calls Try.prog 23 #[(.agg #[.int .i64 x.st, .slice a n c, .slice q m d]), .int .i64 s, .bool true, .int .i64 z] _ (Told (.int .i64 (k : Nat)) _) from by have h9 := specMoveOf_any s true z (HMS.out.same HBd.out); rw [HSE.out, HI.out] at h9; exact h9)).mono ?_
              rintro e w1 ⟨rfl, hb1⟩
              have HB1 : Hid (Below wr.heap.size wr w1) := Lib.hid (HBd.out.trans (hb1.mono HBd.out.size))
              clear hb1
              go_wp2_with fail
              refine hK.out _ _ ⟨cell_stay C.out.1 HB1.out, cell_stay C.out.2.1 HB1.out, cell_stay C.out.2.2.1 HB1.out, cell_stay D.out HB1.out⟩ (fun hHeld => ?_)
              clear hK K
              try simp only [Act.put, List.setIfInBounds_toArray, List.set_cons_zero, List.set_cons_succ]
              refine wpAnyH_take (i := 7) (v := ?v14) (by simp only [List.getElem?_toArray, List.getElem?_cons_succ, List.getElem?_cons_zero]; rfl) (by kernel_rfl) (by kernel_rfl) (by kernel_rfl) (by exact fun _ _ _ h => h) (Or.inl ⟨by rfl, fun w9 hS9 => ?hy14⟩) hHeld ?rest14
              case hy14 =>
                dsimp only at hS9
                obtain ⟨p0, p1, p2, p3⟩ := hS9
                go_simp
                try with_reducible rfl
              try simp only [Act.put, List.setIfInBounds_toArray, List.set_cons_zero, List.set_cons_succ]
              refine wpAnyH_done (by kernel_rfl) ?_ _
              obtain rfl := HQ1.out
              have y3 := cell_stay HY3.out HB1.out
              have k2 := cell_stay C.out.2.2.1 HB1.out
              go_wp2_with fail
              go_roundw
              case rel => exact ⟨j + 1, y.to, by omega, by go_num, rfl, HU2.out, HB9.out.trans (HB1.out.mono HB9.out.size)⟩
              case measure => simp [intOf]; omega
          · have q0 : decide (z ≥ 0) = false := by simpa using h0
            have eS : sendNo z = false := by simpa [sendNo] using h0
            have eM : msgNo z = IntKind.i64.wrap (-IntKind.i64.wrap (z + 1)) := by
              unfold msgNo
              rw [if_neg h0, IntWalk.i64_in (z + 1) (by omega), IntWalk.i64_in (-(z + 1)) (by omega)]
              omega
            have HSE : Hid (moveOf x s false (IntKind.i64.wrap (-IntKind.i64.wrap (z + 1))) = firstAt (hitM s (sendNo z) (msgNo z)) x.moves) := Lib.hid (by rw [eS, eM]; rfl)
            clear eS eM
            rcases firstAt_find (p := hitM s (sendNo z) (msgNo z)) x.moves with ⟨e, q2⟩ | ⟨k, y, e, hy, q2⟩
            · replace q2 : nextM x.moves s z = none := q2
              have HQ : Hid (runM x word = -1) := Lib.hid (by rw [HR.out, runTo_stop HU.out HZ.out q2]; rfl)
              have HI := Lib.hid e
              clear q2 e
              have hcw := D.out
              go_wp2_with fail
              clear hcw
              have HBd : Hid (Below wr.heap.size wr wr.drew) := Lib.hid (Below.refl _ _).drew
              refine wp_region_held_drew (S := fun w9 => w9.cell? ⟨w.heap.size, 0, none⟩ = some (.int .i64 x.st) ∧ w9.cell? ⟨w.heap.size, 1, none⟩ = some (.slice a n c) ∧ w9.cell? ⟨w.heap.size, 2, none⟩ = some (.slice q m d) ∧ w9.cell? (ad.add j) = some (.int .i64 z)) (by kernel_rfl) ⟨cell_stay C.out.1 HBd.out, cell_stay C.out.2.1 HBd.out, cell_stay C.out.2.2.1 HBd.out, cell_stay D.out HBd.out⟩ (fun hHeld => ?_)
              refine wpAnyH_take (i := 0) (v := ?v15) (by simp only [List.getElem?_toArray, List.getElem?_cons_succ, List.getElem?_cons_zero]; rfl) (by kernel_rfl) (by kernel_rfl) (by kernel_rfl) (by exact fun _ _ _ h => h) (Or.inl ⟨by rfl, fun w9 hS9 => ?hy15⟩) hHeld ?rest15
              case hy15 =>
                dsimp only at hS9
                obtain ⟨p0, p1, p2, p3⟩ := hS9
                go_simp
                try with_reducible rfl
              try simp only [Act.put, List.setIfInBounds_toArray, List.set_cons_zero, List.set_cons_succ]
              refine wpAnyH_take (i := 1) (v := ?v16) (by simp only [List.getElem?_toArray, List.getElem?_cons_succ, List.getElem?_cons_zero]; rfl) (by kernel_rfl) (by kernel_rfl) (by kernel_rfl) (by exact fun _ _ _ h => h) (Or.inl ⟨by rfl, fun w9 hS9 => ?hy16⟩) hHeld ?rest16
              case hy16 =>
                dsimp only at hS9
                obtain ⟨p0, p1, p2, p3⟩ := hS9
                go_simp
                try with_reducible rfl
              try simp only [Act.put, List.setIfInBounds_toArray, List.set_cons_zero, List.set_cons_succ]
              refine wpAnyH_take (i := 2) (v := ?v17) (by simp only [List.getElem?_toArray, List.getElem?_cons_succ, List.getElem?_cons_zero]; rfl) (by kernel_rfl) (by kernel_rfl) (by kernel_rfl) (by exact fun _ _ _ h => h) (Or.inl ⟨by rfl, fun w9 hS9 => ?hy17⟩) hHeld ?rest17
              case hy17 =>
                dsimp only at hS9
                obtain ⟨p0, p1, p2, p3⟩ := hS9
                go_simp
                try with_reducible rfl
              try simp only [Act.put, List.setIfInBounds_toArray, List.set_cons_zero, List.set_cons_succ]
              refine wpAnyH_take (i := 3) (v := ?v18) (by simp only [List.getElem?_toArray, List.getElem?_cons_succ, List.getElem?_cons_zero]; rfl) (by kernel_rfl) (by kernel_rfl) (by kernel_rfl) (by exact fun _ _ _ h => h) (Or.inl ⟨by rfl, fun w9 hS9 => ?hy18⟩) hHeld ?rest18
              case hy18 =>
                dsimp only at hS9
                obtain ⟨p0, p1, p2, p3⟩ := hS9
                go_simp
                try with_reducible rfl
              try simp only [Act.put, List.setIfInBounds_toArray, List.set_cons_zero, List.set_cons_succ]
              refine wpAnyH_take (i := 4) (v := ?v19) (by simp only [List.getElem?_toArray, List.getElem?_cons_succ, List.getElem?_cons_zero]; rfl) (by kernel_rfl) (by kernel_rfl) (by kernel_rfl) (by exact fun _ _ _ h => h) (Or.inl ⟨by rfl, fun w9 hS9 => ?hy19⟩) hHeld ?rest19
              case hy19 =>
                dsimp only at hS9
                obtain ⟨p0, p1, p2, p3⟩ := hS9
                go_simp
                try with_reducible rfl
              try simp only [Act.put, List.setIfInBounds_toArray, List.set_cons_zero, List.set_cons_succ]
              refine wpAnyH_take (i := 5) (v := ?v20) (by simp only [List.getElem?_toArray, List.getElem?_cons_succ, List.getElem?_cons_zero]; rfl) (by kernel_rfl) (by kernel_rfl) (by kernel_rfl) (by exact fun _ _ _ h => h) (Or.inl ⟨by rfl, fun w9 hS9 => ?hy20⟩) hHeld ?rest20
              case hy20 =>
                dsimp only at hS9
                obtain ⟨p0, p1, p2, p3⟩ := hS9
                go_simp
                try with_reducible rfl
              try simp only [Act.put, List.setIfInBounds_toArray, List.set_cons_zero, List.set_cons_succ]
              refine wpAnyH_take (i := 6) (v := ?v21) (by simp only [List.getElem?_toArray, List.getElem?_cons_succ, List.getElem?_cons_zero]; rfl) (by kernel_rfl) (by kernel_rfl) (by kernel_rfl) (by exact fun _ _ _ h => h) (Or.inl ⟨by rfl, fun w9 hS9 => ?hy21⟩) hHeld ?rest21
              case hy21 =>
                dsimp only at hS9
                obtain ⟨p0, p1, p2, p3⟩ := hS9
                go_simp
                try with_reducible rfl
              try simp only [Act.put, List.setIfInBounds_toArray, List.set_cons_zero, List.set_cons_succ]
              refine wpAnyH_take (i := 7) (v := ?v22) (by simp only [List.getElem?_toArray, List.getElem?_cons_succ, List.getElem?_cons_zero]; rfl) (by kernel_rfl) (by kernel_rfl) (by kernel_rfl) (by exact fun _ _ _ h => h) (Or.inl ⟨by rfl, fun w9 hS9 => ?hy22⟩) hHeld ?rest22
              case hy22 =>
                dsimp only at hS9
                obtain ⟨p0, p1, p2, p3⟩ := hS9
                go_simp
                try with_reducible rfl
              try simp only [Act.put, List.setIfInBounds_toArray, List.set_cons_zero, List.set_cons_succ]
              refine wpAnyH_ready (rs := [8]) (by kernel_rfl) (by simp) (AllReadyH.cons (by simp only [List.getElem?_toArray, List.getElem?_cons_succ, List.getElem?_cons_zero]; rfl) (fun K hK => ?_) AllReadyH.nil)
              go_simp
              refine ((show Calls Try.prog 23 #[(.agg #[.int .i64 x.st, .slice a n c, .slice q m d]), .int .i64 s, .bool false, .int .i64 (IntKind.i64.wrap (-IntKind.i64.wrap (z + 1)))] _ (Told (.int .i64 (-1)) _) from by have h9 := specMoveOf_any s false (IntKind.i64.wrap (-IntKind.i64.wrap (z + 1))) (HMS.out.same HBd.out); rw [HSE.out, HI.out] at h9; exact h9)).mono ?_
              rintro e w1 ⟨rfl, hb1⟩
              have HB1 : Hid (Below wr.heap.size wr w1) := Lib.hid (HBd.out.trans (hb1.mono HBd.out.size))
              clear hb1
              go_wp2_with fail
              refine hK.out _ _ ⟨cell_stay C.out.1 HB1.out, cell_stay C.out.2.1 HB1.out, cell_stay C.out.2.2.1 HB1.out, cell_stay D.out HB1.out⟩ (fun hHeld => ?_)
              clear hK K
              try simp only [Act.put, List.setIfInBounds_toArray, List.set_cons_zero, List.set_cons_succ]
              refine wpAnyH_take (i := 9) (v := ?v23) (by simp only [List.getElem?_toArray, List.getElem?_cons_succ, List.getElem?_cons_zero]; rfl) (by kernel_rfl) (by kernel_rfl) (by kernel_rfl) (by exact fun _ _ _ h => h) (Or.inl ⟨by rfl, fun w9 hS9 => ?hy23⟩) hHeld ?rest23
              case hy23 =>
                dsimp only at hS9
                obtain ⟨p0, p1, p2, p3⟩ := hS9
                go_simp
                try with_reducible rfl
              try simp only [Act.put, List.setIfInBounds_toArray, List.set_cons_zero, List.set_cons_succ]
              refine wpAnyH_done (by kernel_rfl) ?_ _
              go_wp2_with fail
              go_ret
              exact ⟨by rw [HQ.out]; try rfl, HB.out.trans ((HB9.out.trans (HB1.out.mono HB9.out.size)).mono HB.out.size)⟩
            · replace q2 : nextM x.moves s z = some y := q2
              have HU2 := Lib.hid (runTo_step HU.out HZ.out q2)
              have HI := Lib.hid e
              have hkm : k < m := by have := at_lt hy; have := HE.out.1; omega
              obtain ⟨y1, o1, y', hq, hy', hc0, hc1, hc2, hc3⟩ := mvs_at (H2.out.same HB9.out) hkm
              rw [hy] at hy'
              cases hy'
              have HQ1 := Lib.hid hq
              have HY3 := Lib.hid hc3
              clear q2 e hy hq hc0 hc1 hc2 hc3
              have hcw := D.out
              go_wp2_with fail
              clear hcw
              have HBd : Hid (Below wr.heap.size wr wr.drew) := Lib.hid (Below.refl _ _).drew
              refine wp_region_held_drew (S := fun w9 => w9.cell? ⟨w.heap.size, 0, none⟩ = some (.int .i64 x.st) ∧ w9.cell? ⟨w.heap.size, 1, none⟩ = some (.slice a n c) ∧ w9.cell? ⟨w.heap.size, 2, none⟩ = some (.slice q m d) ∧ w9.cell? (ad.add j) = some (.int .i64 z)) (by kernel_rfl) ⟨cell_stay C.out.1 HBd.out, cell_stay C.out.2.1 HBd.out, cell_stay C.out.2.2.1 HBd.out, cell_stay D.out HBd.out⟩ (fun hHeld => ?_)
              refine wpAnyH_take (i := 0) (v := ?v24) (by simp only [List.getElem?_toArray, List.getElem?_cons_succ, List.getElem?_cons_zero]; rfl) (by kernel_rfl) (by kernel_rfl) (by kernel_rfl) (by exact fun _ _ _ h => h) (Or.inl ⟨by rfl, fun w9 hS9 => ?hy24⟩) hHeld ?rest24
              case hy24 =>
                dsimp only at hS9
                obtain ⟨p0, p1, p2, p3⟩ := hS9
                go_simp
                try with_reducible rfl
              try simp only [Act.put, List.setIfInBounds_toArray, List.set_cons_zero, List.set_cons_succ]
              refine wpAnyH_take (i := 1) (v := ?v25) (by simp only [List.getElem?_toArray, List.getElem?_cons_succ, List.getElem?_cons_zero]; rfl) (by kernel_rfl) (by kernel_rfl) (by kernel_rfl) (by exact fun _ _ _ h => h) (Or.inl ⟨by rfl, fun w9 hS9 => ?hy25⟩) hHeld ?rest25
              case hy25 =>
                dsimp only at hS9
                obtain ⟨p0, p1, p2, p3⟩ := hS9
                go_simp
                try with_reducible rfl
              try simp only [Act.put, List.setIfInBounds_toArray, List.set_cons_zero, List.set_cons_succ]
              refine wpAnyH_take (i := 2) (v := ?v26) (by simp only [List.getElem?_toArray, List.getElem?_cons_succ, List.getElem?_cons_zero]; rfl) (by kernel_rfl) (by kernel_rfl) (by kernel_rfl) (by exact fun _ _ _ h => h) (Or.inl ⟨by rfl, fun w9 hS9 => ?hy26⟩) hHeld ?rest26
              case hy26 =>
                dsimp only at hS9
                obtain ⟨p0, p1, p2, p3⟩ := hS9
                go_simp
                try with_reducible rfl
              try simp only [Act.put, List.setIfInBounds_toArray, List.set_cons_zero, List.set_cons_succ]
              refine wpAnyH_take (i := 3) (v := ?v27) (by simp only [List.getElem?_toArray, List.getElem?_cons_succ, List.getElem?_cons_zero]; rfl) (by kernel_rfl) (by kernel_rfl) (by kernel_rfl) (by exact fun _ _ _ h => h) (Or.inl ⟨by rfl, fun w9 hS9 => ?hy27⟩) hHeld ?rest27
              case hy27 =>
                dsimp only at hS9
                obtain ⟨p0, p1, p2, p3⟩ := hS9
                go_simp
                try with_reducible rfl
              try simp only [Act.put, List.setIfInBounds_toArray, List.set_cons_zero, List.set_cons_succ]
              refine wpAnyH_take (i := 4) (v := ?v28) (by simp only [List.getElem?_toArray, List.getElem?_cons_succ, List.getElem?_cons_zero]; rfl) (by kernel_rfl) (by kernel_rfl) (by kernel_rfl) (by exact fun _ _ _ h => h) (Or.inl ⟨by rfl, fun w9 hS9 => ?hy28⟩) hHeld ?rest28
              case hy28 =>
                dsimp only at hS9
                obtain ⟨p0, p1, p2, p3⟩ := hS9
                go_simp
                try with_reducible rfl
              try simp only [Act.put, List.setIfInBounds_toArray, List.set_cons_zero, List.set_cons_succ]
              refine wpAnyH_take (i := 5) (v := ?v29) (by simp only [List.getElem?_toArray, List.getElem?_cons_succ, List.getElem?_cons_zero]; rfl) (by kernel_rfl) (by kernel_rfl) (by kernel_rfl) (by exact fun _ _ _ h => h) (Or.inl ⟨by rfl, fun w9 hS9 => ?hy29⟩) hHeld ?rest29
              case hy29 =>
                dsimp only at hS9
                obtain ⟨p0, p1, p2, p3⟩ := hS9
                go_simp
                try with_reducible rfl
              try simp only [Act.put, List.setIfInBounds_toArray, List.set_cons_zero, List.set_cons_succ]
              refine wpAnyH_take (i := 6) (v := ?v30) (by simp only [List.getElem?_toArray, List.getElem?_cons_succ, List.getElem?_cons_zero]; rfl) (by kernel_rfl) (by kernel_rfl) (by kernel_rfl) (by exact fun _ _ _ h => h) (Or.inl ⟨by rfl, fun w9 hS9 => ?hy30⟩) hHeld ?rest30
              case hy30 =>
                dsimp only at hS9
                obtain ⟨p0, p1, p2, p3⟩ := hS9
                go_simp
                try with_reducible rfl
              try simp only [Act.put, List.setIfInBounds_toArray, List.set_cons_zero, List.set_cons_succ]
              refine wpAnyH_take (i := 7) (v := ?v31) (by simp only [List.getElem?_toArray, List.getElem?_cons_succ, List.getElem?_cons_zero]; rfl) (by kernel_rfl) (by kernel_rfl) (by kernel_rfl) (by exact fun _ _ _ h => h) (Or.inl ⟨by rfl, fun w9 hS9 => ?hy31⟩) hHeld ?rest31
              case hy31 =>
                dsimp only at hS9
                obtain ⟨p0, p1, p2, p3⟩ := hS9
                go_simp
                try with_reducible rfl
              try simp only [Act.put, List.setIfInBounds_toArray, List.set_cons_zero, List.set_cons_succ]
              refine wpAnyH_ready (rs := [8]) (by kernel_rfl) (by simp) (AllReadyH.cons (by simp only [List.getElem?_toArray, List.getElem?_cons_succ, List.getElem?_cons_zero]; rfl) (fun K hK => ?_) AllReadyH.nil)
              go_simp
              refine ((show Calls Try.prog 23 #[(.agg #[.int .i64 x.st, .slice a n c, .slice q m d]), .int .i64 s, .bool false, .int .i64 (IntKind.i64.wrap (-IntKind.i64.wrap (z + 1)))] _ (Told (.int .i64 (k : Nat)) _) from by have h9 := specMoveOf_any s false (IntKind.i64.wrap (-IntKind.i64.wrap (z + 1))) (HMS.out.same HBd.out); rw [HSE.out, HI.out] at h9; exact h9)).mono ?_
              rintro e w1 ⟨rfl, hb1⟩
              have HB1 : Hid (Below wr.heap.size wr w1) := Lib.hid (HBd.out.trans (hb1.mono HBd.out.size))
              clear hb1
              go_wp2_with fail
              refine hK.out _ _ ⟨cell_stay C.out.1 HB1.out, cell_stay C.out.2.1 HB1.out, cell_stay C.out.2.2.1 HB1.out, cell_stay D.out HB1.out⟩ (fun hHeld => ?_)
              clear hK K
              try simp only [Act.put, List.setIfInBounds_toArray, List.set_cons_zero, List.set_cons_succ]
              refine wpAnyH_take (i := 9) (v := ?v32) (by simp only [List.getElem?_toArray, List.getElem?_cons_succ, List.getElem?_cons_zero]; rfl) (by kernel_rfl) (by kernel_rfl) (by kernel_rfl) (by exact fun _ _ _ h => h) (Or.inl ⟨by rfl, fun w9 hS9 => ?hy32⟩) hHeld ?rest32
              case hy32 =>
                dsimp only at hS9
                obtain ⟨p0, p1, p2, p3⟩ := hS9
                go_simp
                try with_reducible rfl
              try simp only [Act.put, List.setIfInBounds_toArray, List.set_cons_zero, List.set_cons_succ]
              refine wpAnyH_done (by kernel_rfl) ?_ _
              obtain rfl := HQ1.out
              have y3 := cell_stay HY3.out HB1.out
              have k2 := cell_stay C.out.2.2.1 HB1.out
              go_wp2_with fail
              go_roundw
              case rel => exact ⟨j + 1, y.to, by omega, by go_num, rfl, HU2.out, HB9.out.trans (HB1.out.mono HB9.out.size)⟩
              case measure => simp [intOf]; omega
        · obtain rfl : j = n0 := by omega
          have HQ : Hid (runM x word = s) := Lib.hid (by
            have h1 := HU.out
            rw [List.take_of_length_le (by rw [HE.out.2]; omega)] at h1
            rw [HR.out, h1]; rfl)
          go_wp2_with fail
          go_ret
          exact ⟨by rw [HQ.out]; try rfl, HB.out.trans (HB9.out.mono HB.out.size)⟩
    · have f2 : decide ((n0 : Int) > 20) = true := by simp; omega
      have f3 : decide ((20 : Int) < (n0 : Int)) = true := by simp; omega
      have HR : Hid (runM x word = -1) := Lib.hid (by
        unfold runM
        rw [if_neg (fun h => q1 (by rw [← HE.out.2]; exact h.2))])
      rw [q0] at HIM
      clear q0 q1
      go_enter Try.func29, Try.ntmps29
      go_wp2_with fail
      generalize (w.alloc (.cells #[.int .i64 x.st, .slice a n c, .slice q m d] 27)) = W0 at *
      refine (HIM.out _ HMW.out).mono ?_
      rintro e w1 ⟨rfl, hb⟩
      have HD1 := Lib.hid hb
      have HB1 := Lib.hid (HB.out.trans (hb.mono HB.out.size))
      obtain ⟨b0, b1, b2, _, _, _⟩ := three_cells ((hb.block w.heap.size (by omega)).trans HX.out)
      clear hb
      go_wp2_with fail
      go_ret
      exact ⟨by rw [HR.out]; try rfl, HB1.out⟩
end Go.Proofs.Ytaaogdhkehkamaa
