/- Whether a list of values is a message of a format: by the model. The helpers of the exact laws at slices of integers: what the program says of integers. The helpers of the exact laws at slices of integers: copied, compared. The bytes of a message, by the model; the greatest number of bytes of a format, by the model. Lists of values of the call's own, all blocks below a bound: what a write elsewhere leaves; one value put, one appended. No function of the program is spoken of. -/
import Derived.Test.YtjkjnhkamieljaaG5
import Derived.Test.YtjkjnhkamieljaaG1
import Derived.Deep.QuietTactic
import Derived.BigQuiet
import Derived.RegionTactic
import Derived.Test.YtjkjnhkamieljaaG4
import Derived.Test.YtjkjnhkamieljaaG2
namespace Go.Proofs.Ytjkjnhkamieljaa
open Go.ChangeShapes Go.WideShapes Go.ChangeAt Go.RowKit
set_option linter.unusedVariables false
set_option linter.unusedSimpArgs false

set_option maxHeartbeats 4000000 in
set_option maxRecDepth 100000 in
theorem specFitsFormat_any (a : Option Addr) (n c : Nat) (l : List Fd) (b : Option Addr) (m d : Nat) (v : List Vl) (w : World) (h : Fds w a n l) (hv : Vals w b m v) (hn : n ≤ 1000000000) (hm : m ≤ 1000000000) :
    Calls Try.prog 90 #[.slice a n c, .slice b m d] w (Told (.bool (fitsFmt l v)) w) := by
  have H := Lib.hid h
  have HV := Lib.hid hv
  have hl := Lib.hid h.len
  have hvl := Lib.hid hv.len
  have KF := Lib.hid (specIsFormat_any a n c l w h hn)
  have KT := Lib.hid (fun (i : Int) (w0 : World) (hb : Below w.heap.size w w0) => specIsThere_any a n c l b m d v i w0 (h.same hb) (hv.same hb) hn hm)
  clear h hv
  cases hf : isFmt l with
  | false =>
    rw [hf] at KF
    have HE := Lib.hid (fitsFmt_notFmt (v := v) hf)
    clear hf
    go_enter Try.func90, Try.ntmps90
    go_wp2_with fail
    refine KF.out.mono ?_
    rintro e w1 ⟨rfl, hb1⟩
    have HB1 := Lib.hid hb1
    clear hb1
    go_wp2_with fail
    go_ret
    exact ⟨by rw [HE.out]; rfl, HB1.out⟩
  | true =>
    rw [hf] at KF
    by_cases hnm : m = n
    · subst hnm
      have HF := Lib.hid (fun ht => fitsFmt_yes (l := l) (v := v) hf (by rw [hl.out, hvl.out]) ht)
      clear hf
      go_enter Try.func90, Try.ntmps90
      go_wp2_with fail
      refine KF.out.mono ?_
      rintro e w1 ⟨rfl, hb1⟩
      have HB1 := Lib.hid hb1
      clear hb1
      go_wp2_with fail
      go_loopw [5] (fun i wr => ∃ j : Nat, j ≤ m ∧ i = .int .i64 j ∧ fitsTo l v j ∧ Below w.heap.size w wr) (fun i _ => m - (intOf i).toNat)
      case atStart => exact ⟨0, Nat.zero_le _, rfl, fitsTo_zero _ _, HB1.out⟩
      case round =>
        obtain ⟨j, hj, rfl, hft, hb⟩ := hrel
        have HB := Lib.hid hb
        have HFT := Lib.hid hft
        clear hb hft
        by_cases hlt : j < m
        · obtain ⟨bl, ol, ⟨xk, xm, xt, xi⟩, rfl, hx, hc0, hc1, hc2, hc3⟩ := fds_at (H.out.same HB.out) hlt
          obtain ⟨bv, ov, p, q, g, k, y, rfl, hy, hv0, hv1, hN, hr⟩ := (HV.out.same HB.out).at_ hlt
          dsimp only at hc0 hc1 hc2 hc3
          have E0 := Lib.hid hv0
          have E1 := Lib.hid hv1
          have E2 := Lib.hid hc0
          have E3 := Lib.hid hc1
          have E4 := Lib.hid hc2
          have E5 := Lib.hid hc3
          have HN := Lib.hid hN
          have hltI : (j : Int) < (m : Int) := by omega
          clear hv0 hv1
          have HX := Lib.hid hx
          have HY := Lib.hid hy
          clear hx hy hN hc0 hc1 hc2 hc3
          cases ht : isThere l v j with
          | true =>
            have KT1 := Lib.hid (fun w0 hb => KT.out j w0 hb)
            rw [ht] at KT1
            cases hv : fitsField ⟨xk, xm, xt, xi⟩ k y with
            | true =>
              have HST := Lib.hid (fitsTo_step HFT.out HX.out HY.out (by rw [fitsAt_there ht]; exact hv))
              have KV := Lib.hid (fun (w0 : World) (h0 : Nums .i64 w0 p q y) => specFitsField_any ⟨xk, xm, xt, xi⟩ k p q g y w0 h0)
              rw [hv] at KV
              unfold Fd.val at KV
              clear ht hv
              go_wp2_with fail
              have HBd : Hid (Below wr.heap.size wr wr.drew) := Lib.hid (Below.refl _ _).drew
              refine wp_region_held_drew (S := (fun w' => w'.cell? ⟨bv, ov + j * 2, none⟩ = some (.int .i64 k) ∧ w'.cell? ⟨bv, ov + j * 2 + 1, none⟩ = some (.slice p q g) ∧ w'.cell? ⟨bl, ol + j * 4, none⟩ = some (.int .i64 xk) ∧ w'.cell? ⟨bl, ol + j * 4 + 1, none⟩ = some (.int .i64 xm) ∧ w'.cell? ⟨bl, ol + j * 4 + 2, none⟩ = some (.int .i64 xt) ∧ w'.cell? ⟨bl, ol + j * 4 + 3, none⟩ = some (.int .i64 xi))) (by kernel_rfl) ⟨cell_stay E0.out HBd.out, cell_stay E1.out HBd.out, cell_stay E2.out HBd.out, cell_stay E3.out HBd.out, cell_stay E4.out HBd.out, cell_stay E5.out HBd.out⟩ (fun hHeld => ?_)
              refine wpAnyH_take (i := 0) (v := ?v13) (by simp only [List.getElem?_toArray, List.getElem?_cons_succ, List.getElem?_cons_zero]; rfl) (by kernel_rfl) (by kernel_rfl) (by kernel_rfl) (by exact fun _ _ _ h => h) (Or.inl ⟨by rfl, fun w9 hS9 => ?hy13⟩) hHeld ?rest13
              case hy13 =>
                dsimp only at hS9
                obtain ⟨s0, s1, s2, s3, s4, s5⟩ := hS9
                go_simp
                try with_reducible rfl
              try simp only [Act.put, List.setIfInBounds_toArray, List.set_cons_zero, List.set_cons_succ]
              refine wpAnyH_take (i := 1) (v := ?v14) (by simp only [List.getElem?_toArray, List.getElem?_cons_succ, List.getElem?_cons_zero]; rfl) (by kernel_rfl) (by kernel_rfl) (by kernel_rfl) (by exact fun _ _ _ h => h) (Or.inl ⟨by rfl, fun w9 hS9 => ?hy14⟩) hHeld ?rest14
              case hy14 =>
                dsimp only at hS9
                obtain ⟨s0, s1, s2, s3, s4, s5⟩ := hS9
                go_simp
                try with_reducible rfl
              try simp only [Act.put, List.setIfInBounds_toArray, List.set_cons_zero, List.set_cons_succ]
              refine wpAnyH_take (i := 2) (v := ?v15) (by simp only [List.getElem?_toArray, List.getElem?_cons_succ, List.getElem?_cons_zero]; rfl) (by kernel_rfl) (by kernel_rfl) (by kernel_rfl) (by exact fun _ _ _ h => h) (Or.inl ⟨by rfl, fun w9 hS9 => ?hy15⟩) hHeld ?rest15
              case hy15 =>
                dsimp only at hS9
                obtain ⟨s0, s1, s2, s3, s4, s5⟩ := hS9
                go_simp
                try with_reducible rfl
              try simp only [Act.put, List.setIfInBounds_toArray, List.set_cons_zero, List.set_cons_succ]
              refine wpAnyH_ready (rs := [3]) (by kernel_rfl) (by simp) (AllReadyH.cons (by simp only [List.getElem?_toArray, List.getElem?_cons_succ, List.getElem?_cons_zero]; rfl) (fun K hK => ?_) AllReadyH.nil)
              go_simp
              refine (KT1.out _ (HB.out.trans (HBd.out.mono HB.out.size))).mono ?_
              rintro e w1 ⟨rfl, hb1⟩
              have HB1 : Hid (Below wr.heap.size wr w1) := Lib.hid (HBd.out.trans (hb1.mono HBd.out.size))
              clear hb1
              go_wp2_with fail
              refine hK.out _ _ ⟨cell_stay E0.out HB1.out, cell_stay E1.out HB1.out, cell_stay E2.out HB1.out, cell_stay E3.out HB1.out, cell_stay E4.out HB1.out, cell_stay E5.out HB1.out⟩ (fun hHeld => ?_)
              clear hK K
              try simp only [Act.put, List.setIfInBounds_toArray, List.set_cons_zero, List.set_cons_succ]
              refine wpAnyH_take (i := 4) (v := ?v16) (by simp only [List.getElem?_toArray, List.getElem?_cons_succ, List.getElem?_cons_zero]; rfl) (by kernel_rfl) (by kernel_rfl) (by kernel_rfl) (by exact fun _ _ _ h => h) (Or.inl ⟨by rfl, fun w9 hS9 => ?hy16⟩) hHeld ?rest16
              case hy16 =>
                dsimp only at hS9
                obtain ⟨s0, s1, s2, s3, s4, s5⟩ := hS9
                go_simp
                try with_reducible rfl
              try simp only [Act.put, List.setIfInBounds_toArray, List.set_cons_zero, List.set_cons_succ]
              refine wpAnyH_take (i := 5) (v := ?v17) (by simp only [List.getElem?_toArray, List.getElem?_cons_succ, List.getElem?_cons_zero]; rfl) (by kernel_rfl) (by kernel_rfl) (by kernel_rfl) (by exact fun _ _ _ h => h) (Or.inl ⟨by rfl, fun w9 hS9 => ?hy17⟩) hHeld ?rest17
              case hy17 =>
                dsimp only at hS9
                obtain ⟨s0, s1, s2, s3, s4, s5⟩ := hS9
                go_simp
                try with_reducible rfl
              try simp only [Act.put, List.setIfInBounds_toArray, List.set_cons_zero, List.set_cons_succ]
              refine wpAnyH_take (i := 6) (v := ?v18) (by simp only [List.getElem?_toArray, List.getElem?_cons_succ, List.getElem?_cons_zero]; rfl) (by kernel_rfl) (by kernel_rfl) (by kernel_rfl) (by exact fun _ _ _ h => h) (Or.inl ⟨by rfl, fun w9 hS9 => ?hy18⟩) hHeld ?rest18
              case hy18 =>
                dsimp only at hS9
                obtain ⟨s0, s1, s2, s3, s4, s5⟩ := hS9
                go_simp
                try with_reducible rfl
              try simp only [Act.put, List.setIfInBounds_toArray, List.set_cons_zero, List.set_cons_succ]
              refine wpAnyH_take (i := 7) (v := ?v19) (by simp only [List.getElem?_toArray, List.getElem?_cons_succ, List.getElem?_cons_zero]; rfl) (by kernel_rfl) (by kernel_rfl) (by kernel_rfl) (by exact fun _ _ _ h => h) (Or.inl ⟨by rfl, fun w9 hS9 => ?hy19⟩) hHeld ?rest19
              case hy19 =>
                dsimp only at hS9
                obtain ⟨s0, s1, s2, s3, s4, s5⟩ := hS9
                go_simp
                try with_reducible rfl
              try simp only [Act.put, List.setIfInBounds_toArray, List.set_cons_zero, List.set_cons_succ]
              refine wpAnyH_take (i := 8) (v := ?v20) (by simp only [List.getElem?_toArray, List.getElem?_cons_succ, List.getElem?_cons_zero]; rfl) (by kernel_rfl) (by kernel_rfl) (by kernel_rfl) (by exact fun _ _ _ h => h) (Or.inl ⟨by rfl, fun w9 hS9 => ?hy20⟩) hHeld ?rest20
              case hy20 =>
                dsimp only at hS9
                obtain ⟨s0, s1, s2, s3, s4, s5⟩ := hS9
                go_simp
                try with_reducible rfl
              try simp only [Act.put, List.setIfInBounds_toArray, List.set_cons_zero, List.set_cons_succ]
              refine wpAnyH_take (i := 9) (v := ?v21) (by simp only [List.getElem?_toArray, List.getElem?_cons_succ, List.getElem?_cons_zero]; rfl) (by kernel_rfl) (by kernel_rfl) (by kernel_rfl) (by exact fun _ _ _ h => h) (Or.inl ⟨by rfl, fun w9 hS9 => ?hy21⟩) hHeld ?rest21
              case hy21 =>
                dsimp only at hS9
                obtain ⟨s0, s1, s2, s3, s4, s5⟩ := hS9
                go_simp
                try with_reducible rfl
              try simp only [Act.put, List.setIfInBounds_toArray, List.set_cons_zero, List.set_cons_succ]
              refine wpAnyH_take (i := 10) (v := ?v22) (by simp only [List.getElem?_toArray, List.getElem?_cons_succ, List.getElem?_cons_zero]; rfl) (by kernel_rfl) (by kernel_rfl) (by kernel_rfl) (by exact fun _ _ _ h => h) (Or.inl ⟨by rfl, fun w9 hS9 => ?hy22⟩) hHeld ?rest22
              case hy22 =>
                dsimp only at hS9
                obtain ⟨s0, s1, s2, s3, s4, s5⟩ := hS9
                go_simp
                try with_reducible rfl
              try simp only [Act.put, List.setIfInBounds_toArray, List.set_cons_zero, List.set_cons_succ]
              refine wpAnyH_take (i := 11) (v := ?v23) (by simp only [List.getElem?_toArray, List.getElem?_cons_succ, List.getElem?_cons_zero]; rfl) (by kernel_rfl) (by kernel_rfl) (by kernel_rfl) (by exact fun _ _ _ h => h) (Or.inl ⟨by rfl, fun w9 hS9 => ?hy23⟩) hHeld ?rest23
              case hy23 =>
                dsimp only at hS9
                obtain ⟨s0, s1, s2, s3, s4, s5⟩ := hS9
                go_simp
                try with_reducible rfl
              try simp only [Act.put, List.setIfInBounds_toArray, List.set_cons_zero, List.set_cons_succ]
              refine wpAnyH_take (i := 12) (v := ?v24) (by simp only [List.getElem?_toArray, List.getElem?_cons_succ, List.getElem?_cons_zero]; rfl) (by kernel_rfl) (by kernel_rfl) (by kernel_rfl) (by exact fun _ _ _ h => h) (Or.inl ⟨by rfl, fun w9 hS9 => ?hy24⟩) hHeld ?rest24
              case hy24 =>
                dsimp only at hS9
                obtain ⟨s0, s1, s2, s3, s4, s5⟩ := hS9
                go_simp
                try with_reducible rfl
              try simp only [Act.put, List.setIfInBounds_toArray, List.set_cons_zero, List.set_cons_succ]
              refine wpAnyH_ready (rs := [13]) (by kernel_rfl) (by simp) (AllReadyH.cons (by simp only [List.getElem?_toArray, List.getElem?_cons_succ, List.getElem?_cons_zero]; rfl) (fun K hK => ?_) AllReadyH.nil)
              go_simp
              refine (KV.out _ (HN.out.same HB1.out)).mono ?_
              rintro e w2 ⟨rfl, hb2⟩
              have HB2 : Hid (Below wr.heap.size wr w2) := Lib.hid (HB1.out.trans (hb2.mono HB1.out.size))
              clear hb2
              go_wp2_with fail
              refine hK.out _ _ ⟨cell_stay E0.out HB2.out, cell_stay E1.out HB2.out, cell_stay E2.out HB2.out, cell_stay E3.out HB2.out, cell_stay E4.out HB2.out, cell_stay E5.out HB2.out⟩ (fun hHeld => ?_)
              clear hK K
              try simp only [Act.put, List.setIfInBounds_toArray, List.set_cons_zero, List.set_cons_succ]
              refine wpAnyH_take (i := 14) (v := ?v25) (by simp only [List.getElem?_toArray, List.getElem?_cons_succ, List.getElem?_cons_zero]; rfl) (by kernel_rfl) (by kernel_rfl) (by kernel_rfl) (by exact fun _ _ _ h => h) (Or.inl ⟨by rfl, fun w9 hS9 => ?hy25⟩) hHeld ?rest25
              case hy25 =>
                dsimp only at hS9
                obtain ⟨s0, s1, s2, s3, s4, s5⟩ := hS9
                go_simp
                try with_reducible rfl
              try simp only [Act.put, List.setIfInBounds_toArray, List.set_cons_zero, List.set_cons_succ]
              refine wpAnyH_take (i := 15) (v := ?v26) (by simp only [List.getElem?_toArray, List.getElem?_cons_succ, List.getElem?_cons_zero]; rfl) (by kernel_rfl) (by kernel_rfl) (by kernel_rfl) (by exact fun _ _ _ h => h) (Or.inl ⟨by rfl, fun w9 hS9 => ?hy26⟩) hHeld ?rest26
              case hy26 =>
                dsimp only at hS9
                obtain ⟨s0, s1, s2, s3, s4, s5⟩ := hS9
                go_simp
                try with_reducible rfl
              try simp only [Act.put, List.setIfInBounds_toArray, List.set_cons_zero, List.set_cons_succ]
              refine wpAnyH_take (i := 16) (v := ?v27) (by simp only [List.getElem?_toArray, List.getElem?_cons_succ, List.getElem?_cons_zero]; rfl) (by kernel_rfl) (by kernel_rfl) (by kernel_rfl) (by exact fun _ _ _ h => h) (Or.inl ⟨by rfl, fun w9 hS9 => ?hy27⟩) hHeld ?rest27
              case hy27 =>
                dsimp only at hS9
                obtain ⟨s0, s1, s2, s3, s4, s5⟩ := hS9
                go_simp
                try with_reducible rfl
              try simp only [Act.put, List.setIfInBounds_toArray, List.set_cons_zero, List.set_cons_succ]
              refine wpAnyH_take (i := 17) (v := ?v28) (by simp only [List.getElem?_toArray, List.getElem?_cons_succ, List.getElem?_cons_zero]; rfl) (by kernel_rfl) (by kernel_rfl) (by kernel_rfl) (by exact fun _ _ _ h => h) (Or.inl ⟨by rfl, fun w9 hS9 => ?hy28⟩) hHeld ?rest28
              case hy28 =>
                dsimp only at hS9
                obtain ⟨s0, s1, s2, s3, s4, s5⟩ := hS9
                go_simp
                try with_reducible rfl
              try simp only [Act.put, List.setIfInBounds_toArray, List.set_cons_zero, List.set_cons_succ]
              refine wpAnyH_take (i := 18) (v := ?v29) (by simp only [List.getElem?_toArray, List.getElem?_cons_succ, List.getElem?_cons_zero]; rfl) (by kernel_rfl) (by kernel_rfl) (by kernel_rfl) (by exact fun _ _ _ h => h) (Or.inl ⟨by rfl, fun w9 hS9 => ?hy29⟩) hHeld ?rest29
              case hy29 =>
                dsimp only at hS9
                obtain ⟨s0, s1, s2, s3, s4, s5⟩ := hS9
                go_simp
                try with_reducible rfl
              try simp only [Act.put, List.setIfInBounds_toArray, List.set_cons_zero, List.set_cons_succ]
              refine wpAnyH_take (i := 19) (v := ?v30) (by simp only [List.getElem?_toArray, List.getElem?_cons_succ, List.getElem?_cons_zero]; rfl) (by kernel_rfl) (by kernel_rfl) (by kernel_rfl) (by exact fun _ _ _ h => h) (Or.inl ⟨by rfl, fun w9 hS9 => ?hy30⟩) hHeld ?rest30
              case hy30 =>
                dsimp only at hS9
                obtain ⟨s0, s1, s2, s3, s4, s5⟩ := hS9
                go_simp
                try with_reducible rfl
              try simp only [Act.put, List.setIfInBounds_toArray, List.set_cons_zero, List.set_cons_succ]
              refine wpAnyH_ready (rs := [20]) (by kernel_rfl) (by simp) (AllReadyH.cons (by simp only [List.getElem?_toArray, List.getElem?_cons_succ, List.getElem?_cons_zero]; rfl) (fun K hK => ?_) AllReadyH.nil)
              go_simp
              refine (KT1.out _ (HB.out.trans (HB2.out.mono HB.out.size))).mono ?_
              rintro e w3 ⟨rfl, hb3⟩
              have HB3 : Hid (Below wr.heap.size wr w3) := Lib.hid (HB2.out.trans (hb3.mono HB2.out.size))
              clear hb3
              go_wp2_with fail
              refine hK.out _ _ ⟨cell_stay E0.out HB3.out, cell_stay E1.out HB3.out, cell_stay E2.out HB3.out, cell_stay E3.out HB3.out, cell_stay E4.out HB3.out, cell_stay E5.out HB3.out⟩ (fun hHeld => ?_)
              clear hK K
              try simp only [Act.put, List.setIfInBounds_toArray, List.set_cons_zero, List.set_cons_succ]
              refine wpAnyH_take (i := 21) (v := ?v31) (by simp only [List.getElem?_toArray, List.getElem?_cons_succ, List.getElem?_cons_zero]; rfl) (by kernel_rfl) (by kernel_rfl) (by kernel_rfl) (by exact fun _ _ _ h => h) (Or.inl ⟨by rfl, fun w9 hS9 => ?hy31⟩) hHeld ?rest31
              case hy31 =>
                dsimp only at hS9
                obtain ⟨s0, s1, s2, s3, s4, s5⟩ := hS9
                go_simp
                try with_reducible rfl
              try simp only [Act.put, List.setIfInBounds_toArray, List.set_cons_zero, List.set_cons_succ]
              refine wpAnyH_take (i := 22) (v := ?v32) (by simp only [List.getElem?_toArray, List.getElem?_cons_succ, List.getElem?_cons_zero]; rfl) (by kernel_rfl) (by kernel_rfl) (by kernel_rfl) (by exact fun _ _ _ h => h) (Or.inl ⟨by rfl, fun w9 hS9 => ?hy32⟩) hHeld ?rest32
              case hy32 =>
                dsimp only at hS9
                obtain ⟨s0, s1, s2, s3, s4, s5⟩ := hS9
                go_simp
                try with_reducible rfl
              try simp only [Act.put, List.setIfInBounds_toArray, List.set_cons_zero, List.set_cons_succ]
              refine wpAnyH_take (i := 23) (v := undef) (by simp only [List.getElem?_toArray, List.getElem?_cons_succ, List.getElem?_cons_zero]; rfl) (by kernel_rfl) (by kernel_rfl) (by kernel_rfl) (by exact fun _ _ _ h => h) (Or.inr ⟨by rfl, rfl⟩) hHeld ?_
              try simp only [Act.put, List.setIfInBounds_toArray, List.set_cons_zero, List.set_cons_succ]
              refine wpAnyH_take (i := 24) (v := undef) (by simp only [List.getElem?_toArray, List.getElem?_cons_succ, List.getElem?_cons_zero]; rfl) (by kernel_rfl) (by kernel_rfl) (by kernel_rfl) (by exact fun _ _ _ h => h) (Or.inr ⟨by rfl, rfl⟩) hHeld ?_
              try simp only [Act.put, List.setIfInBounds_toArray, List.set_cons_zero, List.set_cons_succ]
              refine wpAnyH_take (i := 25) (v := undef) (by simp only [List.getElem?_toArray, List.getElem?_cons_succ, List.getElem?_cons_zero]; rfl) (by kernel_rfl) (by kernel_rfl) (by kernel_rfl) (by exact fun _ _ _ h => h) (Or.inr ⟨by rfl, rfl⟩) hHeld ?_
              try simp only [Act.put, List.setIfInBounds_toArray, List.set_cons_zero, List.set_cons_succ]
              refine wpAnyH_take (i := 26) (v := undef) (by simp only [List.getElem?_toArray, List.getElem?_cons_succ, List.getElem?_cons_zero]; rfl) (by kernel_rfl) (by kernel_rfl) (by kernel_rfl) (by exact fun _ _ _ h => h) (Or.inr ⟨by rfl, rfl⟩) hHeld ?_
              try simp only [Act.put, List.setIfInBounds_toArray, List.set_cons_zero, List.set_cons_succ]
              refine wpAnyH_take (i := 27) (v := undef) (by simp only [List.getElem?_toArray, List.getElem?_cons_succ, List.getElem?_cons_zero]; rfl) (by kernel_rfl) (by kernel_rfl) (by kernel_rfl) (by exact fun _ _ _ h => h) (Or.inr ⟨by rfl, rfl⟩) hHeld ?_
              try simp only [Act.put, List.setIfInBounds_toArray, List.set_cons_zero, List.set_cons_succ]
              refine wpAnyH_take (i := 28) (v := undef) (by simp only [List.getElem?_toArray, List.getElem?_cons_succ, List.getElem?_cons_zero]; rfl) (by kernel_rfl) (by kernel_rfl) (by kernel_rfl) (by exact fun _ _ _ h => h) (Or.inr ⟨by rfl, rfl⟩) hHeld ?_
              try simp only [Act.put, List.setIfInBounds_toArray, List.set_cons_zero, List.set_cons_succ]
              refine wpAnyH_take (i := 29) (v := undef) (by simp only [List.getElem?_toArray, List.getElem?_cons_succ, List.getElem?_cons_zero]; rfl) (by kernel_rfl) (by kernel_rfl) (by kernel_rfl) (by exact fun _ _ _ h => h) (Or.inr ⟨by rfl, rfl⟩) hHeld ?_
              try simp only [Act.put, List.setIfInBounds_toArray, List.set_cons_zero, List.set_cons_succ]
              refine wpAnyH_take (i := 30) (v := undef) (by simp only [List.getElem?_toArray, List.getElem?_cons_succ, List.getElem?_cons_zero]; rfl) (by kernel_rfl) (by kernel_rfl) (by kernel_rfl) (by exact fun _ _ _ h => h) (Or.inr ⟨by rfl, rfl⟩) hHeld ?_
              try simp only [Act.put, List.setIfInBounds_toArray, List.set_cons_zero, List.set_cons_succ]
              refine wpAnyH_take (i := 31) (v := undef) (by simp only [List.getElem?_toArray, List.getElem?_cons_succ, List.getElem?_cons_zero]; rfl) (by kernel_rfl) (by kernel_rfl) (by kernel_rfl) (by exact fun _ _ _ h => h) (Or.inr ⟨by rfl, rfl⟩) hHeld ?_
              try simp only [Act.put, List.setIfInBounds_toArray, List.set_cons_zero, List.set_cons_succ]
              refine wpAnyH_take (i := 32) (v := undef) (by simp only [List.getElem?_toArray, List.getElem?_cons_succ, List.getElem?_cons_zero]; rfl) (by kernel_rfl) (by kernel_rfl) (by kernel_rfl) (by exact fun _ _ _ h => h) (Or.inr ⟨by rfl, rfl⟩) hHeld ?_
              try simp only [Act.put, List.setIfInBounds_toArray, List.set_cons_zero, List.set_cons_succ]
              refine wpAnyH_take (i := 33) (v := undef) (by simp only [List.getElem?_toArray, List.getElem?_cons_succ, List.getElem?_cons_zero]; rfl) (by kernel_rfl) (by kernel_rfl) (by kernel_rfl) (by exact fun _ _ _ h => h) (Or.inr ⟨by rfl, rfl⟩) hHeld ?_
              try simp only [Act.put, List.setIfInBounds_toArray, List.set_cons_zero, List.set_cons_succ]
              refine wpAnyH_take (i := 34) (v := undef) (by simp only [List.getElem?_toArray, List.getElem?_cons_succ, List.getElem?_cons_zero]; rfl) (by kernel_rfl) (by kernel_rfl) (by kernel_rfl) (by exact fun _ _ _ h => h) (Or.inr ⟨by rfl, rfl⟩) hHeld ?_
              try simp only [Act.put, List.setIfInBounds_toArray, List.set_cons_zero, List.set_cons_succ]
              refine wpAnyH_take (i := 35) (v := undef) (by simp only [List.getElem?_toArray, List.getElem?_cons_succ, List.getElem?_cons_zero]; rfl) (by kernel_rfl) (by kernel_rfl) (by kernel_rfl) (by exact fun _ _ _ h => h) (Or.inr ⟨by rfl, rfl⟩) hHeld ?_
              try simp only [Act.put, List.setIfInBounds_toArray, List.set_cons_zero, List.set_cons_succ]
              refine wpAnyH_take (i := 36) (v := undef) (by simp only [List.getElem?_toArray, List.getElem?_cons_succ, List.getElem?_cons_zero]; rfl) (by kernel_rfl) (by kernel_rfl) (by kernel_rfl) (by exact fun _ _ _ h => h) (Or.inr ⟨by rfl, rfl⟩) hHeld ?_
              try simp only [Act.put, List.setIfInBounds_toArray, List.set_cons_zero, List.set_cons_succ]
              refine wpAnyH_take (i := 37) (v := undef) (by simp only [List.getElem?_toArray, List.getElem?_cons_succ, List.getElem?_cons_zero]; rfl) (by kernel_rfl) (by kernel_rfl) (by kernel_rfl) (by exact fun _ _ _ h => h) (Or.inr ⟨by rfl, rfl⟩) hHeld ?_
              try simp only [Act.put, List.setIfInBounds_toArray, List.set_cons_zero, List.set_cons_succ]
              refine wpAnyH_take (i := 38) (v := ?v48) (by simp only [List.getElem?_toArray, List.getElem?_cons_succ, List.getElem?_cons_zero]; rfl) (by kernel_rfl) (by kernel_rfl) (by kernel_rfl) (by exact fun _ _ _ h => h) (Or.inl ⟨by rfl, fun w9 hS9 => ?hy48⟩) hHeld ?rest48
              case hy48 =>
                dsimp only at hS9
                obtain ⟨s0, s1, s2, s3, s4, s5⟩ := hS9
                go_simp
                try with_reducible rfl
              try simp only [Act.put, List.setIfInBounds_toArray, List.set_cons_zero, List.set_cons_succ]
              refine wpAnyH_take (i := 39) (v := ?v49) (by simp only [List.getElem?_toArray, List.getElem?_cons_succ, List.getElem?_cons_zero]; rfl) (by kernel_rfl) (by kernel_rfl) (by kernel_rfl) (by exact fun _ _ _ h => h) (Or.inl ⟨by rfl, fun w9 hS9 => ?hy49⟩) hHeld ?rest49
              case hy49 =>
                dsimp only at hS9
                obtain ⟨s0, s1, s2, s3, s4, s5⟩ := hS9
                go_simp
                try with_reducible rfl
              try simp only [Act.put, List.setIfInBounds_toArray, List.set_cons_zero, List.set_cons_succ]
              refine wpAnyH_done (by kernel_rfl) ?_ _
              have HBX := Lib.hid (HB.out.trans (HB3.out.mono HB.out.size))
              go_wp2_with fail
              go_roundw
              case rel => exact ⟨j + 1, by omega, by go_num, HST.out, HBX.out⟩
              case measure => simp [intOf]; omega
            | false =>
              have HE := Lib.hid (fitsFmt_no HX.out HY.out (by rw [fitsAt_there ht]; exact hv))
              have KV := Lib.hid (fun (w0 : World) (h0 : Nums .i64 w0 p q y) => specFitsField_any ⟨xk, xm, xt, xi⟩ k p q g y w0 h0)
              rw [hv] at KV
              unfold Fd.val at KV
              clear ht hv
              go_wp2_with fail
              have HBd : Hid (Below wr.heap.size wr wr.drew) := Lib.hid (Below.refl _ _).drew
              refine wp_region_held_drew (S := (fun w' => w'.cell? ⟨bv, ov + j * 2, none⟩ = some (.int .i64 k) ∧ w'.cell? ⟨bv, ov + j * 2 + 1, none⟩ = some (.slice p q g) ∧ w'.cell? ⟨bl, ol + j * 4, none⟩ = some (.int .i64 xk) ∧ w'.cell? ⟨bl, ol + j * 4 + 1, none⟩ = some (.int .i64 xm) ∧ w'.cell? ⟨bl, ol + j * 4 + 2, none⟩ = some (.int .i64 xt) ∧ w'.cell? ⟨bl, ol + j * 4 + 3, none⟩ = some (.int .i64 xi))) (by kernel_rfl) ⟨cell_stay E0.out HBd.out, cell_stay E1.out HBd.out, cell_stay E2.out HBd.out, cell_stay E3.out HBd.out, cell_stay E4.out HBd.out, cell_stay E5.out HBd.out⟩ (fun hHeld => ?_)
              refine wpAnyH_take (i := 0) (v := ?v50) (by simp only [List.getElem?_toArray, List.getElem?_cons_succ, List.getElem?_cons_zero]; rfl) (by kernel_rfl) (by kernel_rfl) (by kernel_rfl) (by exact fun _ _ _ h => h) (Or.inl ⟨by rfl, fun w9 hS9 => ?hy50⟩) hHeld ?rest50
              case hy50 =>
                dsimp only at hS9
                obtain ⟨s0, s1, s2, s3, s4, s5⟩ := hS9
                go_simp
                try with_reducible rfl
              try simp only [Act.put, List.setIfInBounds_toArray, List.set_cons_zero, List.set_cons_succ]
              refine wpAnyH_take (i := 1) (v := ?v51) (by simp only [List.getElem?_toArray, List.getElem?_cons_succ, List.getElem?_cons_zero]; rfl) (by kernel_rfl) (by kernel_rfl) (by kernel_rfl) (by exact fun _ _ _ h => h) (Or.inl ⟨by rfl, fun w9 hS9 => ?hy51⟩) hHeld ?rest51
              case hy51 =>
                dsimp only at hS9
                obtain ⟨s0, s1, s2, s3, s4, s5⟩ := hS9
                go_simp
                try with_reducible rfl
              try simp only [Act.put, List.setIfInBounds_toArray, List.set_cons_zero, List.set_cons_succ]
              refine wpAnyH_take (i := 2) (v := ?v52) (by simp only [List.getElem?_toArray, List.getElem?_cons_succ, List.getElem?_cons_zero]; rfl) (by kernel_rfl) (by kernel_rfl) (by kernel_rfl) (by exact fun _ _ _ h => h) (Or.inl ⟨by rfl, fun w9 hS9 => ?hy52⟩) hHeld ?rest52
              case hy52 =>
                dsimp only at hS9
                obtain ⟨s0, s1, s2, s3, s4, s5⟩ := hS9
                go_simp
                try with_reducible rfl
              try simp only [Act.put, List.setIfInBounds_toArray, List.set_cons_zero, List.set_cons_succ]
              refine wpAnyH_ready (rs := [3]) (by kernel_rfl) (by simp) (AllReadyH.cons (by simp only [List.getElem?_toArray, List.getElem?_cons_succ, List.getElem?_cons_zero]; rfl) (fun K hK => ?_) AllReadyH.nil)
              go_simp
              refine (KT1.out _ (HB.out.trans (HBd.out.mono HB.out.size))).mono ?_
              rintro e w1 ⟨rfl, hb1⟩
              have HB1 : Hid (Below wr.heap.size wr w1) := Lib.hid (HBd.out.trans (hb1.mono HBd.out.size))
              clear hb1
              go_wp2_with fail
              refine hK.out _ _ ⟨cell_stay E0.out HB1.out, cell_stay E1.out HB1.out, cell_stay E2.out HB1.out, cell_stay E3.out HB1.out, cell_stay E4.out HB1.out, cell_stay E5.out HB1.out⟩ (fun hHeld => ?_)
              clear hK K
              try simp only [Act.put, List.setIfInBounds_toArray, List.set_cons_zero, List.set_cons_succ]
              refine wpAnyH_take (i := 4) (v := ?v53) (by simp only [List.getElem?_toArray, List.getElem?_cons_succ, List.getElem?_cons_zero]; rfl) (by kernel_rfl) (by kernel_rfl) (by kernel_rfl) (by exact fun _ _ _ h => h) (Or.inl ⟨by rfl, fun w9 hS9 => ?hy53⟩) hHeld ?rest53
              case hy53 =>
                dsimp only at hS9
                obtain ⟨s0, s1, s2, s3, s4, s5⟩ := hS9
                go_simp
                try with_reducible rfl
              try simp only [Act.put, List.setIfInBounds_toArray, List.set_cons_zero, List.set_cons_succ]
              refine wpAnyH_take (i := 5) (v := ?v54) (by simp only [List.getElem?_toArray, List.getElem?_cons_succ, List.getElem?_cons_zero]; rfl) (by kernel_rfl) (by kernel_rfl) (by kernel_rfl) (by exact fun _ _ _ h => h) (Or.inl ⟨by rfl, fun w9 hS9 => ?hy54⟩) hHeld ?rest54
              case hy54 =>
                dsimp only at hS9
                obtain ⟨s0, s1, s2, s3, s4, s5⟩ := hS9
                go_simp
                try with_reducible rfl
              try simp only [Act.put, List.setIfInBounds_toArray, List.set_cons_zero, List.set_cons_succ]
              refine wpAnyH_take (i := 6) (v := ?v55) (by simp only [List.getElem?_toArray, List.getElem?_cons_succ, List.getElem?_cons_zero]; rfl) (by kernel_rfl) (by kernel_rfl) (by kernel_rfl) (by exact fun _ _ _ h => h) (Or.inl ⟨by rfl, fun w9 hS9 => ?hy55⟩) hHeld ?rest55
              case hy55 =>
                dsimp only at hS9
                obtain ⟨s0, s1, s2, s3, s4, s5⟩ := hS9
                go_simp
                try with_reducible rfl
              try simp only [Act.put, List.setIfInBounds_toArray, List.set_cons_zero, List.set_cons_succ]
              refine wpAnyH_take (i := 7) (v := ?v56) (by simp only [List.getElem?_toArray, List.getElem?_cons_succ, List.getElem?_cons_zero]; rfl) (by kernel_rfl) (by kernel_rfl) (by kernel_rfl) (by exact fun _ _ _ h => h) (Or.inl ⟨by rfl, fun w9 hS9 => ?hy56⟩) hHeld ?rest56
              case hy56 =>
                dsimp only at hS9
                obtain ⟨s0, s1, s2, s3, s4, s5⟩ := hS9
                go_simp
                try with_reducible rfl
              try simp only [Act.put, List.setIfInBounds_toArray, List.set_cons_zero, List.set_cons_succ]
              refine wpAnyH_take (i := 8) (v := ?v57) (by simp only [List.getElem?_toArray, List.getElem?_cons_succ, List.getElem?_cons_zero]; rfl) (by kernel_rfl) (by kernel_rfl) (by kernel_rfl) (by exact fun _ _ _ h => h) (Or.inl ⟨by rfl, fun w9 hS9 => ?hy57⟩) hHeld ?rest57
              case hy57 =>
                dsimp only at hS9
                obtain ⟨s0, s1, s2, s3, s4, s5⟩ := hS9
                go_simp
                try with_reducible rfl
              try simp only [Act.put, List.setIfInBounds_toArray, List.set_cons_zero, List.set_cons_succ]
              refine wpAnyH_take (i := 9) (v := ?v58) (by simp only [List.getElem?_toArray, List.getElem?_cons_succ, List.getElem?_cons_zero]; rfl) (by kernel_rfl) (by kernel_rfl) (by kernel_rfl) (by exact fun _ _ _ h => h) (Or.inl ⟨by rfl, fun w9 hS9 => ?hy58⟩) hHeld ?rest58
              case hy58 =>
                dsimp only at hS9
                obtain ⟨s0, s1, s2, s3, s4, s5⟩ := hS9
                go_simp
                try with_reducible rfl
              try simp only [Act.put, List.setIfInBounds_toArray, List.set_cons_zero, List.set_cons_succ]
              refine wpAnyH_take (i := 10) (v := ?v59) (by simp only [List.getElem?_toArray, List.getElem?_cons_succ, List.getElem?_cons_zero]; rfl) (by kernel_rfl) (by kernel_rfl) (by kernel_rfl) (by exact fun _ _ _ h => h) (Or.inl ⟨by rfl, fun w9 hS9 => ?hy59⟩) hHeld ?rest59
              case hy59 =>
                dsimp only at hS9
                obtain ⟨s0, s1, s2, s3, s4, s5⟩ := hS9
                go_simp
                try with_reducible rfl
              try simp only [Act.put, List.setIfInBounds_toArray, List.set_cons_zero, List.set_cons_succ]
              refine wpAnyH_take (i := 11) (v := ?v60) (by simp only [List.getElem?_toArray, List.getElem?_cons_succ, List.getElem?_cons_zero]; rfl) (by kernel_rfl) (by kernel_rfl) (by kernel_rfl) (by exact fun _ _ _ h => h) (Or.inl ⟨by rfl, fun w9 hS9 => ?hy60⟩) hHeld ?rest60
              case hy60 =>
                dsimp only at hS9
                obtain ⟨s0, s1, s2, s3, s4, s5⟩ := hS9
                go_simp
                try with_reducible rfl
              try simp only [Act.put, List.setIfInBounds_toArray, List.set_cons_zero, List.set_cons_succ]
              refine wpAnyH_take (i := 12) (v := ?v61) (by simp only [List.getElem?_toArray, List.getElem?_cons_succ, List.getElem?_cons_zero]; rfl) (by kernel_rfl) (by kernel_rfl) (by kernel_rfl) (by exact fun _ _ _ h => h) (Or.inl ⟨by rfl, fun w9 hS9 => ?hy61⟩) hHeld ?rest61
              case hy61 =>
                dsimp only at hS9
                obtain ⟨s0, s1, s2, s3, s4, s5⟩ := hS9
                go_simp
                try with_reducible rfl
              try simp only [Act.put, List.setIfInBounds_toArray, List.set_cons_zero, List.set_cons_succ]
              refine wpAnyH_ready (rs := [13]) (by kernel_rfl) (by simp) (AllReadyH.cons (by simp only [List.getElem?_toArray, List.getElem?_cons_succ, List.getElem?_cons_zero]; rfl) (fun K hK => ?_) AllReadyH.nil)
              go_simp
              refine (KV.out _ (HN.out.same HB1.out)).mono ?_
              rintro e w2 ⟨rfl, hb2⟩
              have HB2 : Hid (Below wr.heap.size wr w2) := Lib.hid (HB1.out.trans (hb2.mono HB1.out.size))
              clear hb2
              go_wp2_with fail
              refine hK.out _ _ ⟨cell_stay E0.out HB2.out, cell_stay E1.out HB2.out, cell_stay E2.out HB2.out, cell_stay E3.out HB2.out, cell_stay E4.out HB2.out, cell_stay E5.out HB2.out⟩ (fun hHeld => ?_)
              clear hK K
              try simp only [Act.put, List.setIfInBounds_toArray, List.set_cons_zero, List.set_cons_succ]
              refine wpAnyH_take (i := 14) (v := ?v62) (by simp only [List.getElem?_toArray, List.getElem?_cons_succ, List.getElem?_cons_zero]; rfl) (by kernel_rfl) (by kernel_rfl) (by kernel_rfl) (by exact fun _ _ _ h => h) (Or.inl ⟨by rfl, fun w9 hS9 => ?hy62⟩) hHeld ?rest62
              case hy62 =>
                dsimp only at hS9
                obtain ⟨s0, s1, s2, s3, s4, s5⟩ := hS9
                go_simp
                try with_reducible rfl
              try simp only [Act.put, List.setIfInBounds_toArray, List.set_cons_zero, List.set_cons_succ]
              refine wpAnyH_take (i := 15) (v := ?v63) (by simp only [List.getElem?_toArray, List.getElem?_cons_succ, List.getElem?_cons_zero]; rfl) (by kernel_rfl) (by kernel_rfl) (by kernel_rfl) (by exact fun _ _ _ h => h) (Or.inl ⟨by rfl, fun w9 hS9 => ?hy63⟩) hHeld ?rest63
              case hy63 =>
                dsimp only at hS9
                obtain ⟨s0, s1, s2, s3, s4, s5⟩ := hS9
                go_simp
                try with_reducible rfl
              try simp only [Act.put, List.setIfInBounds_toArray, List.set_cons_zero, List.set_cons_succ]
              refine wpAnyH_take (i := 16) (v := ?v64) (by simp only [List.getElem?_toArray, List.getElem?_cons_succ, List.getElem?_cons_zero]; rfl) (by kernel_rfl) (by kernel_rfl) (by kernel_rfl) (by exact fun _ _ _ h => h) (Or.inl ⟨by rfl, fun w9 hS9 => ?hy64⟩) hHeld ?rest64
              case hy64 =>
                dsimp only at hS9
                obtain ⟨s0, s1, s2, s3, s4, s5⟩ := hS9
                go_simp
                try with_reducible rfl
              try simp only [Act.put, List.setIfInBounds_toArray, List.set_cons_zero, List.set_cons_succ]
              refine wpAnyH_take (i := 17) (v := undef) (by simp only [List.getElem?_toArray, List.getElem?_cons_succ, List.getElem?_cons_zero]; rfl) (by kernel_rfl) (by kernel_rfl) (by kernel_rfl) (by exact fun _ _ _ h => h) (Or.inr ⟨by rfl, rfl⟩) hHeld ?_
              try simp only [Act.put, List.setIfInBounds_toArray, List.set_cons_zero, List.set_cons_succ]
              refine wpAnyH_take (i := 18) (v := undef) (by simp only [List.getElem?_toArray, List.getElem?_cons_succ, List.getElem?_cons_zero]; rfl) (by kernel_rfl) (by kernel_rfl) (by kernel_rfl) (by exact fun _ _ _ h => h) (Or.inr ⟨by rfl, rfl⟩) hHeld ?_
              try simp only [Act.put, List.setIfInBounds_toArray, List.set_cons_zero, List.set_cons_succ]
              refine wpAnyH_take (i := 19) (v := undef) (by simp only [List.getElem?_toArray, List.getElem?_cons_succ, List.getElem?_cons_zero]; rfl) (by kernel_rfl) (by kernel_rfl) (by kernel_rfl) (by exact fun _ _ _ h => h) (Or.inr ⟨by rfl, rfl⟩) hHeld ?_
              try simp only [Act.put, List.setIfInBounds_toArray, List.set_cons_zero, List.set_cons_succ]
              refine wpAnyH_take (i := 20) (v := undef) (by simp only [List.getElem?_toArray, List.getElem?_cons_succ, List.getElem?_cons_zero]; rfl) (by kernel_rfl) (by kernel_rfl) (by kernel_rfl) (by exact fun _ _ _ h => h) (Or.inr ⟨by rfl, rfl⟩) hHeld ?_
              try simp only [Act.put, List.setIfInBounds_toArray, List.set_cons_zero, List.set_cons_succ]
              refine wpAnyH_take (i := 21) (v := undef) (by simp only [List.getElem?_toArray, List.getElem?_cons_succ, List.getElem?_cons_zero]; rfl) (by kernel_rfl) (by kernel_rfl) (by kernel_rfl) (by exact fun _ _ _ h => h) (Or.inr ⟨by rfl, rfl⟩) hHeld ?_
              try simp only [Act.put, List.setIfInBounds_toArray, List.set_cons_zero, List.set_cons_succ]
              refine wpAnyH_take (i := 22) (v := undef) (by simp only [List.getElem?_toArray, List.getElem?_cons_succ, List.getElem?_cons_zero]; rfl) (by kernel_rfl) (by kernel_rfl) (by kernel_rfl) (by exact fun _ _ _ h => h) (Or.inr ⟨by rfl, rfl⟩) hHeld ?_
              try simp only [Act.put, List.setIfInBounds_toArray, List.set_cons_zero, List.set_cons_succ]
              refine wpAnyH_take (i := 23) (v := undef) (by simp only [List.getElem?_toArray, List.getElem?_cons_succ, List.getElem?_cons_zero]; rfl) (by kernel_rfl) (by kernel_rfl) (by kernel_rfl) (by exact fun _ _ _ h => h) (Or.inr ⟨by rfl, rfl⟩) hHeld ?_
              try simp only [Act.put, List.setIfInBounds_toArray, List.set_cons_zero, List.set_cons_succ]
              refine wpAnyH_take (i := 24) (v := undef) (by simp only [List.getElem?_toArray, List.getElem?_cons_succ, List.getElem?_cons_zero]; rfl) (by kernel_rfl) (by kernel_rfl) (by kernel_rfl) (by exact fun _ _ _ h => h) (Or.inr ⟨by rfl, rfl⟩) hHeld ?_
              try simp only [Act.put, List.setIfInBounds_toArray, List.set_cons_zero, List.set_cons_succ]
              refine wpAnyH_take (i := 25) (v := undef) (by simp only [List.getElem?_toArray, List.getElem?_cons_succ, List.getElem?_cons_zero]; rfl) (by kernel_rfl) (by kernel_rfl) (by kernel_rfl) (by exact fun _ _ _ h => h) (Or.inr ⟨by rfl, rfl⟩) hHeld ?_
              try simp only [Act.put, List.setIfInBounds_toArray, List.set_cons_zero, List.set_cons_succ]
              refine wpAnyH_take (i := 26) (v := undef) (by simp only [List.getElem?_toArray, List.getElem?_cons_succ, List.getElem?_cons_zero]; rfl) (by kernel_rfl) (by kernel_rfl) (by kernel_rfl) (by exact fun _ _ _ h => h) (Or.inr ⟨by rfl, rfl⟩) hHeld ?_
              try simp only [Act.put, List.setIfInBounds_toArray, List.set_cons_zero, List.set_cons_succ]
              refine wpAnyH_take (i := 27) (v := undef) (by simp only [List.getElem?_toArray, List.getElem?_cons_succ, List.getElem?_cons_zero]; rfl) (by kernel_rfl) (by kernel_rfl) (by kernel_rfl) (by exact fun _ _ _ h => h) (Or.inr ⟨by rfl, rfl⟩) hHeld ?_
              try simp only [Act.put, List.setIfInBounds_toArray, List.set_cons_zero, List.set_cons_succ]
              refine wpAnyH_take (i := 28) (v := undef) (by simp only [List.getElem?_toArray, List.getElem?_cons_succ, List.getElem?_cons_zero]; rfl) (by kernel_rfl) (by kernel_rfl) (by kernel_rfl) (by exact fun _ _ _ h => h) (Or.inr ⟨by rfl, rfl⟩) hHeld ?_
              try simp only [Act.put, List.setIfInBounds_toArray, List.set_cons_zero, List.set_cons_succ]
              refine wpAnyH_take (i := 29) (v := undef) (by simp only [List.getElem?_toArray, List.getElem?_cons_succ, List.getElem?_cons_zero]; rfl) (by kernel_rfl) (by kernel_rfl) (by kernel_rfl) (by exact fun _ _ _ h => h) (Or.inr ⟨by rfl, rfl⟩) hHeld ?_
              try simp only [Act.put, List.setIfInBounds_toArray, List.set_cons_zero, List.set_cons_succ]
              refine wpAnyH_take (i := 30) (v := undef) (by simp only [List.getElem?_toArray, List.getElem?_cons_succ, List.getElem?_cons_zero]; rfl) (by kernel_rfl) (by kernel_rfl) (by kernel_rfl) (by exact fun _ _ _ h => h) (Or.inr ⟨by rfl, rfl⟩) hHeld ?_
              try simp only [Act.put, List.setIfInBounds_toArray, List.set_cons_zero, List.set_cons_succ]
              refine wpAnyH_take (i := 31) (v := undef) (by simp only [List.getElem?_toArray, List.getElem?_cons_succ, List.getElem?_cons_zero]; rfl) (by kernel_rfl) (by kernel_rfl) (by kernel_rfl) (by exact fun _ _ _ h => h) (Or.inr ⟨by rfl, rfl⟩) hHeld ?_
              try simp only [Act.put, List.setIfInBounds_toArray, List.set_cons_zero, List.set_cons_succ]
              refine wpAnyH_take (i := 32) (v := undef) (by simp only [List.getElem?_toArray, List.getElem?_cons_succ, List.getElem?_cons_zero]; rfl) (by kernel_rfl) (by kernel_rfl) (by kernel_rfl) (by exact fun _ _ _ h => h) (Or.inr ⟨by rfl, rfl⟩) hHeld ?_
              try simp only [Act.put, List.setIfInBounds_toArray, List.set_cons_zero, List.set_cons_succ]
              refine wpAnyH_take (i := 33) (v := undef) (by simp only [List.getElem?_toArray, List.getElem?_cons_succ, List.getElem?_cons_zero]; rfl) (by kernel_rfl) (by kernel_rfl) (by kernel_rfl) (by exact fun _ _ _ h => h) (Or.inr ⟨by rfl, rfl⟩) hHeld ?_
              try simp only [Act.put, List.setIfInBounds_toArray, List.set_cons_zero, List.set_cons_succ]
              refine wpAnyH_take (i := 34) (v := undef) (by simp only [List.getElem?_toArray, List.getElem?_cons_succ, List.getElem?_cons_zero]; rfl) (by kernel_rfl) (by kernel_rfl) (by kernel_rfl) (by exact fun _ _ _ h => h) (Or.inr ⟨by rfl, rfl⟩) hHeld ?_
              try simp only [Act.put, List.setIfInBounds_toArray, List.set_cons_zero, List.set_cons_succ]
              refine wpAnyH_take (i := 35) (v := undef) (by simp only [List.getElem?_toArray, List.getElem?_cons_succ, List.getElem?_cons_zero]; rfl) (by kernel_rfl) (by kernel_rfl) (by kernel_rfl) (by exact fun _ _ _ h => h) (Or.inr ⟨by rfl, rfl⟩) hHeld ?_
              try simp only [Act.put, List.setIfInBounds_toArray, List.set_cons_zero, List.set_cons_succ]
              refine wpAnyH_take (i := 36) (v := undef) (by simp only [List.getElem?_toArray, List.getElem?_cons_succ, List.getElem?_cons_zero]; rfl) (by kernel_rfl) (by kernel_rfl) (by kernel_rfl) (by exact fun _ _ _ h => h) (Or.inr ⟨by rfl, rfl⟩) hHeld ?_
              try simp only [Act.put, List.setIfInBounds_toArray, List.set_cons_zero, List.set_cons_succ]
              refine wpAnyH_take (i := 37) (v := undef) (by simp only [List.getElem?_toArray, List.getElem?_cons_succ, List.getElem?_cons_zero]; rfl) (by kernel_rfl) (by kernel_rfl) (by kernel_rfl) (by exact fun _ _ _ h => h) (Or.inr ⟨by rfl, rfl⟩) hHeld ?_
              try simp only [Act.put, List.setIfInBounds_toArray, List.set_cons_zero, List.set_cons_succ]
              refine wpAnyH_take (i := 38) (v := undef) (by simp only [List.getElem?_toArray, List.getElem?_cons_succ, List.getElem?_cons_zero]; rfl) (by kernel_rfl) (by kernel_rfl) (by kernel_rfl) (by exact fun _ _ _ h => h) (Or.inr ⟨by rfl, rfl⟩) hHeld ?_
              try simp only [Act.put, List.setIfInBounds_toArray, List.set_cons_zero, List.set_cons_succ]
              refine wpAnyH_take (i := 39) (v := ?v87) (by simp only [List.getElem?_toArray, List.getElem?_cons_succ, List.getElem?_cons_zero]; rfl) (by kernel_rfl) (by kernel_rfl) (by kernel_rfl) (by exact fun _ _ _ h => h) (Or.inl ⟨by rfl, fun w9 hS9 => ?hy87⟩) hHeld ?rest87
              case hy87 =>
                dsimp only at hS9
                obtain ⟨s0, s1, s2, s3, s4, s5⟩ := hS9
                go_simp
                try with_reducible rfl
              try simp only [Act.put, List.setIfInBounds_toArray, List.set_cons_zero, List.set_cons_succ]
              refine wpAnyH_done (by kernel_rfl) ?_ _
              have HBX := Lib.hid (HB.out.trans (HB2.out.mono HB.out.size))
              go_wp2_with fail
              go_ret
              exact ⟨by rw [HE.out]; rfl, HBX.out⟩
          | false =>
            have KT1 := Lib.hid (fun w0 hb => KT.out j w0 hb)
            rw [ht] at KT1
            by_cases hk : k = 0
            · have bk : (k != 0) = false := by simpa using hk
              by_cases hyy : y = []
              · have hq0 : q = 0 := by rw [← HN.out.len, hyy]; rfl
                have HST := Lib.hid (fitsTo_step HFT.out HX.out HY.out (by rw [fitsAt_not ht]; dsimp only; rw [hk, hyy]; rfl))
                clear ht hk hyy
                subst hq0
                go_wp2_with fail
                have HBd : Hid (Below wr.heap.size wr wr.drew) := Lib.hid (Below.refl _ _).drew
                refine wp_region_held_drew (S := (fun w' => w'.cell? ⟨bv, ov + j * 2, none⟩ = some (.int .i64 k) ∧ w'.cell? ⟨bv, ov + j * 2 + 1, none⟩ = some (.slice p 0 g) ∧ w'.cell? ⟨bl, ol + j * 4, none⟩ = some (.int .i64 xk) ∧ w'.cell? ⟨bl, ol + j * 4 + 1, none⟩ = some (.int .i64 xm) ∧ w'.cell? ⟨bl, ol + j * 4 + 2, none⟩ = some (.int .i64 xt) ∧ w'.cell? ⟨bl, ol + j * 4 + 3, none⟩ = some (.int .i64 xi))) (by kernel_rfl) ⟨cell_stay E0.out HBd.out, cell_stay E1.out HBd.out, cell_stay E2.out HBd.out, cell_stay E3.out HBd.out, cell_stay E4.out HBd.out, cell_stay E5.out HBd.out⟩ (fun hHeld => ?_)
                refine wpAnyH_take (i := 0) (v := ?v88) (by simp only [List.getElem?_toArray, List.getElem?_cons_succ, List.getElem?_cons_zero]; rfl) (by kernel_rfl) (by kernel_rfl) (by kernel_rfl) (by exact fun _ _ _ h => h) (Or.inl ⟨by rfl, fun w9 hS9 => ?hy88⟩) hHeld ?rest88
                case hy88 =>
                  dsimp only at hS9
                  obtain ⟨s0, s1, s2, s3, s4, s5⟩ := hS9
                  go_simp
                  try with_reducible rfl
                try simp only [Act.put, List.setIfInBounds_toArray, List.set_cons_zero, List.set_cons_succ]
                refine wpAnyH_take (i := 1) (v := ?v89) (by simp only [List.getElem?_toArray, List.getElem?_cons_succ, List.getElem?_cons_zero]; rfl) (by kernel_rfl) (by kernel_rfl) (by kernel_rfl) (by exact fun _ _ _ h => h) (Or.inl ⟨by rfl, fun w9 hS9 => ?hy89⟩) hHeld ?rest89
                case hy89 =>
                  dsimp only at hS9
                  obtain ⟨s0, s1, s2, s3, s4, s5⟩ := hS9
                  go_simp
                  try with_reducible rfl
                try simp only [Act.put, List.setIfInBounds_toArray, List.set_cons_zero, List.set_cons_succ]
                refine wpAnyH_take (i := 2) (v := ?v90) (by simp only [List.getElem?_toArray, List.getElem?_cons_succ, List.getElem?_cons_zero]; rfl) (by kernel_rfl) (by kernel_rfl) (by kernel_rfl) (by exact fun _ _ _ h => h) (Or.inl ⟨by rfl, fun w9 hS9 => ?hy90⟩) hHeld ?rest90
                case hy90 =>
                  dsimp only at hS9
                  obtain ⟨s0, s1, s2, s3, s4, s5⟩ := hS9
                  go_simp
                  try with_reducible rfl
                try simp only [Act.put, List.setIfInBounds_toArray, List.set_cons_zero, List.set_cons_succ]
                refine wpAnyH_ready (rs := [3]) (by kernel_rfl) (by simp) (AllReadyH.cons (by simp only [List.getElem?_toArray, List.getElem?_cons_succ, List.getElem?_cons_zero]; rfl) (fun K hK => ?_) AllReadyH.nil)
                go_simp
                refine (KT1.out _ (HB.out.trans (HBd.out.mono HB.out.size))).mono ?_
                rintro e w1 ⟨rfl, hb1⟩
                have HB1 : Hid (Below wr.heap.size wr w1) := Lib.hid (HBd.out.trans (hb1.mono HBd.out.size))
                clear hb1
                go_wp2_with fail
                refine hK.out _ _ ⟨cell_stay E0.out HB1.out, cell_stay E1.out HB1.out, cell_stay E2.out HB1.out, cell_stay E3.out HB1.out, cell_stay E4.out HB1.out, cell_stay E5.out HB1.out⟩ (fun hHeld => ?_)
                clear hK K
                try simp only [Act.put, List.setIfInBounds_toArray, List.set_cons_zero, List.set_cons_succ]
                refine wpAnyH_take (i := 4) (v := ?v91) (by simp only [List.getElem?_toArray, List.getElem?_cons_succ, List.getElem?_cons_zero]; rfl) (by kernel_rfl) (by kernel_rfl) (by kernel_rfl) (by exact fun _ _ _ h => h) (Or.inl ⟨by rfl, fun w9 hS9 => ?hy91⟩) hHeld ?rest91
                case hy91 =>
                  dsimp only at hS9
                  obtain ⟨s0, s1, s2, s3, s4, s5⟩ := hS9
                  go_simp
                  try with_reducible rfl
                try simp only [Act.put, List.setIfInBounds_toArray, List.set_cons_zero, List.set_cons_succ]
                refine wpAnyH_take (i := 5) (v := undef) (by simp only [List.getElem?_toArray, List.getElem?_cons_succ, List.getElem?_cons_zero]; rfl) (by kernel_rfl) (by kernel_rfl) (by kernel_rfl) (by exact fun _ _ _ h => h) (Or.inr ⟨by rfl, rfl⟩) hHeld ?_
                try simp only [Act.put, List.setIfInBounds_toArray, List.set_cons_zero, List.set_cons_succ]
                refine wpAnyH_take (i := 6) (v := undef) (by simp only [List.getElem?_toArray, List.getElem?_cons_succ, List.getElem?_cons_zero]; rfl) (by kernel_rfl) (by kernel_rfl) (by kernel_rfl) (by exact fun _ _ _ h => h) (Or.inr ⟨by rfl, rfl⟩) hHeld ?_
                try simp only [Act.put, List.setIfInBounds_toArray, List.set_cons_zero, List.set_cons_succ]
                refine wpAnyH_take (i := 7) (v := undef) (by simp only [List.getElem?_toArray, List.getElem?_cons_succ, List.getElem?_cons_zero]; rfl) (by kernel_rfl) (by kernel_rfl) (by kernel_rfl) (by exact fun _ _ _ h => h) (Or.inr ⟨by rfl, rfl⟩) hHeld ?_
                try simp only [Act.put, List.setIfInBounds_toArray, List.set_cons_zero, List.set_cons_succ]
                refine wpAnyH_take (i := 8) (v := undef) (by simp only [List.getElem?_toArray, List.getElem?_cons_succ, List.getElem?_cons_zero]; rfl) (by kernel_rfl) (by kernel_rfl) (by kernel_rfl) (by exact fun _ _ _ h => h) (Or.inr ⟨by rfl, rfl⟩) hHeld ?_
                try simp only [Act.put, List.setIfInBounds_toArray, List.set_cons_zero, List.set_cons_succ]
                refine wpAnyH_take (i := 9) (v := undef) (by simp only [List.getElem?_toArray, List.getElem?_cons_succ, List.getElem?_cons_zero]; rfl) (by kernel_rfl) (by kernel_rfl) (by kernel_rfl) (by exact fun _ _ _ h => h) (Or.inr ⟨by rfl, rfl⟩) hHeld ?_
                try simp only [Act.put, List.setIfInBounds_toArray, List.set_cons_zero, List.set_cons_succ]
                refine wpAnyH_take (i := 10) (v := undef) (by simp only [List.getElem?_toArray, List.getElem?_cons_succ, List.getElem?_cons_zero]; rfl) (by kernel_rfl) (by kernel_rfl) (by kernel_rfl) (by exact fun _ _ _ h => h) (Or.inr ⟨by rfl, rfl⟩) hHeld ?_
                try simp only [Act.put, List.setIfInBounds_toArray, List.set_cons_zero, List.set_cons_succ]
                refine wpAnyH_take (i := 11) (v := undef) (by simp only [List.getElem?_toArray, List.getElem?_cons_succ, List.getElem?_cons_zero]; rfl) (by kernel_rfl) (by kernel_rfl) (by kernel_rfl) (by exact fun _ _ _ h => h) (Or.inr ⟨by rfl, rfl⟩) hHeld ?_
                try simp only [Act.put, List.setIfInBounds_toArray, List.set_cons_zero, List.set_cons_succ]
                refine wpAnyH_take (i := 12) (v := undef) (by simp only [List.getElem?_toArray, List.getElem?_cons_succ, List.getElem?_cons_zero]; rfl) (by kernel_rfl) (by kernel_rfl) (by kernel_rfl) (by exact fun _ _ _ h => h) (Or.inr ⟨by rfl, rfl⟩) hHeld ?_
                try simp only [Act.put, List.setIfInBounds_toArray, List.set_cons_zero, List.set_cons_succ]
                refine wpAnyH_take (i := 13) (v := undef) (by simp only [List.getElem?_toArray, List.getElem?_cons_succ, List.getElem?_cons_zero]; rfl) (by kernel_rfl) (by kernel_rfl) (by kernel_rfl) (by exact fun _ _ _ h => h) (Or.inr ⟨by rfl, rfl⟩) hHeld ?_
                try simp only [Act.put, List.setIfInBounds_toArray, List.set_cons_zero, List.set_cons_succ]
                refine wpAnyH_take (i := 14) (v := undef) (by simp only [List.getElem?_toArray, List.getElem?_cons_succ, List.getElem?_cons_zero]; rfl) (by kernel_rfl) (by kernel_rfl) (by kernel_rfl) (by exact fun _ _ _ h => h) (Or.inr ⟨by rfl, rfl⟩) hHeld ?_
                try simp only [Act.put, List.setIfInBounds_toArray, List.set_cons_zero, List.set_cons_succ]
                refine wpAnyH_take (i := 15) (v := ?v102) (by simp only [List.getElem?_toArray, List.getElem?_cons_succ, List.getElem?_cons_zero]; rfl) (by kernel_rfl) (by kernel_rfl) (by kernel_rfl) (by exact fun _ _ _ h => h) (Or.inl ⟨by rfl, fun w9 hS9 => ?hy102⟩) hHeld ?rest102
                case hy102 =>
                  dsimp only at hS9
                  obtain ⟨s0, s1, s2, s3, s4, s5⟩ := hS9
                  go_simp
                  try with_reducible rfl
                try simp only [Act.put, List.setIfInBounds_toArray, List.set_cons_zero, List.set_cons_succ]
                refine wpAnyH_take (i := 16) (v := ?v103) (by simp only [List.getElem?_toArray, List.getElem?_cons_succ, List.getElem?_cons_zero]; rfl) (by kernel_rfl) (by kernel_rfl) (by kernel_rfl) (by exact fun _ _ _ h => h) (Or.inl ⟨by rfl, fun w9 hS9 => ?hy103⟩) hHeld ?rest103
                case hy103 =>
                  dsimp only at hS9
                  obtain ⟨s0, s1, s2, s3, s4, s5⟩ := hS9
                  go_simp
                  try with_reducible rfl
                try simp only [Act.put, List.setIfInBounds_toArray, List.set_cons_zero, List.set_cons_succ]
                refine wpAnyH_take (i := 17) (v := ?v104) (by simp only [List.getElem?_toArray, List.getElem?_cons_succ, List.getElem?_cons_zero]; rfl) (by kernel_rfl) (by kernel_rfl) (by kernel_rfl) (by exact fun _ _ _ h => h) (Or.inl ⟨by rfl, fun w9 hS9 => ?hy104⟩) hHeld ?rest104
                case hy104 =>
                  dsimp only at hS9
                  obtain ⟨s0, s1, s2, s3, s4, s5⟩ := hS9
                  go_simp
                  try with_reducible rfl
                try simp only [Act.put, List.setIfInBounds_toArray, List.set_cons_zero, List.set_cons_succ]
                refine wpAnyH_take (i := 18) (v := ?v105) (by simp only [List.getElem?_toArray, List.getElem?_cons_succ, List.getElem?_cons_zero]; rfl) (by kernel_rfl) (by kernel_rfl) (by kernel_rfl) (by exact fun _ _ _ h => h) (Or.inl ⟨by rfl, fun w9 hS9 => ?hy105⟩) hHeld ?rest105
                case hy105 =>
                  dsimp only at hS9
                  obtain ⟨s0, s1, s2, s3, s4, s5⟩ := hS9
                  go_simp
                  try with_reducible rfl
                try simp only [Act.put, List.setIfInBounds_toArray, List.set_cons_zero, List.set_cons_succ]
                refine wpAnyH_take (i := 19) (v := ?v106) (by simp only [List.getElem?_toArray, List.getElem?_cons_succ, List.getElem?_cons_zero]; rfl) (by kernel_rfl) (by kernel_rfl) (by kernel_rfl) (by exact fun _ _ _ h => h) (Or.inl ⟨by rfl, fun w9 hS9 => ?hy106⟩) hHeld ?rest106
                case hy106 =>
                  dsimp only at hS9
                  obtain ⟨s0, s1, s2, s3, s4, s5⟩ := hS9
                  go_simp
                  try with_reducible rfl
                try simp only [Act.put, List.setIfInBounds_toArray, List.set_cons_zero, List.set_cons_succ]
                refine wpAnyH_ready (rs := [20]) (by kernel_rfl) (by simp) (AllReadyH.cons (by simp only [List.getElem?_toArray, List.getElem?_cons_succ, List.getElem?_cons_zero]; rfl) (fun K hK => ?_) AllReadyH.nil)
                go_simp
                refine (KT1.out _ (HB.out.trans (HB1.out.mono HB.out.size))).mono ?_
                rintro e w2 ⟨rfl, hb2⟩
                have HB2 : Hid (Below wr.heap.size wr w2) := Lib.hid (HB1.out.trans (hb2.mono HB1.out.size))
                clear hb2
                go_wp2_with fail
                refine hK.out _ _ ⟨cell_stay E0.out HB2.out, cell_stay E1.out HB2.out, cell_stay E2.out HB2.out, cell_stay E3.out HB2.out, cell_stay E4.out HB2.out, cell_stay E5.out HB2.out⟩ (fun hHeld => ?_)
                clear hK K
                try simp only [Act.put, List.setIfInBounds_toArray, List.set_cons_zero, List.set_cons_succ]
                refine wpAnyH_take (i := 21) (v := ?v107) (by simp only [List.getElem?_toArray, List.getElem?_cons_succ, List.getElem?_cons_zero]; rfl) (by kernel_rfl) (by kernel_rfl) (by kernel_rfl) (by exact fun _ _ _ h => h) (Or.inl ⟨by rfl, fun w9 hS9 => ?hy107⟩) hHeld ?rest107
                case hy107 =>
                  dsimp only at hS9
                  obtain ⟨s0, s1, s2, s3, s4, s5⟩ := hS9
                  go_simp
                  try with_reducible rfl
                try simp only [Act.put, List.setIfInBounds_toArray, List.set_cons_zero, List.set_cons_succ]
                refine wpAnyH_take (i := 22) (v := ?v108) (by simp only [List.getElem?_toArray, List.getElem?_cons_succ, List.getElem?_cons_zero]; rfl) (by kernel_rfl) (by kernel_rfl) (by kernel_rfl) (by exact fun _ _ _ h => h) (Or.inl ⟨by rfl, fun w9 hS9 => ?hy108⟩) hHeld ?rest108
                case hy108 =>
                  dsimp only at hS9
                  obtain ⟨s0, s1, s2, s3, s4, s5⟩ := hS9
                  go_simp
                  try with_reducible rfl
                try simp only [Act.put, List.setIfInBounds_toArray, List.set_cons_zero, List.set_cons_succ]
                refine wpAnyH_take (i := 23) (v := ?v109) (by simp only [List.getElem?_toArray, List.getElem?_cons_succ, List.getElem?_cons_zero]; rfl) (by kernel_rfl) (by kernel_rfl) (by kernel_rfl) (by exact fun _ _ _ h => h) (Or.inl ⟨by rfl, fun w9 hS9 => ?hy109⟩) hHeld ?rest109
                case hy109 =>
                  dsimp only at hS9
                  obtain ⟨s0, s1, s2, s3, s4, s5⟩ := hS9
                  go_simp
                  try with_reducible rfl
                try simp only [Act.put, List.setIfInBounds_toArray, List.set_cons_zero, List.set_cons_succ]
                refine wpAnyH_take (i := 24) (v := ?v110) (by simp only [List.getElem?_toArray, List.getElem?_cons_succ, List.getElem?_cons_zero]; rfl) (by kernel_rfl) (by kernel_rfl) (by kernel_rfl) (by exact fun _ _ _ h => h) (Or.inl ⟨by rfl, fun w9 hS9 => ?hy110⟩) hHeld ?rest110
                case hy110 =>
                  dsimp only at hS9
                  obtain ⟨s0, s1, s2, s3, s4, s5⟩ := hS9
                  go_simp
                  try with_reducible rfl
                try simp only [Act.put, List.setIfInBounds_toArray, List.set_cons_zero, List.set_cons_succ]
                refine wpAnyH_take (i := 25) (v := ?v111) (by simp only [List.getElem?_toArray, List.getElem?_cons_succ, List.getElem?_cons_zero]; rfl) (by kernel_rfl) (by kernel_rfl) (by kernel_rfl) (by exact fun _ _ _ h => h) (Or.inl ⟨by rfl, fun w9 hS9 => ?hy111⟩) hHeld ?rest111
                case hy111 =>
                  dsimp only at hS9
                  obtain ⟨s0, s1, s2, s3, s4, s5⟩ := hS9
                  go_simp
                  try with_reducible rfl
                try simp only [Act.put, List.setIfInBounds_toArray, List.set_cons_zero, List.set_cons_succ]
                refine wpAnyH_take (i := 26) (v := ?v112) (by simp only [List.getElem?_toArray, List.getElem?_cons_succ, List.getElem?_cons_zero]; rfl) (by kernel_rfl) (by kernel_rfl) (by kernel_rfl) (by exact fun _ _ _ h => h) (Or.inl ⟨by rfl, fun w9 hS9 => ?hy112⟩) hHeld ?rest112
                case hy112 =>
                  dsimp only at hS9
                  obtain ⟨s0, s1, s2, s3, s4, s5⟩ := hS9
                  go_simp
                  try with_reducible rfl
                try simp only [Act.put, List.setIfInBounds_toArray, List.set_cons_zero, List.set_cons_succ]
                refine wpAnyH_take (i := 27) (v := ?v113) (by simp only [List.getElem?_toArray, List.getElem?_cons_succ, List.getElem?_cons_zero]; rfl) (by kernel_rfl) (by kernel_rfl) (by kernel_rfl) (by exact fun _ _ _ h => h) (Or.inl ⟨by rfl, fun w9 hS9 => ?hy113⟩) hHeld ?rest113
                case hy113 =>
                  dsimp only at hS9
                  obtain ⟨s0, s1, s2, s3, s4, s5⟩ := hS9
                  go_simp
                  try with_reducible rfl
                try simp only [Act.put, List.setIfInBounds_toArray, List.set_cons_zero, List.set_cons_succ]
                refine wpAnyH_take (i := 28) (v := ?v114) (by simp only [List.getElem?_toArray, List.getElem?_cons_succ, List.getElem?_cons_zero]; rfl) (by kernel_rfl) (by kernel_rfl) (by kernel_rfl) (by exact fun _ _ _ h => h) (Or.inl ⟨by rfl, fun w9 hS9 => ?hy114⟩) hHeld ?rest114
                case hy114 =>
                  dsimp only at hS9
                  obtain ⟨s0, s1, s2, s3, s4, s5⟩ := hS9
                  go_simp
                  try with_reducible rfl
                try simp only [Act.put, List.setIfInBounds_toArray, List.set_cons_zero, List.set_cons_succ]
                refine wpAnyH_take (i := 29) (v := ?v115) (by simp only [List.getElem?_toArray, List.getElem?_cons_succ, List.getElem?_cons_zero]; rfl) (by kernel_rfl) (by kernel_rfl) (by kernel_rfl) (by exact fun _ _ _ h => h) (Or.inl ⟨by rfl, fun w9 hS9 => ?hy115⟩) hHeld ?rest115
                case hy115 =>
                  dsimp only at hS9
                  obtain ⟨s0, s1, s2, s3, s4, s5⟩ := hS9
                  go_simp
                  try with_reducible rfl
                try simp only [Act.put, List.setIfInBounds_toArray, List.set_cons_zero, List.set_cons_succ]
                refine wpAnyH_take (i := 30) (v := ?v116) (by simp only [List.getElem?_toArray, List.getElem?_cons_succ, List.getElem?_cons_zero]; rfl) (by kernel_rfl) (by kernel_rfl) (by kernel_rfl) (by exact fun _ _ _ h => h) (Or.inl ⟨by rfl, fun w9 hS9 => ?hy116⟩) hHeld ?rest116
                case hy116 =>
                  dsimp only at hS9
                  obtain ⟨s0, s1, s2, s3, s4, s5⟩ := hS9
                  go_simp
                  try with_reducible rfl
                try simp only [Act.put, List.setIfInBounds_toArray, List.set_cons_zero, List.set_cons_succ]
                refine wpAnyH_take (i := 31) (v := ?v117) (by simp only [List.getElem?_toArray, List.getElem?_cons_succ, List.getElem?_cons_zero]; rfl) (by kernel_rfl) (by kernel_rfl) (by kernel_rfl) (by exact fun _ _ _ h => h) (Or.inl ⟨by rfl, fun w9 hS9 => ?hy117⟩) hHeld ?rest117
                case hy117 =>
                  dsimp only at hS9
                  obtain ⟨s0, s1, s2, s3, s4, s5⟩ := hS9
                  go_simp
                  try with_reducible rfl
                try simp only [Act.put, List.setIfInBounds_toArray, List.set_cons_zero, List.set_cons_succ]
                refine wpAnyH_take (i := 32) (v := ?v118) (by simp only [List.getElem?_toArray, List.getElem?_cons_succ, List.getElem?_cons_zero]; rfl) (by kernel_rfl) (by kernel_rfl) (by kernel_rfl) (by exact fun _ _ _ h => h) (Or.inl ⟨by rfl, fun w9 hS9 => ?hy118⟩) hHeld ?rest118
                case hy118 =>
                  dsimp only at hS9
                  obtain ⟨s0, s1, s2, s3, s4, s5⟩ := hS9
                  go_simp
                  try with_reducible rfl
                try simp only [Act.put, List.setIfInBounds_toArray, List.set_cons_zero, List.set_cons_succ]
                refine wpAnyH_take (i := 33) (v := ?v119) (by simp only [List.getElem?_toArray, List.getElem?_cons_succ, List.getElem?_cons_zero]; rfl) (by kernel_rfl) (by kernel_rfl) (by kernel_rfl) (by exact fun _ _ _ h => h) (Or.inl ⟨by rfl, fun w9 hS9 => ?hy119⟩) hHeld ?rest119
                case hy119 =>
                  dsimp only at hS9
                  obtain ⟨s0, s1, s2, s3, s4, s5⟩ := hS9
                  go_simp
                  try with_reducible rfl
                try simp only [Act.put, List.setIfInBounds_toArray, List.set_cons_zero, List.set_cons_succ]
                refine wpAnyH_take (i := 34) (v := ?v120) (by simp only [List.getElem?_toArray, List.getElem?_cons_succ, List.getElem?_cons_zero]; rfl) (by kernel_rfl) (by kernel_rfl) (by kernel_rfl) (by exact fun _ _ _ h => h) (Or.inl ⟨by rfl, fun w9 hS9 => ?hy120⟩) hHeld ?rest120
                case hy120 =>
                  dsimp only at hS9
                  obtain ⟨s0, s1, s2, s3, s4, s5⟩ := hS9
                  go_simp
                  try with_reducible rfl
                try simp only [Act.put, List.setIfInBounds_toArray, List.set_cons_zero, List.set_cons_succ]
                refine wpAnyH_take (i := 35) (v := ?v121) (by simp only [List.getElem?_toArray, List.getElem?_cons_succ, List.getElem?_cons_zero]; rfl) (by kernel_rfl) (by kernel_rfl) (by kernel_rfl) (by exact fun _ _ _ h => h) (Or.inl ⟨by rfl, fun w9 hS9 => ?hy121⟩) hHeld ?rest121
                case hy121 =>
                  dsimp only at hS9
                  obtain ⟨s0, s1, s2, s3, s4, s5⟩ := hS9
                  go_simp
                  try with_reducible rfl
                try simp only [Act.put, List.setIfInBounds_toArray, List.set_cons_zero, List.set_cons_succ]
                refine wpAnyH_take (i := 36) (v := ?v122) (by simp only [List.getElem?_toArray, List.getElem?_cons_succ, List.getElem?_cons_zero]; rfl) (by kernel_rfl) (by kernel_rfl) (by kernel_rfl) (by exact fun _ _ _ h => h) (Or.inl ⟨by rfl, fun w9 hS9 => ?hy122⟩) hHeld ?rest122
                case hy122 =>
                  dsimp only at hS9
                  obtain ⟨s0, s1, s2, s3, s4, s5⟩ := hS9
                  go_simp
                  try with_reducible rfl
                try simp only [Act.put, List.setIfInBounds_toArray, List.set_cons_zero, List.set_cons_succ]
                refine wpAnyH_take (i := 37) (v := ?v123) (by simp only [List.getElem?_toArray, List.getElem?_cons_succ, List.getElem?_cons_zero]; rfl) (by kernel_rfl) (by kernel_rfl) (by kernel_rfl) (by exact fun _ _ _ h => h) (Or.inl ⟨by rfl, fun w9 hS9 => ?hy123⟩) hHeld ?rest123
                case hy123 =>
                  dsimp only at hS9
                  obtain ⟨s0, s1, s2, s3, s4, s5⟩ := hS9
                  go_simp
                  try with_reducible rfl
                try simp only [Act.put, List.setIfInBounds_toArray, List.set_cons_zero, List.set_cons_succ]
                refine wpAnyH_take (i := 38) (v := ?v124) (by simp only [List.getElem?_toArray, List.getElem?_cons_succ, List.getElem?_cons_zero]; rfl) (by kernel_rfl) (by kernel_rfl) (by kernel_rfl) (by exact fun _ _ _ h => h) (Or.inl ⟨by rfl, fun w9 hS9 => ?hy124⟩) hHeld ?rest124
                case hy124 =>
                  dsimp only at hS9
                  obtain ⟨s0, s1, s2, s3, s4, s5⟩ := hS9
                  go_simp
                  try with_reducible rfl
                try simp only [Act.put, List.setIfInBounds_toArray, List.set_cons_zero, List.set_cons_succ]
                refine wpAnyH_take (i := 39) (v := ?v125) (by simp only [List.getElem?_toArray, List.getElem?_cons_succ, List.getElem?_cons_zero]; rfl) (by kernel_rfl) (by kernel_rfl) (by kernel_rfl) (by exact fun _ _ _ h => h) (Or.inl ⟨by rfl, fun w9 hS9 => ?hy125⟩) hHeld ?rest125
                case hy125 =>
                  dsimp only at hS9
                  obtain ⟨s0, s1, s2, s3, s4, s5⟩ := hS9
                  go_simp
                  try with_reducible rfl
                try simp only [Act.put, List.setIfInBounds_toArray, List.set_cons_zero, List.set_cons_succ]
                refine wpAnyH_done (by kernel_rfl) ?_ _
                have HBX := Lib.hid (HB.out.trans (HB2.out.mono HB.out.size))
                go_wp2_with fail
                go_roundw
                case rel => exact ⟨j + 1, by omega, by go_num, HST.out, HBX.out⟩
                case measure => simp [intOf]; omega
              · have hq0 : 0 < q := by
                  rcases Nat.eq_zero_or_pos q with e | e
                  · exact absurd (List.eq_nil_of_length_eq_zero (by rw [HN.out.len, e])) hyy
                  · exact e
                have b2 : decide ((0 : Int) < (q : Int)) = true := decide_eq_true (by omega)
                have HE := Lib.hid (fitsFmt_no HX.out HY.out (by rw [fitsAt_not ht]; dsimp only; unfold emptyV; rw [decide_eq_false hyy]; simp))
                clear ht hk hyy
                go_wp2_with fail
                have HBd : Hid (Below wr.heap.size wr wr.drew) := Lib.hid (Below.refl _ _).drew
                refine wp_region_held_drew (S := (fun w' => w'.cell? ⟨bv, ov + j * 2, none⟩ = some (.int .i64 k) ∧ w'.cell? ⟨bv, ov + j * 2 + 1, none⟩ = some (.slice p q g) ∧ w'.cell? ⟨bl, ol + j * 4, none⟩ = some (.int .i64 xk) ∧ w'.cell? ⟨bl, ol + j * 4 + 1, none⟩ = some (.int .i64 xm) ∧ w'.cell? ⟨bl, ol + j * 4 + 2, none⟩ = some (.int .i64 xt) ∧ w'.cell? ⟨bl, ol + j * 4 + 3, none⟩ = some (.int .i64 xi))) (by kernel_rfl) ⟨cell_stay E0.out HBd.out, cell_stay E1.out HBd.out, cell_stay E2.out HBd.out, cell_stay E3.out HBd.out, cell_stay E4.out HBd.out, cell_stay E5.out HBd.out⟩ (fun hHeld => ?_)
                refine wpAnyH_take (i := 0) (v := ?v126) (by simp only [List.getElem?_toArray, List.getElem?_cons_succ, List.getElem?_cons_zero]; rfl) (by kernel_rfl) (by kernel_rfl) (by kernel_rfl) (by exact fun _ _ _ h => h) (Or.inl ⟨by rfl, fun w9 hS9 => ?hy126⟩) hHeld ?rest126
                case hy126 =>
                  dsimp only at hS9
                  obtain ⟨s0, s1, s2, s3, s4, s5⟩ := hS9
                  go_simp
                  try with_reducible rfl
                try simp only [Act.put, List.setIfInBounds_toArray, List.set_cons_zero, List.set_cons_succ]
                refine wpAnyH_take (i := 1) (v := ?v127) (by simp only [List.getElem?_toArray, List.getElem?_cons_succ, List.getElem?_cons_zero]; rfl) (by kernel_rfl) (by kernel_rfl) (by kernel_rfl) (by exact fun _ _ _ h => h) (Or.inl ⟨by rfl, fun w9 hS9 => ?hy127⟩) hHeld ?rest127
                case hy127 =>
                  dsimp only at hS9
                  obtain ⟨s0, s1, s2, s3, s4, s5⟩ := hS9
                  go_simp
                  try with_reducible rfl
                try simp only [Act.put, List.setIfInBounds_toArray, List.set_cons_zero, List.set_cons_succ]
                refine wpAnyH_take (i := 2) (v := ?v128) (by simp only [List.getElem?_toArray, List.getElem?_cons_succ, List.getElem?_cons_zero]; rfl) (by kernel_rfl) (by kernel_rfl) (by kernel_rfl) (by exact fun _ _ _ h => h) (Or.inl ⟨by rfl, fun w9 hS9 => ?hy128⟩) hHeld ?rest128
                case hy128 =>
                  dsimp only at hS9
                  obtain ⟨s0, s1, s2, s3, s4, s5⟩ := hS9
                  go_simp
                  try with_reducible rfl
                try simp only [Act.put, List.setIfInBounds_toArray, List.set_cons_zero, List.set_cons_succ]
                refine wpAnyH_ready (rs := [3]) (by kernel_rfl) (by simp) (AllReadyH.cons (by simp only [List.getElem?_toArray, List.getElem?_cons_succ, List.getElem?_cons_zero]; rfl) (fun K hK => ?_) AllReadyH.nil)
                go_simp
                refine (KT1.out _ (HB.out.trans (HBd.out.mono HB.out.size))).mono ?_
                rintro e w1 ⟨rfl, hb1⟩
                have HB1 : Hid (Below wr.heap.size wr w1) := Lib.hid (HBd.out.trans (hb1.mono HBd.out.size))
                clear hb1
                go_wp2_with fail
                refine hK.out _ _ ⟨cell_stay E0.out HB1.out, cell_stay E1.out HB1.out, cell_stay E2.out HB1.out, cell_stay E3.out HB1.out, cell_stay E4.out HB1.out, cell_stay E5.out HB1.out⟩ (fun hHeld => ?_)
                clear hK K
                try simp only [Act.put, List.setIfInBounds_toArray, List.set_cons_zero, List.set_cons_succ]
                refine wpAnyH_take (i := 4) (v := ?v129) (by simp only [List.getElem?_toArray, List.getElem?_cons_succ, List.getElem?_cons_zero]; rfl) (by kernel_rfl) (by kernel_rfl) (by kernel_rfl) (by exact fun _ _ _ h => h) (Or.inl ⟨by rfl, fun w9 hS9 => ?hy129⟩) hHeld ?rest129
                case hy129 =>
                  dsimp only at hS9
                  obtain ⟨s0, s1, s2, s3, s4, s5⟩ := hS9
                  go_simp
                  try with_reducible rfl
                try simp only [Act.put, List.setIfInBounds_toArray, List.set_cons_zero, List.set_cons_succ]
                refine wpAnyH_take (i := 5) (v := undef) (by simp only [List.getElem?_toArray, List.getElem?_cons_succ, List.getElem?_cons_zero]; rfl) (by kernel_rfl) (by kernel_rfl) (by kernel_rfl) (by exact fun _ _ _ h => h) (Or.inr ⟨by rfl, rfl⟩) hHeld ?_
                try simp only [Act.put, List.setIfInBounds_toArray, List.set_cons_zero, List.set_cons_succ]
                refine wpAnyH_take (i := 6) (v := undef) (by simp only [List.getElem?_toArray, List.getElem?_cons_succ, List.getElem?_cons_zero]; rfl) (by kernel_rfl) (by kernel_rfl) (by kernel_rfl) (by exact fun _ _ _ h => h) (Or.inr ⟨by rfl, rfl⟩) hHeld ?_
                try simp only [Act.put, List.setIfInBounds_toArray, List.set_cons_zero, List.set_cons_succ]
                refine wpAnyH_take (i := 7) (v := undef) (by simp only [List.getElem?_toArray, List.getElem?_cons_succ, List.getElem?_cons_zero]; rfl) (by kernel_rfl) (by kernel_rfl) (by kernel_rfl) (by exact fun _ _ _ h => h) (Or.inr ⟨by rfl, rfl⟩) hHeld ?_
                try simp only [Act.put, List.setIfInBounds_toArray, List.set_cons_zero, List.set_cons_succ]
                refine wpAnyH_take (i := 8) (v := undef) (by simp only [List.getElem?_toArray, List.getElem?_cons_succ, List.getElem?_cons_zero]; rfl) (by kernel_rfl) (by kernel_rfl) (by kernel_rfl) (by exact fun _ _ _ h => h) (Or.inr ⟨by rfl, rfl⟩) hHeld ?_
                try simp only [Act.put, List.setIfInBounds_toArray, List.set_cons_zero, List.set_cons_succ]
                refine wpAnyH_take (i := 9) (v := undef) (by simp only [List.getElem?_toArray, List.getElem?_cons_succ, List.getElem?_cons_zero]; rfl) (by kernel_rfl) (by kernel_rfl) (by kernel_rfl) (by exact fun _ _ _ h => h) (Or.inr ⟨by rfl, rfl⟩) hHeld ?_
                try simp only [Act.put, List.setIfInBounds_toArray, List.set_cons_zero, List.set_cons_succ]
                refine wpAnyH_take (i := 10) (v := undef) (by simp only [List.getElem?_toArray, List.getElem?_cons_succ, List.getElem?_cons_zero]; rfl) (by kernel_rfl) (by kernel_rfl) (by kernel_rfl) (by exact fun _ _ _ h => h) (Or.inr ⟨by rfl, rfl⟩) hHeld ?_
                try simp only [Act.put, List.setIfInBounds_toArray, List.set_cons_zero, List.set_cons_succ]
                refine wpAnyH_take (i := 11) (v := undef) (by simp only [List.getElem?_toArray, List.getElem?_cons_succ, List.getElem?_cons_zero]; rfl) (by kernel_rfl) (by kernel_rfl) (by kernel_rfl) (by exact fun _ _ _ h => h) (Or.inr ⟨by rfl, rfl⟩) hHeld ?_
                try simp only [Act.put, List.setIfInBounds_toArray, List.set_cons_zero, List.set_cons_succ]
                refine wpAnyH_take (i := 12) (v := undef) (by simp only [List.getElem?_toArray, List.getElem?_cons_succ, List.getElem?_cons_zero]; rfl) (by kernel_rfl) (by kernel_rfl) (by kernel_rfl) (by exact fun _ _ _ h => h) (Or.inr ⟨by rfl, rfl⟩) hHeld ?_
                try simp only [Act.put, List.setIfInBounds_toArray, List.set_cons_zero, List.set_cons_succ]
                refine wpAnyH_take (i := 13) (v := undef) (by simp only [List.getElem?_toArray, List.getElem?_cons_succ, List.getElem?_cons_zero]; rfl) (by kernel_rfl) (by kernel_rfl) (by kernel_rfl) (by exact fun _ _ _ h => h) (Or.inr ⟨by rfl, rfl⟩) hHeld ?_
                try simp only [Act.put, List.setIfInBounds_toArray, List.set_cons_zero, List.set_cons_succ]
                refine wpAnyH_take (i := 14) (v := undef) (by simp only [List.getElem?_toArray, List.getElem?_cons_succ, List.getElem?_cons_zero]; rfl) (by kernel_rfl) (by kernel_rfl) (by kernel_rfl) (by exact fun _ _ _ h => h) (Or.inr ⟨by rfl, rfl⟩) hHeld ?_
                try simp only [Act.put, List.setIfInBounds_toArray, List.set_cons_zero, List.set_cons_succ]
                refine wpAnyH_take (i := 15) (v := ?v140) (by simp only [List.getElem?_toArray, List.getElem?_cons_succ, List.getElem?_cons_zero]; rfl) (by kernel_rfl) (by kernel_rfl) (by kernel_rfl) (by exact fun _ _ _ h => h) (Or.inl ⟨by rfl, fun w9 hS9 => ?hy140⟩) hHeld ?rest140
                case hy140 =>
                  dsimp only at hS9
                  obtain ⟨s0, s1, s2, s3, s4, s5⟩ := hS9
                  go_simp
                  try with_reducible rfl
                try simp only [Act.put, List.setIfInBounds_toArray, List.set_cons_zero, List.set_cons_succ]
                refine wpAnyH_take (i := 16) (v := ?v141) (by simp only [List.getElem?_toArray, List.getElem?_cons_succ, List.getElem?_cons_zero]; rfl) (by kernel_rfl) (by kernel_rfl) (by kernel_rfl) (by exact fun _ _ _ h => h) (Or.inl ⟨by rfl, fun w9 hS9 => ?hy141⟩) hHeld ?rest141
                case hy141 =>
                  dsimp only at hS9
                  obtain ⟨s0, s1, s2, s3, s4, s5⟩ := hS9
                  go_simp
                  try with_reducible rfl
                try simp only [Act.put, List.setIfInBounds_toArray, List.set_cons_zero, List.set_cons_succ]
                refine wpAnyH_take (i := 17) (v := ?v142) (by simp only [List.getElem?_toArray, List.getElem?_cons_succ, List.getElem?_cons_zero]; rfl) (by kernel_rfl) (by kernel_rfl) (by kernel_rfl) (by exact fun _ _ _ h => h) (Or.inl ⟨by rfl, fun w9 hS9 => ?hy142⟩) hHeld ?rest142
                case hy142 =>
                  dsimp only at hS9
                  obtain ⟨s0, s1, s2, s3, s4, s5⟩ := hS9
                  go_simp
                  try with_reducible rfl
                try simp only [Act.put, List.setIfInBounds_toArray, List.set_cons_zero, List.set_cons_succ]
                refine wpAnyH_take (i := 18) (v := ?v143) (by simp only [List.getElem?_toArray, List.getElem?_cons_succ, List.getElem?_cons_zero]; rfl) (by kernel_rfl) (by kernel_rfl) (by kernel_rfl) (by exact fun _ _ _ h => h) (Or.inl ⟨by rfl, fun w9 hS9 => ?hy143⟩) hHeld ?rest143
                case hy143 =>
                  dsimp only at hS9
                  obtain ⟨s0, s1, s2, s3, s4, s5⟩ := hS9
                  go_simp
                  try with_reducible rfl
                try simp only [Act.put, List.setIfInBounds_toArray, List.set_cons_zero, List.set_cons_succ]
                refine wpAnyH_take (i := 19) (v := ?v144) (by simp only [List.getElem?_toArray, List.getElem?_cons_succ, List.getElem?_cons_zero]; rfl) (by kernel_rfl) (by kernel_rfl) (by kernel_rfl) (by exact fun _ _ _ h => h) (Or.inl ⟨by rfl, fun w9 hS9 => ?hy144⟩) hHeld ?rest144
                case hy144 =>
                  dsimp only at hS9
                  obtain ⟨s0, s1, s2, s3, s4, s5⟩ := hS9
                  go_simp
                  try with_reducible rfl
                try simp only [Act.put, List.setIfInBounds_toArray, List.set_cons_zero, List.set_cons_succ]
                refine wpAnyH_ready (rs := [20]) (by kernel_rfl) (by simp) (AllReadyH.cons (by simp only [List.getElem?_toArray, List.getElem?_cons_succ, List.getElem?_cons_zero]; rfl) (fun K hK => ?_) AllReadyH.nil)
                go_simp
                refine (KT1.out _ (HB.out.trans (HB1.out.mono HB.out.size))).mono ?_
                rintro e w2 ⟨rfl, hb2⟩
                have HB2 : Hid (Below wr.heap.size wr w2) := Lib.hid (HB1.out.trans (hb2.mono HB1.out.size))
                clear hb2
                go_wp2_with fail
                refine hK.out _ _ ⟨cell_stay E0.out HB2.out, cell_stay E1.out HB2.out, cell_stay E2.out HB2.out, cell_stay E3.out HB2.out, cell_stay E4.out HB2.out, cell_stay E5.out HB2.out⟩ (fun hHeld => ?_)
                clear hK K
                try simp only [Act.put, List.setIfInBounds_toArray, List.set_cons_zero, List.set_cons_succ]
                refine wpAnyH_take (i := 21) (v := ?v145) (by simp only [List.getElem?_toArray, List.getElem?_cons_succ, List.getElem?_cons_zero]; rfl) (by kernel_rfl) (by kernel_rfl) (by kernel_rfl) (by exact fun _ _ _ h => h) (Or.inl ⟨by rfl, fun w9 hS9 => ?hy145⟩) hHeld ?rest145
                case hy145 =>
                  dsimp only at hS9
                  obtain ⟨s0, s1, s2, s3, s4, s5⟩ := hS9
                  go_simp
                  try with_reducible rfl
                try simp only [Act.put, List.setIfInBounds_toArray, List.set_cons_zero, List.set_cons_succ]
                refine wpAnyH_take (i := 22) (v := ?v146) (by simp only [List.getElem?_toArray, List.getElem?_cons_succ, List.getElem?_cons_zero]; rfl) (by kernel_rfl) (by kernel_rfl) (by kernel_rfl) (by exact fun _ _ _ h => h) (Or.inl ⟨by rfl, fun w9 hS9 => ?hy146⟩) hHeld ?rest146
                case hy146 =>
                  dsimp only at hS9
                  obtain ⟨s0, s1, s2, s3, s4, s5⟩ := hS9
                  go_simp
                  try with_reducible rfl
                try simp only [Act.put, List.setIfInBounds_toArray, List.set_cons_zero, List.set_cons_succ]
                refine wpAnyH_take (i := 23) (v := ?v147) (by simp only [List.getElem?_toArray, List.getElem?_cons_succ, List.getElem?_cons_zero]; rfl) (by kernel_rfl) (by kernel_rfl) (by kernel_rfl) (by exact fun _ _ _ h => h) (Or.inl ⟨by rfl, fun w9 hS9 => ?hy147⟩) hHeld ?rest147
                case hy147 =>
                  dsimp only at hS9
                  obtain ⟨s0, s1, s2, s3, s4, s5⟩ := hS9
                  go_simp
                  try with_reducible rfl
                try simp only [Act.put, List.setIfInBounds_toArray, List.set_cons_zero, List.set_cons_succ]
                refine wpAnyH_take (i := 24) (v := ?v148) (by simp only [List.getElem?_toArray, List.getElem?_cons_succ, List.getElem?_cons_zero]; rfl) (by kernel_rfl) (by kernel_rfl) (by kernel_rfl) (by exact fun _ _ _ h => h) (Or.inl ⟨by rfl, fun w9 hS9 => ?hy148⟩) hHeld ?rest148
                case hy148 =>
                  dsimp only at hS9
                  obtain ⟨s0, s1, s2, s3, s4, s5⟩ := hS9
                  go_simp
                  try with_reducible rfl
                try simp only [Act.put, List.setIfInBounds_toArray, List.set_cons_zero, List.set_cons_succ]
                refine wpAnyH_take (i := 25) (v := ?v149) (by simp only [List.getElem?_toArray, List.getElem?_cons_succ, List.getElem?_cons_zero]; rfl) (by kernel_rfl) (by kernel_rfl) (by kernel_rfl) (by exact fun _ _ _ h => h) (Or.inl ⟨by rfl, fun w9 hS9 => ?hy149⟩) hHeld ?rest149
                case hy149 =>
                  dsimp only at hS9
                  obtain ⟨s0, s1, s2, s3, s4, s5⟩ := hS9
                  go_simp
                  try with_reducible rfl
                try simp only [Act.put, List.setIfInBounds_toArray, List.set_cons_zero, List.set_cons_succ]
                refine wpAnyH_take (i := 26) (v := ?v150) (by simp only [List.getElem?_toArray, List.getElem?_cons_succ, List.getElem?_cons_zero]; rfl) (by kernel_rfl) (by kernel_rfl) (by kernel_rfl) (by exact fun _ _ _ h => h) (Or.inl ⟨by rfl, fun w9 hS9 => ?hy150⟩) hHeld ?rest150
                case hy150 =>
                  dsimp only at hS9
                  obtain ⟨s0, s1, s2, s3, s4, s5⟩ := hS9
                  go_simp
                  try with_reducible rfl
                try simp only [Act.put, List.setIfInBounds_toArray, List.set_cons_zero, List.set_cons_succ]
                refine wpAnyH_take (i := 27) (v := ?v151) (by simp only [List.getElem?_toArray, List.getElem?_cons_succ, List.getElem?_cons_zero]; rfl) (by kernel_rfl) (by kernel_rfl) (by kernel_rfl) (by exact fun _ _ _ h => h) (Or.inl ⟨by rfl, fun w9 hS9 => ?hy151⟩) hHeld ?rest151
                case hy151 =>
                  dsimp only at hS9
                  obtain ⟨s0, s1, s2, s3, s4, s5⟩ := hS9
                  go_simp
                  try with_reducible rfl
                try simp only [Act.put, List.setIfInBounds_toArray, List.set_cons_zero, List.set_cons_succ]
                refine wpAnyH_take (i := 28) (v := ?v152) (by simp only [List.getElem?_toArray, List.getElem?_cons_succ, List.getElem?_cons_zero]; rfl) (by kernel_rfl) (by kernel_rfl) (by kernel_rfl) (by exact fun _ _ _ h => h) (Or.inl ⟨by rfl, fun w9 hS9 => ?hy152⟩) hHeld ?rest152
                case hy152 =>
                  dsimp only at hS9
                  obtain ⟨s0, s1, s2, s3, s4, s5⟩ := hS9
                  go_simp
                  try with_reducible rfl
                try simp only [Act.put, List.setIfInBounds_toArray, List.set_cons_zero, List.set_cons_succ]
                refine wpAnyH_take (i := 29) (v := ?v153) (by simp only [List.getElem?_toArray, List.getElem?_cons_succ, List.getElem?_cons_zero]; rfl) (by kernel_rfl) (by kernel_rfl) (by kernel_rfl) (by exact fun _ _ _ h => h) (Or.inl ⟨by rfl, fun w9 hS9 => ?hy153⟩) hHeld ?rest153
                case hy153 =>
                  dsimp only at hS9
                  obtain ⟨s0, s1, s2, s3, s4, s5⟩ := hS9
                  go_simp
                  try with_reducible rfl
                try simp only [Act.put, List.setIfInBounds_toArray, List.set_cons_zero, List.set_cons_succ]
                refine wpAnyH_take (i := 30) (v := ?v154) (by simp only [List.getElem?_toArray, List.getElem?_cons_succ, List.getElem?_cons_zero]; rfl) (by kernel_rfl) (by kernel_rfl) (by kernel_rfl) (by exact fun _ _ _ h => h) (Or.inl ⟨by rfl, fun w9 hS9 => ?hy154⟩) hHeld ?rest154
                case hy154 =>
                  dsimp only at hS9
                  obtain ⟨s0, s1, s2, s3, s4, s5⟩ := hS9
                  go_simp
                  try with_reducible rfl
                try simp only [Act.put, List.setIfInBounds_toArray, List.set_cons_zero, List.set_cons_succ]
                refine wpAnyH_take (i := 31) (v := ?v155) (by simp only [List.getElem?_toArray, List.getElem?_cons_succ, List.getElem?_cons_zero]; rfl) (by kernel_rfl) (by kernel_rfl) (by kernel_rfl) (by exact fun _ _ _ h => h) (Or.inl ⟨by rfl, fun w9 hS9 => ?hy155⟩) hHeld ?rest155
                case hy155 =>
                  dsimp only at hS9
                  obtain ⟨s0, s1, s2, s3, s4, s5⟩ := hS9
                  go_simp
                  try with_reducible rfl
                try simp only [Act.put, List.setIfInBounds_toArray, List.set_cons_zero, List.set_cons_succ]
                refine wpAnyH_take (i := 32) (v := ?v156) (by simp only [List.getElem?_toArray, List.getElem?_cons_succ, List.getElem?_cons_zero]; rfl) (by kernel_rfl) (by kernel_rfl) (by kernel_rfl) (by exact fun _ _ _ h => h) (Or.inl ⟨by rfl, fun w9 hS9 => ?hy156⟩) hHeld ?rest156
                case hy156 =>
                  dsimp only at hS9
                  obtain ⟨s0, s1, s2, s3, s4, s5⟩ := hS9
                  go_simp
                  try with_reducible rfl
                try simp only [Act.put, List.setIfInBounds_toArray, List.set_cons_zero, List.set_cons_succ]
                refine wpAnyH_take (i := 33) (v := ?v157) (by simp only [List.getElem?_toArray, List.getElem?_cons_succ, List.getElem?_cons_zero]; rfl) (by kernel_rfl) (by kernel_rfl) (by kernel_rfl) (by exact fun _ _ _ h => h) (Or.inl ⟨by rfl, fun w9 hS9 => ?hy157⟩) hHeld ?rest157
                case hy157 =>
                  dsimp only at hS9
                  obtain ⟨s0, s1, s2, s3, s4, s5⟩ := hS9
                  go_simp
                  try with_reducible rfl
                try simp only [Act.put, List.setIfInBounds_toArray, List.set_cons_zero, List.set_cons_succ]
                refine wpAnyH_take (i := 34) (v := ?v158) (by simp only [List.getElem?_toArray, List.getElem?_cons_succ, List.getElem?_cons_zero]; rfl) (by kernel_rfl) (by kernel_rfl) (by kernel_rfl) (by exact fun _ _ _ h => h) (Or.inl ⟨by rfl, fun w9 hS9 => ?hy158⟩) hHeld ?rest158
                case hy158 =>
                  dsimp only at hS9
                  obtain ⟨s0, s1, s2, s3, s4, s5⟩ := hS9
                  go_simp
                  try with_reducible rfl
                try simp only [Act.put, List.setIfInBounds_toArray, List.set_cons_zero, List.set_cons_succ]
                refine wpAnyH_take (i := 35) (v := ?v159) (by simp only [List.getElem?_toArray, List.getElem?_cons_succ, List.getElem?_cons_zero]; rfl) (by kernel_rfl) (by kernel_rfl) (by kernel_rfl) (by exact fun _ _ _ h => h) (Or.inl ⟨by rfl, fun w9 hS9 => ?hy159⟩) hHeld ?rest159
                case hy159 =>
                  dsimp only at hS9
                  obtain ⟨s0, s1, s2, s3, s4, s5⟩ := hS9
                  go_simp
                  try with_reducible rfl
                try simp only [Act.put, List.setIfInBounds_toArray, List.set_cons_zero, List.set_cons_succ]
                refine wpAnyH_take (i := 36) (v := ?v160) (by simp only [List.getElem?_toArray, List.getElem?_cons_succ, List.getElem?_cons_zero]; rfl) (by kernel_rfl) (by kernel_rfl) (by kernel_rfl) (by exact fun _ _ _ h => h) (Or.inl ⟨by rfl, fun w9 hS9 => ?hy160⟩) hHeld ?rest160
                case hy160 =>
                  dsimp only at hS9
                  obtain ⟨s0, s1, s2, s3, s4, s5⟩ := hS9
                  go_simp
                  try with_reducible rfl
                try simp only [Act.put, List.setIfInBounds_toArray, List.set_cons_zero, List.set_cons_succ]
                refine wpAnyH_take (i := 37) (v := ?v161) (by simp only [List.getElem?_toArray, List.getElem?_cons_succ, List.getElem?_cons_zero]; rfl) (by kernel_rfl) (by kernel_rfl) (by kernel_rfl) (by exact fun _ _ _ h => h) (Or.inl ⟨by rfl, fun w9 hS9 => ?hy161⟩) hHeld ?rest161
                case hy161 =>
                  dsimp only at hS9
                  obtain ⟨s0, s1, s2, s3, s4, s5⟩ := hS9
                  go_simp
                  try with_reducible rfl
                try simp only [Act.put, List.setIfInBounds_toArray, List.set_cons_zero, List.set_cons_succ]
                refine wpAnyH_take (i := 38) (v := ?v162) (by simp only [List.getElem?_toArray, List.getElem?_cons_succ, List.getElem?_cons_zero]; rfl) (by kernel_rfl) (by kernel_rfl) (by kernel_rfl) (by exact fun _ _ _ h => h) (Or.inl ⟨by rfl, fun w9 hS9 => ?hy162⟩) hHeld ?rest162
                case hy162 =>
                  dsimp only at hS9
                  obtain ⟨s0, s1, s2, s3, s4, s5⟩ := hS9
                  go_simp
                  try with_reducible rfl
                try simp only [Act.put, List.setIfInBounds_toArray, List.set_cons_zero, List.set_cons_succ]
                refine wpAnyH_take (i := 39) (v := ?v163) (by simp only [List.getElem?_toArray, List.getElem?_cons_succ, List.getElem?_cons_zero]; rfl) (by kernel_rfl) (by kernel_rfl) (by kernel_rfl) (by exact fun _ _ _ h => h) (Or.inl ⟨by rfl, fun w9 hS9 => ?hy163⟩) hHeld ?rest163
                case hy163 =>
                  dsimp only at hS9
                  obtain ⟨s0, s1, s2, s3, s4, s5⟩ := hS9
                  go_simp
                  try with_reducible rfl
                try simp only [Act.put, List.setIfInBounds_toArray, List.set_cons_zero, List.set_cons_succ]
                refine wpAnyH_done (by kernel_rfl) ?_ _
                have HBX := Lib.hid (HB.out.trans (HB2.out.mono HB.out.size))
                go_wp2_with fail
                go_ret
                exact ⟨by rw [HE.out]; rfl, HBX.out⟩
            · have bk : (k != 0) = true := by simpa using hk
              have HE := Lib.hid (fitsFmt_no HX.out HY.out (by rw [fitsAt_not ht]; dsimp only; unfold emptyV; rw [decide_eq_false hk]; rfl))
              clear ht hk
              go_wp2_with fail
              have HBd : Hid (Below wr.heap.size wr wr.drew) := Lib.hid (Below.refl _ _).drew
              refine wp_region_held_drew (S := (fun w' => w'.cell? ⟨bv, ov + j * 2, none⟩ = some (.int .i64 k) ∧ w'.cell? ⟨bv, ov + j * 2 + 1, none⟩ = some (.slice p q g) ∧ w'.cell? ⟨bl, ol + j * 4, none⟩ = some (.int .i64 xk) ∧ w'.cell? ⟨bl, ol + j * 4 + 1, none⟩ = some (.int .i64 xm) ∧ w'.cell? ⟨bl, ol + j * 4 + 2, none⟩ = some (.int .i64 xt) ∧ w'.cell? ⟨bl, ol + j * 4 + 3, none⟩ = some (.int .i64 xi))) (by kernel_rfl) ⟨cell_stay E0.out HBd.out, cell_stay E1.out HBd.out, cell_stay E2.out HBd.out, cell_stay E3.out HBd.out, cell_stay E4.out HBd.out, cell_stay E5.out HBd.out⟩ (fun hHeld => ?_)
              refine wpAnyH_take (i := 0) (v := ?v164) (by simp only [List.getElem?_toArray, List.getElem?_cons_succ, List.getElem?_cons_zero]; rfl) (by kernel_rfl) (by kernel_rfl) (by kernel_rfl) (by exact fun _ _ _ h => h) (Or.inl ⟨by rfl, fun w9 hS9 => ?hy164⟩) hHeld ?rest164
              case hy164 =>
                dsimp only at hS9
                obtain ⟨s0, s1, s2, s3, s4, s5⟩ := hS9
                go_simp
                try with_reducible rfl
              try simp only [Act.put, List.setIfInBounds_toArray, List.set_cons_zero, List.set_cons_succ]
              refine wpAnyH_take (i := 1) (v := ?v165) (by simp only [List.getElem?_toArray, List.getElem?_cons_succ, List.getElem?_cons_zero]; rfl) (by kernel_rfl) (by kernel_rfl) (by kernel_rfl) (by exact fun _ _ _ h => h) (Or.inl ⟨by rfl, fun w9 hS9 => ?hy165⟩) hHeld ?rest165
              case hy165 =>
                dsimp only at hS9
                obtain ⟨s0, s1, s2, s3, s4, s5⟩ := hS9
                go_simp
                try with_reducible rfl
              try simp only [Act.put, List.setIfInBounds_toArray, List.set_cons_zero, List.set_cons_succ]
              refine wpAnyH_take (i := 2) (v := ?v166) (by simp only [List.getElem?_toArray, List.getElem?_cons_succ, List.getElem?_cons_zero]; rfl) (by kernel_rfl) (by kernel_rfl) (by kernel_rfl) (by exact fun _ _ _ h => h) (Or.inl ⟨by rfl, fun w9 hS9 => ?hy166⟩) hHeld ?rest166
              case hy166 =>
                dsimp only at hS9
                obtain ⟨s0, s1, s2, s3, s4, s5⟩ := hS9
                go_simp
                try with_reducible rfl
              try simp only [Act.put, List.setIfInBounds_toArray, List.set_cons_zero, List.set_cons_succ]
              refine wpAnyH_ready (rs := [3]) (by kernel_rfl) (by simp) (AllReadyH.cons (by simp only [List.getElem?_toArray, List.getElem?_cons_succ, List.getElem?_cons_zero]; rfl) (fun K hK => ?_) AllReadyH.nil)
              go_simp
              refine (KT1.out _ (HB.out.trans (HBd.out.mono HB.out.size))).mono ?_
              rintro e w1 ⟨rfl, hb1⟩
              have HB1 : Hid (Below wr.heap.size wr w1) := Lib.hid (HBd.out.trans (hb1.mono HBd.out.size))
              clear hb1
              go_wp2_with fail
              refine hK.out _ _ ⟨cell_stay E0.out HB1.out, cell_stay E1.out HB1.out, cell_stay E2.out HB1.out, cell_stay E3.out HB1.out, cell_stay E4.out HB1.out, cell_stay E5.out HB1.out⟩ (fun hHeld => ?_)
              clear hK K
              try simp only [Act.put, List.setIfInBounds_toArray, List.set_cons_zero, List.set_cons_succ]
              refine wpAnyH_take (i := 4) (v := ?v167) (by simp only [List.getElem?_toArray, List.getElem?_cons_succ, List.getElem?_cons_zero]; rfl) (by kernel_rfl) (by kernel_rfl) (by kernel_rfl) (by exact fun _ _ _ h => h) (Or.inl ⟨by rfl, fun w9 hS9 => ?hy167⟩) hHeld ?rest167
              case hy167 =>
                dsimp only at hS9
                obtain ⟨s0, s1, s2, s3, s4, s5⟩ := hS9
                go_simp
                try with_reducible rfl
              try simp only [Act.put, List.setIfInBounds_toArray, List.set_cons_zero, List.set_cons_succ]
              refine wpAnyH_take (i := 5) (v := undef) (by simp only [List.getElem?_toArray, List.getElem?_cons_succ, List.getElem?_cons_zero]; rfl) (by kernel_rfl) (by kernel_rfl) (by kernel_rfl) (by exact fun _ _ _ h => h) (Or.inr ⟨by rfl, rfl⟩) hHeld ?_
              try simp only [Act.put, List.setIfInBounds_toArray, List.set_cons_zero, List.set_cons_succ]
              refine wpAnyH_take (i := 6) (v := undef) (by simp only [List.getElem?_toArray, List.getElem?_cons_succ, List.getElem?_cons_zero]; rfl) (by kernel_rfl) (by kernel_rfl) (by kernel_rfl) (by exact fun _ _ _ h => h) (Or.inr ⟨by rfl, rfl⟩) hHeld ?_
              try simp only [Act.put, List.setIfInBounds_toArray, List.set_cons_zero, List.set_cons_succ]
              refine wpAnyH_take (i := 7) (v := undef) (by simp only [List.getElem?_toArray, List.getElem?_cons_succ, List.getElem?_cons_zero]; rfl) (by kernel_rfl) (by kernel_rfl) (by kernel_rfl) (by exact fun _ _ _ h => h) (Or.inr ⟨by rfl, rfl⟩) hHeld ?_
              try simp only [Act.put, List.setIfInBounds_toArray, List.set_cons_zero, List.set_cons_succ]
              refine wpAnyH_take (i := 8) (v := undef) (by simp only [List.getElem?_toArray, List.getElem?_cons_succ, List.getElem?_cons_zero]; rfl) (by kernel_rfl) (by kernel_rfl) (by kernel_rfl) (by exact fun _ _ _ h => h) (Or.inr ⟨by rfl, rfl⟩) hHeld ?_
              try simp only [Act.put, List.setIfInBounds_toArray, List.set_cons_zero, List.set_cons_succ]
              refine wpAnyH_take (i := 9) (v := undef) (by simp only [List.getElem?_toArray, List.getElem?_cons_succ, List.getElem?_cons_zero]; rfl) (by kernel_rfl) (by kernel_rfl) (by kernel_rfl) (by exact fun _ _ _ h => h) (Or.inr ⟨by rfl, rfl⟩) hHeld ?_
              try simp only [Act.put, List.setIfInBounds_toArray, List.set_cons_zero, List.set_cons_succ]
              refine wpAnyH_take (i := 10) (v := undef) (by simp only [List.getElem?_toArray, List.getElem?_cons_succ, List.getElem?_cons_zero]; rfl) (by kernel_rfl) (by kernel_rfl) (by kernel_rfl) (by exact fun _ _ _ h => h) (Or.inr ⟨by rfl, rfl⟩) hHeld ?_
              try simp only [Act.put, List.setIfInBounds_toArray, List.set_cons_zero, List.set_cons_succ]
              refine wpAnyH_take (i := 11) (v := undef) (by simp only [List.getElem?_toArray, List.getElem?_cons_succ, List.getElem?_cons_zero]; rfl) (by kernel_rfl) (by kernel_rfl) (by kernel_rfl) (by exact fun _ _ _ h => h) (Or.inr ⟨by rfl, rfl⟩) hHeld ?_
              try simp only [Act.put, List.setIfInBounds_toArray, List.set_cons_zero, List.set_cons_succ]
              refine wpAnyH_take (i := 12) (v := undef) (by simp only [List.getElem?_toArray, List.getElem?_cons_succ, List.getElem?_cons_zero]; rfl) (by kernel_rfl) (by kernel_rfl) (by kernel_rfl) (by exact fun _ _ _ h => h) (Or.inr ⟨by rfl, rfl⟩) hHeld ?_
              try simp only [Act.put, List.setIfInBounds_toArray, List.set_cons_zero, List.set_cons_succ]
              refine wpAnyH_take (i := 13) (v := undef) (by simp only [List.getElem?_toArray, List.getElem?_cons_succ, List.getElem?_cons_zero]; rfl) (by kernel_rfl) (by kernel_rfl) (by kernel_rfl) (by exact fun _ _ _ h => h) (Or.inr ⟨by rfl, rfl⟩) hHeld ?_
              try simp only [Act.put, List.setIfInBounds_toArray, List.set_cons_zero, List.set_cons_succ]
              refine wpAnyH_take (i := 14) (v := undef) (by simp only [List.getElem?_toArray, List.getElem?_cons_succ, List.getElem?_cons_zero]; rfl) (by kernel_rfl) (by kernel_rfl) (by kernel_rfl) (by exact fun _ _ _ h => h) (Or.inr ⟨by rfl, rfl⟩) hHeld ?_
              try simp only [Act.put, List.setIfInBounds_toArray, List.set_cons_zero, List.set_cons_succ]
              refine wpAnyH_take (i := 15) (v := ?v178) (by simp only [List.getElem?_toArray, List.getElem?_cons_succ, List.getElem?_cons_zero]; rfl) (by kernel_rfl) (by kernel_rfl) (by kernel_rfl) (by exact fun _ _ _ h => h) (Or.inl ⟨by rfl, fun w9 hS9 => ?hy178⟩) hHeld ?rest178
              case hy178 =>
                dsimp only at hS9
                obtain ⟨s0, s1, s2, s3, s4, s5⟩ := hS9
                go_simp
                try with_reducible rfl
              try simp only [Act.put, List.setIfInBounds_toArray, List.set_cons_zero, List.set_cons_succ]
              refine wpAnyH_take (i := 16) (v := ?v179) (by simp only [List.getElem?_toArray, List.getElem?_cons_succ, List.getElem?_cons_zero]; rfl) (by kernel_rfl) (by kernel_rfl) (by kernel_rfl) (by exact fun _ _ _ h => h) (Or.inl ⟨by rfl, fun w9 hS9 => ?hy179⟩) hHeld ?rest179
              case hy179 =>
                dsimp only at hS9
                obtain ⟨s0, s1, s2, s3, s4, s5⟩ := hS9
                go_simp
                try with_reducible rfl
              try simp only [Act.put, List.setIfInBounds_toArray, List.set_cons_zero, List.set_cons_succ]
              refine wpAnyH_take (i := 17) (v := ?v180) (by simp only [List.getElem?_toArray, List.getElem?_cons_succ, List.getElem?_cons_zero]; rfl) (by kernel_rfl) (by kernel_rfl) (by kernel_rfl) (by exact fun _ _ _ h => h) (Or.inl ⟨by rfl, fun w9 hS9 => ?hy180⟩) hHeld ?rest180
              case hy180 =>
                dsimp only at hS9
                obtain ⟨s0, s1, s2, s3, s4, s5⟩ := hS9
                go_simp
                try with_reducible rfl
              try simp only [Act.put, List.setIfInBounds_toArray, List.set_cons_zero, List.set_cons_succ]
              refine wpAnyH_take (i := 18) (v := ?v181) (by simp only [List.getElem?_toArray, List.getElem?_cons_succ, List.getElem?_cons_zero]; rfl) (by kernel_rfl) (by kernel_rfl) (by kernel_rfl) (by exact fun _ _ _ h => h) (Or.inl ⟨by rfl, fun w9 hS9 => ?hy181⟩) hHeld ?rest181
              case hy181 =>
                dsimp only at hS9
                obtain ⟨s0, s1, s2, s3, s4, s5⟩ := hS9
                go_simp
                try with_reducible rfl
              try simp only [Act.put, List.setIfInBounds_toArray, List.set_cons_zero, List.set_cons_succ]
              refine wpAnyH_take (i := 19) (v := ?v182) (by simp only [List.getElem?_toArray, List.getElem?_cons_succ, List.getElem?_cons_zero]; rfl) (by kernel_rfl) (by kernel_rfl) (by kernel_rfl) (by exact fun _ _ _ h => h) (Or.inl ⟨by rfl, fun w9 hS9 => ?hy182⟩) hHeld ?rest182
              case hy182 =>
                dsimp only at hS9
                obtain ⟨s0, s1, s2, s3, s4, s5⟩ := hS9
                go_simp
                try with_reducible rfl
              try simp only [Act.put, List.setIfInBounds_toArray, List.set_cons_zero, List.set_cons_succ]
              refine wpAnyH_ready (rs := [20]) (by kernel_rfl) (by simp) (AllReadyH.cons (by simp only [List.getElem?_toArray, List.getElem?_cons_succ, List.getElem?_cons_zero]; rfl) (fun K hK => ?_) AllReadyH.nil)
              go_simp
              refine (KT1.out _ (HB.out.trans (HB1.out.mono HB.out.size))).mono ?_
              rintro e w2 ⟨rfl, hb2⟩
              have HB2 : Hid (Below wr.heap.size wr w2) := Lib.hid (HB1.out.trans (hb2.mono HB1.out.size))
              clear hb2
              go_wp2_with fail
              refine hK.out _ _ ⟨cell_stay E0.out HB2.out, cell_stay E1.out HB2.out, cell_stay E2.out HB2.out, cell_stay E3.out HB2.out, cell_stay E4.out HB2.out, cell_stay E5.out HB2.out⟩ (fun hHeld => ?_)
              clear hK K
              try simp only [Act.put, List.setIfInBounds_toArray, List.set_cons_zero, List.set_cons_succ]
              refine wpAnyH_take (i := 21) (v := ?v183) (by simp only [List.getElem?_toArray, List.getElem?_cons_succ, List.getElem?_cons_zero]; rfl) (by kernel_rfl) (by kernel_rfl) (by kernel_rfl) (by exact fun _ _ _ h => h) (Or.inl ⟨by rfl, fun w9 hS9 => ?hy183⟩) hHeld ?rest183
              case hy183 =>
                dsimp only at hS9
                obtain ⟨s0, s1, s2, s3, s4, s5⟩ := hS9
                go_simp
                try with_reducible rfl
              try simp only [Act.put, List.setIfInBounds_toArray, List.set_cons_zero, List.set_cons_succ]
              refine wpAnyH_take (i := 22) (v := ?v184) (by simp only [List.getElem?_toArray, List.getElem?_cons_succ, List.getElem?_cons_zero]; rfl) (by kernel_rfl) (by kernel_rfl) (by kernel_rfl) (by exact fun _ _ _ h => h) (Or.inl ⟨by rfl, fun w9 hS9 => ?hy184⟩) hHeld ?rest184
              case hy184 =>
                dsimp only at hS9
                obtain ⟨s0, s1, s2, s3, s4, s5⟩ := hS9
                go_simp
                try with_reducible rfl
              try simp only [Act.put, List.setIfInBounds_toArray, List.set_cons_zero, List.set_cons_succ]
              refine wpAnyH_take (i := 23) (v := ?v185) (by simp only [List.getElem?_toArray, List.getElem?_cons_succ, List.getElem?_cons_zero]; rfl) (by kernel_rfl) (by kernel_rfl) (by kernel_rfl) (by exact fun _ _ _ h => h) (Or.inl ⟨by rfl, fun w9 hS9 => ?hy185⟩) hHeld ?rest185
              case hy185 =>
                dsimp only at hS9
                obtain ⟨s0, s1, s2, s3, s4, s5⟩ := hS9
                go_simp
                try with_reducible rfl
              try simp only [Act.put, List.setIfInBounds_toArray, List.set_cons_zero, List.set_cons_succ]
              refine wpAnyH_take (i := 24) (v := ?v186) (by simp only [List.getElem?_toArray, List.getElem?_cons_succ, List.getElem?_cons_zero]; rfl) (by kernel_rfl) (by kernel_rfl) (by kernel_rfl) (by exact fun _ _ _ h => h) (Or.inl ⟨by rfl, fun w9 hS9 => ?hy186⟩) hHeld ?rest186
              case hy186 =>
                dsimp only at hS9
                obtain ⟨s0, s1, s2, s3, s4, s5⟩ := hS9
                go_simp
                try with_reducible rfl
              try simp only [Act.put, List.setIfInBounds_toArray, List.set_cons_zero, List.set_cons_succ]
              refine wpAnyH_take (i := 25) (v := ?v187) (by simp only [List.getElem?_toArray, List.getElem?_cons_succ, List.getElem?_cons_zero]; rfl) (by kernel_rfl) (by kernel_rfl) (by kernel_rfl) (by exact fun _ _ _ h => h) (Or.inl ⟨by rfl, fun w9 hS9 => ?hy187⟩) hHeld ?rest187
              case hy187 =>
                dsimp only at hS9
                obtain ⟨s0, s1, s2, s3, s4, s5⟩ := hS9
                go_simp
                try with_reducible rfl
              try simp only [Act.put, List.setIfInBounds_toArray, List.set_cons_zero, List.set_cons_succ]
              refine wpAnyH_take (i := 26) (v := ?v188) (by simp only [List.getElem?_toArray, List.getElem?_cons_succ, List.getElem?_cons_zero]; rfl) (by kernel_rfl) (by kernel_rfl) (by kernel_rfl) (by exact fun _ _ _ h => h) (Or.inl ⟨by rfl, fun w9 hS9 => ?hy188⟩) hHeld ?rest188
              case hy188 =>
                dsimp only at hS9
                obtain ⟨s0, s1, s2, s3, s4, s5⟩ := hS9
                go_simp
                try with_reducible rfl
              try simp only [Act.put, List.setIfInBounds_toArray, List.set_cons_zero, List.set_cons_succ]
              refine wpAnyH_take (i := 27) (v := ?v189) (by simp only [List.getElem?_toArray, List.getElem?_cons_succ, List.getElem?_cons_zero]; rfl) (by kernel_rfl) (by kernel_rfl) (by kernel_rfl) (by exact fun _ _ _ h => h) (Or.inl ⟨by rfl, fun w9 hS9 => ?hy189⟩) hHeld ?rest189
              case hy189 =>
                dsimp only at hS9
                obtain ⟨s0, s1, s2, s3, s4, s5⟩ := hS9
                go_simp
                try with_reducible rfl
              try simp only [Act.put, List.setIfInBounds_toArray, List.set_cons_zero, List.set_cons_succ]
              refine wpAnyH_take (i := 28) (v := ?v190) (by simp only [List.getElem?_toArray, List.getElem?_cons_succ, List.getElem?_cons_zero]; rfl) (by kernel_rfl) (by kernel_rfl) (by kernel_rfl) (by exact fun _ _ _ h => h) (Or.inl ⟨by rfl, fun w9 hS9 => ?hy190⟩) hHeld ?rest190
              case hy190 =>
                dsimp only at hS9
                obtain ⟨s0, s1, s2, s3, s4, s5⟩ := hS9
                go_simp
                try with_reducible rfl
              try simp only [Act.put, List.setIfInBounds_toArray, List.set_cons_zero, List.set_cons_succ]
              refine wpAnyH_take (i := 29) (v := ?v191) (by simp only [List.getElem?_toArray, List.getElem?_cons_succ, List.getElem?_cons_zero]; rfl) (by kernel_rfl) (by kernel_rfl) (by kernel_rfl) (by exact fun _ _ _ h => h) (Or.inl ⟨by rfl, fun w9 hS9 => ?hy191⟩) hHeld ?rest191
              case hy191 =>
                dsimp only at hS9
                obtain ⟨s0, s1, s2, s3, s4, s5⟩ := hS9
                go_simp
                try with_reducible rfl
              try simp only [Act.put, List.setIfInBounds_toArray, List.set_cons_zero, List.set_cons_succ]
              refine wpAnyH_take (i := 30) (v := undef) (by simp only [List.getElem?_toArray, List.getElem?_cons_succ, List.getElem?_cons_zero]; rfl) (by kernel_rfl) (by kernel_rfl) (by kernel_rfl) (by exact fun _ _ _ h => h) (Or.inr ⟨by rfl, rfl⟩) hHeld ?_
              try simp only [Act.put, List.setIfInBounds_toArray, List.set_cons_zero, List.set_cons_succ]
              refine wpAnyH_take (i := 31) (v := undef) (by simp only [List.getElem?_toArray, List.getElem?_cons_succ, List.getElem?_cons_zero]; rfl) (by kernel_rfl) (by kernel_rfl) (by kernel_rfl) (by exact fun _ _ _ h => h) (Or.inr ⟨by rfl, rfl⟩) hHeld ?_
              try simp only [Act.put, List.setIfInBounds_toArray, List.set_cons_zero, List.set_cons_succ]
              refine wpAnyH_take (i := 32) (v := undef) (by simp only [List.getElem?_toArray, List.getElem?_cons_succ, List.getElem?_cons_zero]; rfl) (by kernel_rfl) (by kernel_rfl) (by kernel_rfl) (by exact fun _ _ _ h => h) (Or.inr ⟨by rfl, rfl⟩) hHeld ?_
              try simp only [Act.put, List.setIfInBounds_toArray, List.set_cons_zero, List.set_cons_succ]
              refine wpAnyH_take (i := 33) (v := undef) (by simp only [List.getElem?_toArray, List.getElem?_cons_succ, List.getElem?_cons_zero]; rfl) (by kernel_rfl) (by kernel_rfl) (by kernel_rfl) (by exact fun _ _ _ h => h) (Or.inr ⟨by rfl, rfl⟩) hHeld ?_
              try simp only [Act.put, List.setIfInBounds_toArray, List.set_cons_zero, List.set_cons_succ]
              refine wpAnyH_take (i := 34) (v := undef) (by simp only [List.getElem?_toArray, List.getElem?_cons_succ, List.getElem?_cons_zero]; rfl) (by kernel_rfl) (by kernel_rfl) (by kernel_rfl) (by exact fun _ _ _ h => h) (Or.inr ⟨by rfl, rfl⟩) hHeld ?_
              try simp only [Act.put, List.setIfInBounds_toArray, List.set_cons_zero, List.set_cons_succ]
              refine wpAnyH_take (i := 35) (v := undef) (by simp only [List.getElem?_toArray, List.getElem?_cons_succ, List.getElem?_cons_zero]; rfl) (by kernel_rfl) (by kernel_rfl) (by kernel_rfl) (by exact fun _ _ _ h => h) (Or.inr ⟨by rfl, rfl⟩) hHeld ?_
              try simp only [Act.put, List.setIfInBounds_toArray, List.set_cons_zero, List.set_cons_succ]
              refine wpAnyH_take (i := 36) (v := undef) (by simp only [List.getElem?_toArray, List.getElem?_cons_succ, List.getElem?_cons_zero]; rfl) (by kernel_rfl) (by kernel_rfl) (by kernel_rfl) (by exact fun _ _ _ h => h) (Or.inr ⟨by rfl, rfl⟩) hHeld ?_
              try simp only [Act.put, List.setIfInBounds_toArray, List.set_cons_zero, List.set_cons_succ]
              refine wpAnyH_take (i := 37) (v := ?v199) (by simp only [List.getElem?_toArray, List.getElem?_cons_succ, List.getElem?_cons_zero]; rfl) (by kernel_rfl) (by kernel_rfl) (by kernel_rfl) (by exact fun _ _ _ h => h) (Or.inl ⟨by rfl, fun w9 hS9 => ?hy199⟩) hHeld ?rest199
              case hy199 =>
                dsimp only at hS9
                obtain ⟨s0, s1, s2, s3, s4, s5⟩ := hS9
                go_simp
                try with_reducible rfl
              try simp only [Act.put, List.setIfInBounds_toArray, List.set_cons_zero, List.set_cons_succ]
              refine wpAnyH_take (i := 38) (v := ?v200) (by simp only [List.getElem?_toArray, List.getElem?_cons_succ, List.getElem?_cons_zero]; rfl) (by kernel_rfl) (by kernel_rfl) (by kernel_rfl) (by exact fun _ _ _ h => h) (Or.inl ⟨by rfl, fun w9 hS9 => ?hy200⟩) hHeld ?rest200
              case hy200 =>
                dsimp only at hS9
                obtain ⟨s0, s1, s2, s3, s4, s5⟩ := hS9
                go_simp
                try with_reducible rfl
              try simp only [Act.put, List.setIfInBounds_toArray, List.set_cons_zero, List.set_cons_succ]
              refine wpAnyH_take (i := 39) (v := ?v201) (by simp only [List.getElem?_toArray, List.getElem?_cons_succ, List.getElem?_cons_zero]; rfl) (by kernel_rfl) (by kernel_rfl) (by kernel_rfl) (by exact fun _ _ _ h => h) (Or.inl ⟨by rfl, fun w9 hS9 => ?hy201⟩) hHeld ?rest201
              case hy201 =>
                dsimp only at hS9
                obtain ⟨s0, s1, s2, s3, s4, s5⟩ := hS9
                go_simp
                try with_reducible rfl
              try simp only [Act.put, List.setIfInBounds_toArray, List.set_cons_zero, List.set_cons_succ]
              refine wpAnyH_done (by kernel_rfl) ?_ _
              have HBX := Lib.hid (HB.out.trans (HB2.out.mono HB.out.size))
              go_wp2_with fail
              go_ret
              exact ⟨by rw [HE.out]; rfl, HBX.out⟩
        · obtain rfl : j = m := by omega
          have HE := Lib.hid (HF.out (by rw [hl.out]; exact HFT.out))
          go_wp2_with fail
          go_ret
          exact ⟨by rw [HE.out]; rfl, HB.out⟩
    · have HE := Lib.hid (fitsFmt_len (l := l) (v := v) (by rw [hl.out, hvl.out]; exact hnm))
      have hq : ((m : Int) != (n : Int)) = true := by simp; omega
      clear hf hnm
      go_enter Try.func90, Try.ntmps90
      go_wp2_with fail
      refine KF.out.mono ?_
      rintro e w1 ⟨rfl, hb1⟩
      have HB1 := Lib.hid hb1
      clear hb1
      go_wp2_with fail
      go_ret
      exact ⟨by rw [HE.out]; rfl, HB1.out⟩
end Go.Proofs.Ytjkjnhkamieljaa
namespace Go.Proofs.Ytjkjnhkamieljaa
open Go.ChangeShapes Go.WideShapes Go.ChangeAt Go.RowKit
set_option linter.unusedVariables false

theorem infoIntS : (Try.prog.info? 3).map (fun i => (i.zero, i.size, i.bytes)) = some (some (.int .i64 0), 1, 8) := by kernel_rfl

end Go.Proofs.Ytjkjnhkamieljaa
namespace Go.Proofs.Ytjkjnhkamieljaa
open Go.ChangeShapes Go.WideShapes Go.ChangeAt Go.RowKit
set_option linter.unusedVariables false

/-- k elements are copied, the others are 0 still. -/
def fillIntS (l : List Int) (j n : Nat) : List Value := ((l.take j ++ List.replicate (n - j) 0).map (Value.int .i64))
theorem fillIntS_zero (l : List Int) (n : Nat) : fillIntS l 0 n = List.replicate n (.int .i64 0) := by unfold fillIntS; simp
theorem fillIntS_all (l : List Int) : fillIntS l l.length l.length = l.map (Value.int .i64) := by unfold fillIntS; simp
theorem fillIntS_step {l : List Int} {j : Nat} {x : Int} (hj : l[j]? = some x) {n : Nat} (hn : l.length = n) : (fillIntS l j n).set j (.int .i64 x) = fillIntS l (j + 1) n := by
  have hlt : j < l.length := by
    rcases Nat.lt_or_ge j l.length with h | h
    · exact h
    · rw [List.getElem?_eq_none h] at hj; cases hj
  unfold fillIntS
  rw [← List.map_set]
  congr 1
  have hl : (l.take j).length = j := by rw [List.length_take]; omega
  rw [List.set_append_right _ _ (by omega), hl, Nat.sub_self, show n - j = (n - (j + 1)) + 1 by omega, List.replicate_succ, List.set_cons_zero, List.take_add_one, hj]
  simp

end Go.Proofs.Ytjkjnhkamieljaa
namespace Go.Proofs.Ytjkjnhkamieljaa
open Go.ChangeShapes Go.WideShapes Go.ChangeAt Go.RowKit
set_option linter.unusedVariables false

theorem mostOf_le (k : Int) : mostOf k ≤ 99 := by
  unfold mostOf
  repeat' split
  all_goals omega
theorem roomF_le {l : List Fd} {j : Nat} {x : Fd} (hok : okTo l l.length) (hx : l[j]? = some x) : 1 ≤ roomF x ∧ roomF x ≤ 100 ∧ 1 ≤ x.max ∧ x.max ≤ 99 := by
  have h := hok j x (lt_of_some hx) hx
  unfold fieldOk at h
  rw [Bool.and_eq_true, decide_eq_true_eq] at h
  have h1 := h.1
  have h2 := mostOf_le x.kind
  by_cases hk : x.kind = 1
  · rw [roomF_num hk]
    omega
  · rw [roomF_more hk]
    omega
theorem longTo_le {l : List Fd} (hok : okTo l l.length) : ∀ j, j ≤ l.length → 0 ≤ longTo l j ∧ longTo l j ≤ 100 * j
  | 0, _ => by simp [longTo]
  | j + 1, hj => by
    obtain ⟨x, hx⟩ : ∃ x, l[j]? = some x := ⟨_, List.getElem?_eq_getElem (by omega)⟩
    have h1 := roomF_le hok hx
    have h2 := longTo_le hok j (by omega)
    rw [longTo_step hx]
    omega
theorem codeTo_few {l : List Fd} {v : List Vl} (hf : fitsFmt l v = true) (j : Nat) (hj : j ≤ l.length) : (codeTo l v j).length ≤ 600 := by
  obtain ⟨h1, h2, h3⟩ := fitsFmt_parts hf
  have h4 := (isFmt_iff.1 h1)
  have h5 := codeTo_long h4.2 h2 h3 j hj
  have h6 := longTo_le h4.2 j hj
  have := h4.1
  omega
/-- What is written for a list of values. -/
noncomputable def encOf (l : List Fd) (v : List Vl) : List Int := if fitsFmt l v = true then codeOf l v else []
theorem encOf_yes {l : List Fd} {v : List Vl} (h : fitsFmt l v = true) : encOf l v = codeOf l v := if_pos h
theorem encOf_no {l : List Fd} {v : List Vl} (h : fitsFmt l v = false) : encOf l v = [] := if_neg (by rw [h]; decide)
theorem encOf_few (l : List Fd) (v : List Vl) : (encOf l v).length ≤ 600 := by
  cases h : fitsFmt l v with
  | false => rw [encOf_no h]; simp
  | true => rw [encOf_yes h]; exact codeTo_few h _ (Nat.le_refl _)
/-- What a function leaves that writes a message. -/
def EncTold (tI : TypeId) (l : List Fd) (v : List Vl) (w : World) (e : Ending) (w' : World) : Prop :=
  ∃ a n c, e = .returned (.tuple #[.slice a n c, .bool (fitsFmt l v)]) ∧ Own .i64 tI w' w.heap.size a n c (encOf l v) ∧ Below w.heap.size w w'

set_option maxHeartbeats 4000000 in
set_option maxRecDepth 100000 in
theorem specEncodeMessage_any (a : Option Addr) (n c : Nat) (l : List Fd) (b : Option Addr) (m d : Nat) (v : List Vl) (w : World) (h : Fds w a n l) (hv : Vals w b m v) (hn : n ≤ 1000000000) (hm : m ≤ 1000000000) :
    Calls Try.prog 69 #[.slice a n c, .slice b m d] w (EncTold 3 l v w) := by
  have H := Lib.hid h
  have HV := Lib.hid hv
  have hl := Lib.hid h.len
  have hvl := Lib.hid hv.len
  have KF := Lib.hid (fun (w0 : World) (hb : Below w.heap.size w w0) => specFitsFormat_any a n c l b m d v w0 (h.same hb) (hv.same hb) hn hm)
  have KT := Lib.hid (fun (i : Int) (w0 : World) (hb : Below w.heap.size w w0) => specIsThere_any a n c l b m d v i w0 (h.same hb) (hv.same hb) hn hm)
  obtain ⟨i0, hi, hz0, hz1, hz2⟩ := info_parts infoIntS
  have HI := Lib.hid (And.intro hi (And.intro hz0 (And.intro hz1 hz2)))
  clear h hv hi hz0 hz1 hz2
  have HB0 : Hid (Below w.heap.size w (w.alloc (.cells #[] 3))) := Lib.hid (alloc_same _ _)
  have HO0 : Hid (Own .i64 3 (w.alloc (.cells #[] 3)) w.heap.size (some ⟨w.heap.size, 0, none⟩) 0 0 []) := Lib.hid (Own.empty (Nat.le_refl _))
  cases hf : fitsFmt l v with
  | false =>
    have HE := Lib.hid (encOf_no hf)
    have HF := Lib.hid hf
    rw [hf] at KF
    clear hf
    go_enter Try.func69, Try.ntmps69
    go_wp2_with fail
    refine (KF.out _ HB0.out).mono ?_
    rintro e w1 ⟨rfl, hb1⟩
    have HB1 := Lib.hid (HB0.out.trans (hb1.mono HB0.out.size))
    have HO1 := Lib.hid (HO0.out.same hb1)
    clear hb1
    go_wp2_with fail
    go_ret2
    exact ⟨_, _, _, by rw [HF.out]; rfl, by rw [HE.out]; exact HO1.out, HB1.out⟩
  | true =>
    have HE := Lib.hid (encOf_yes hf)
    have HF := Lib.hid hf
    have HFEW := Lib.hid (codeTo_few hf)
    have hvn : m = n := by have := (fitsFmt_parts hf).2.1; rw [hl.out, hvl.out] at this; exact this
    subst hvn
    rw [hf] at KF
    clear hf
    go_enter Try.func69, Try.ntmps69
    go_wp2_with fail
    refine (KF.out _ HB0.out).mono ?_
    rintro e w1 ⟨rfl, hb1⟩
    have HB1 := Lib.hid (HB0.out.trans (hb1.mono HB0.out.size))
    have HO1 := Lib.hid (HO0.out.same hb1)
    clear hb1
    go_wp2_with fail
    go_loopw [6, 7] (fun s i wr => ∃ (a' : Option Addr) (n' c' j : Nat), s = .slice a' n' c' ∧ i = .int .i64 j ∧ j ≤ m ∧ Own .i64 3 wr w.heap.size a' n' c' (codeTo l v j) ∧ Below w.heap.size w wr) (fun _ i _ => m - (intOf i).toNat)
    case atStart => exact ⟨_, _, _, 0, rfl, rfl, Nat.zero_le _, HO1.out, HB1.out⟩
    case round =>
      obtain ⟨a', n', c', j, rfl, rfl, hj, ho, hb⟩ := hrel
      have HO := Lib.hid ho
      have HB := Lib.hid hb
      have hfew := HFEW.out j (by rw [hl.out]; exact hj)
      have hn' : n' ≤ 600 := by rw [← ho.len]; exact hfew
      clear ho hb hfew
      by_cases hlt : j < m
      · obtain ⟨bb, o, ⟨xk, xm, xt, xi⟩, rfl, hx, hc0, hc1, hc2, hc3⟩ := fds_at H.out hlt
        obtain ⟨b2, o2, p2, m2, d2, yk, yl, rfl, hy, hd0, hd1, hN, hr⟩ := HV.out.at_ hlt
        dsimp only at hc0
        clear hc1 hc2 hc3
        have KTJ := KT.out j wr HB.out
        cases ht : isThere l v j with
        | false =>
          have HS := Lib.hid (codeTo_no ht)
          rw [ht] at KTJ
          clear ht hx hy hc0 hd0 hd1 hN
          go_wp2_with fail
          refine KTJ.mono ?_
          rintro e w2 ⟨rfl, hb2⟩
          have HB2 := Lib.hid (HB.out.trans (hb2.mono HB.out.size))
          have HO2 := Lib.hid (HO.out.same hb2)
          clear hb2 KTJ
          go_wp2_with fail
          go_roundw
          case rel => exact ⟨_, _, _, j + 1, rfl, by go_num, by omega, by rw [HS.out]; exact HO2.out, HB2.out⟩
          case measure => simp [intOf]; omega
        | true =>
          have hstep := codeTo_yes hx hy ht
          have hfew2 := HFEW.out (j + 1) (by rw [hl.out]; exact hlt)
          rw [ht] at KTJ
          have C0 := Lib.hid hc0
          have D0 := Lib.hid hd0
          have D1 := Lib.hid hd1
          have HN := Lib.hid hN
          have hql := hN.len
          clear ht hx hy hc0 hd0 hd1 hN
          by_cases hk : xk = 1
          · have b1 : (xk == 1) = true := by simpa using hk
            have HS : Hid (codeTo l v (j + 1) = codeTo l v j ++ [yk]) := Lib.hid (by rw [hstep]; unfold codeV; rw [if_pos hk])
            clear hstep hfew2 hk
            go_wp2_with fail
            refine KTJ.mono ?_
            rintro e w2 ⟨rfl, hb2⟩
            have HB2 := Lib.hid (HB.out.trans (hb2.mono HB.out.size))
            have HO2 := Lib.hid (HO.out.same hb2)
            have c0 := cell_stay C0.out HB2.out
            have d0 := cell_stay D0.out HB2.out
            clear hb2 KTJ
            go_wp2_with (at_builtin; refine wpl_app _ rfl (.tmp 49) (.tmp 55) 32 rfl .i64 3 i0 (.int .i64 0) 8 Try.underlying32 HI.out.1 HI.out.2.1 HI.out.2.2.1 HI.out.2.2.2 rfl rfl (HO2.out.alloc _) rfl (nums_new _ _ _ _) (by omega) ?c1 ?c2 ?_)
            case c1 => omega
            case c2 => have := HB2.out.size; simp; omega
            intro a3 c3 w3 ho3 hb3
            have HO3 := Lib.hid ho3
            have HB3 := Lib.hid (HB2.out.trans (((alloc_same _ _).mono HB2.out.size).trans hb3))
            clear ho3 hb3 c0 d0
            go_wp2_with fail
            go_roundw
            case rel => exact ⟨_, _, _, j + 1, rfl, by go_num, by omega, by rw [HS.out]; exact HO3.out, HB3.out⟩
            case measure => simp [intOf]; omega
          · have b1 : (xk == 1) = false := by simpa using hk
            have hcv : codeV ⟨xk, xm, xt, xi⟩ ⟨yk, yl⟩ = (m2 : Int) :: yl := by unfold codeV; rw [if_neg hk]; dsimp only; rw [hql]
            rw [hcv] at hstep
            have HS : Hid (codeTo l v (j + 1) = codeTo l v j ++ (m2 : Int) :: yl) := Lib.hid hstep
            have hm2 : m2 ≤ 600 := by rw [hstep] at hfew2; simp only [List.length_append, List.length_cons] at hfew2; omega
            clear hstep hfew2 hk hcv
            go_wp2_with fail
            refine KTJ.mono ?_
            rintro e w2 ⟨rfl, hb2⟩
            have HB2 := Lib.hid (HB.out.trans (hb2.mono HB.out.size))
            have HO2 := Lib.hid (HO.out.same hb2)
            have c0 := cell_stay C0.out HB2.out
            have d1 := cell_stay D1.out HB2.out
            clear hb2 KTJ
            go_wp2_with (at_builtin; refine wpl_app _ rfl (.tmp 20) (.tmp 27) 32 rfl .i64 3 i0 (.int .i64 0) 8 Try.underlying32 HI.out.1 HI.out.2.1 HI.out.2.2.1 HI.out.2.2.2 rfl rfl (HO2.out.alloc _) rfl (nums_new _ _ _ _) (by omega) ?c1 ?c2 ?_)
            case c1 => omega
            case c2 => have := HB2.out.size; simp; omega
            intro a3 c3 w3 ho3 hb3
            have HO3 := Lib.hid ho3
            have HB3 := Lib.hid (HB2.out.trans (((alloc_same _ _).mono HB2.out.size).trans hb3))
            have HN3 := Lib.hid (HN.out.same HB3.out)
            clear ho3 hb3 c0 d1
            have d1 := cell_stay D1.out HB3.out
            go_wp2_with (at_builtin; refine wpl_app _ rfl (.tmp 29) (.tmp 34) 32 rfl .i64 3 i0 (.int .i64 0) 8 Try.underlying32 HI.out.1 HI.out.2.1 HI.out.2.2.1 HI.out.2.2.2 rfl rfl HO3.out rfl HN3.out (by omega) ?c3 ?c4 ?_)
            case c3 => omega
            case c4 => exact HB3.out.size
            intro a4 c4 w4 ho4 hb4
            have HO4 := Lib.hid ho4
            have HB4 := Lib.hid (HB3.out.trans hb4)
            clear ho4 hb4 d1
            go_wp2_with fail
            go_roundw
            case rel => exact ⟨_, _, _, j + 1, rfl, by go_num, by omega, by rw [HS.out]; simpa using HO4.out, HB4.out⟩
            case measure => simp [intOf]; omega
      · obtain rfl : j = m := by omega
        go_wp2_with fail
        go_ret2
        refine ⟨_, _, _, by rw [HF.out]; rfl, ?_, HB.out⟩
        rw [HE.out]
        unfold codeOf
        rw [hl.out]
        exact HO.out
/-- What a function leaves that tells a message's length. -/
noncomputable def lenOf (l : List Fd) (v : List Vl) : Int := if fitsFmt l v = true then ((encOf l v).length : Int) else -1
end Go.Proofs.Ytjkjnhkamieljaa
namespace Go.Proofs.Ytjkjnhkamieljaa
open Go.ChangeShapes Go.WideShapes Go.ChangeAt Go.RowKit
set_option linter.unusedVariables false

section
variable {tO tI : TypeId} {w w' : World} {B S n c : Nat} {a : Option Addr} {l : List Vl} {hs : List Vh}
/-- A list without values. -/
theorem OwnV.empty (hB : B ≤ w.heap.size) : OwnV tO tI (w.alloc (.cells #[] tO)) B (some ⟨w.heap.size, 0, Option.none⟩) 0 0 [] :=
  ⟨[], ⟨rfl, World.ownsRow_lit w #[] 0 hB (by unfold maxLen; omega) (by simp)⟩, rfl, fun j g x h => by simp at h, fun i j h k _ h' => by simp at h'⟩
/-- All blocks of a list of values lie below S. -/
def Lim (S : Nat) (a : Option Addr) (hs : List Vh) : Prop := (∀ ad, a = some ad → ad.block < S) ∧ ∀ (j : Nat) (h : Vh) (ad : Addr), hs[j]? = some h → h.p = some ad → ad.block < S
/-- The list of values is the call's own, in blocks from B on and below S. -/
def OwnVB (S : Nat) (tO tI : TypeId) (w : World) (B : Nat) (a : Option Addr) (n c : Nat) (l : List Vl) : Prop :=
  ∃ hs : List Vh, OwnI Vh.enc 2 tO w B a n c hs ∧ RowsV tI w B a hs l ∧ Lim S a hs
theorem OwnVB.ownV (h : OwnVB S tO tI w B a n c l) : OwnV tO tI w B a n c l := by
  obtain ⟨hs, h1, h2, _⟩ := h
  exact ⟨hs, h1, h2⟩
theorem OwnV.lim (h : OwnV tO tI w B a n c l) : OwnVB w.heap.size tO tI w B a n c l := by
  obtain ⟨hs, h1, h2⟩ := h
  exact ⟨hs, h1, h2, fun ad e => (h1.span ad e).2, fun j k ad hk e => (h2.lt hk e).2⟩
theorem Own.far {k : IntKind} {t : TypeId} {p : Option Addr} {m d : Nat} {y : List Int} {row : Option Nat} (h : Own k t w B p m d y) (hg : w.grownBy w' row) (hr : ∀ ad, p = some ad → row ≠ some ad.block) : Own k t w' B p m d y := by
  cases p with
  | none => exact ⟨h.1, h.2.kept hg (Or.inl rfl)⟩
  | some ad =>
    refine ⟨h.1, h.2.kept hg (Or.inr ?_)⟩
    have h1 := hr ad rfl
    cases row with
    | none => simp [Value.ownBlock]
    | some r =>
      simp only [ne_eq, Option.some.injEq] at h1
      simp only [Value.ownBlock, ne_eq, Option.some.injEq]
      omega
theorem OwnI.far {α : Type} {enc : α → List Value} {s : Nat} {t : TypeId} {m d : Nat} {p : Option Addr} {y : List α} {row : Option Nat} (h : OwnI enc s t w B p m d y) (hg : w.grownBy w' row) (hr : ∀ ad, p = some ad → row ≠ some ad.block) : OwnI enc s t w' B p m d y := by
  cases p with
  | none => exact ⟨h.1, h.2.kept hg (Or.inl rfl)⟩
  | some ad =>
    refine ⟨h.1, h.2.kept hg (Or.inr ?_)⟩
    have h1 := hr ad rfl
    cases row with
    | none => simp [Value.ownBlock]
    | some r =>
      simp only [ne_eq, Option.some.injEq] at h1
      simp only [Value.ownBlock, ne_eq, Option.some.injEq]
      omega
/-- A write to a block that is none of the list's. -/
theorem OwnVB.far {row : Option Nat} (h : OwnVB S tO tI w B a n c l) (hg : w.grownBy w' row) (hr : ∀ r, row = some r → r < B ∨ S ≤ r) : OwnVB S tO tI w' B a n c l := by
  obtain ⟨hs, h1, h2, h3⟩ := h
  have hne : ∀ x, B ≤ x → x < S → row ≠ some x := fun x hx hy e => by
    rcases hr x e with q | q <;> omega
  refine ⟨hs, h1.far hg fun ad e => hne _ (h1.span ad e).1 (h3.1 ad e), ⟨h2.1, fun j g x hk hx => ?_, h2.2.2⟩, h3⟩
  obtain ⟨e, ho, hd⟩ := h2.2.1 j g x hk hx
  exact ⟨e, ho.far hg fun ad e => hne _ (ho.span ad e).1 (h3.2 j g ad hk e), hd⟩
theorem OwnVB.same (h : OwnVB S tO tI w B a n c l) (hb : Below w.heap.size w w') : OwnVB S tO tI w' B a n c l := h.far (grown_below hb none) fun r e => by cases e
/-- One value of the list is another one. -/
theorem RowsV.set (h : RowsV tI w B a hs l) {i : Nat} (hi : i < hs.length) (v : Vh) (y : List Int) (hv : Own .i64 tI w' B v.p v.m v.c y)
    (hk : ∀ (j : Nat) (g : Vh) (x : Vl), j ≠ i → hs[j]? = some g → l[j]? = some x → Own .i64 tI w' B g.p g.m g.c x.items)
    (ho : ∀ ad bd, v.p = some ad → a = some bd → ad.block ≠ bd.block)
    (hd : ∀ (j : Nat) (g : Vh) (ad bd : Addr), j ≠ i → hs[j]? = some g → v.p = some ad → g.p = some bd → ad.block ≠ bd.block) : RowsV tI w' B a (hs.set i v) (l.set i ⟨v.num, y⟩) := by
  refine ⟨by rw [List.length_set, List.length_set]; exact h.1, fun j g x hg hx => ?_, fun j j' g g' hjj hg hg' ad bd ha hb => ?_⟩
  · by_cases e : j = i
    · subst e
      rw [List.getElem?_set_self hi] at hg
      rw [List.getElem?_set_self (by rw [← h.1]; exact hi)] at hx
      cases hg
      cases hx
      exact ⟨rfl, hv, ho⟩
    · rw [List.getElem?_set_ne (by omega)] at hg hx
      exact ⟨(h.2.1 j g x hg hx).1, hk j g x e hg hx, (h.2.1 j g x hg hx).2.2⟩
  · by_cases e : j = i
    · subst e
      rw [List.getElem?_set_self hi] at hg
      rw [List.getElem?_set_ne (by omega)] at hg'
      cases hg
      exact hd j' g' ad bd (by omega) hg' ha hb
    · rw [List.getElem?_set_ne (by omega)] at hg
      by_cases e' : j' = i
      · subst e'
        rw [List.getElem?_set_self hi] at hg'
        cases hg'
        exact fun q => hd j g bd ad e hg hb ha q.symm
      · rw [List.getElem?_set_ne (by omega)] at hg'
        exact h.2.2 j j' g g' hjj hg hg' ad bd ha hb
theorem RowsV.other (h : RowsV tI w B a hs l) {i j : Nat} {g k : Vh} (hij : j ≠ i) (hj : hs[j]? = some g) (hi : hs[i]? = some k) : ∀ ad bd, k.p = some ad → g.p = some bd → ad.block ≠ bd.block := fun ad bd ha hb q => by
  rcases Nat.lt_or_ge i j with e | e
  · exact h.2.2 i j k g e hi hj ad bd ha hb q
  · exact h.2.2 j i g k (by omega) hj hi bd ad hb ha q.symm
theorem flatVh_num : ∀ (hs : List Vh) (i : Nat) (g : Vh) (k : Int), hs[i]? = some g → (flatOf Vh.enc hs).set (i * 2) (.int .i64 k) = flatOf Vh.enc (hs.set i ⟨k, g.p, g.m, g.c⟩)
  | [], i, g, k, h => by simp at h
  | y :: t, 0, g, k, h => by
    have : y = g := by simpa using h
    subst this
    simp [flatOf, Vh.enc]
  | y :: t, i + 1, g, k, h => by
    have ih := flatVh_num t i g k (by simpa using h)
    have e : flatOf Vh.enc (y :: t) = .int .i64 y.num :: .slice y.p y.m y.c :: flatOf Vh.enc t := by simp [flatOf, Vh.enc]
    rw [e, show (i + 1) * 2 = i * 2 + 1 + 1 by omega, List.set_cons_succ, List.set_cons_succ, ih, List.set_cons_succ]
    simp [flatOf, Vh.enc]
theorem flatVh_hdr : ∀ (hs : List Vh) (i : Nat) (g : Vh) (p : Option Addr) (m d : Nat), hs[i]? = some g → (flatOf Vh.enc hs).set (i * 2 + 1) (.slice p m d) = flatOf Vh.enc (hs.set i ⟨g.num, p, m, d⟩)
  | [], i, g, p, m, d, h => by simp at h
  | y :: t, 0, g, p, m, d, h => by
    have : y = g := by simpa using h
    subst this
    simp [flatOf, Vh.enc]
  | y :: t, i + 1, g, p, m, d, h => by
    have ih := flatVh_hdr t i g p m d (by simpa using h)
    have e : flatOf Vh.enc (y :: t) = .int .i64 y.num :: .slice y.p y.m y.c :: flatOf Vh.enc t := by simp [flatOf, Vh.enc]
    rw [e, show (i + 1) * 2 + 1 = i * 2 + 1 + 1 + 1 by omega, List.set_cons_succ, List.set_cons_succ, ih, List.set_cons_succ]
    simp [flatOf, Vh.enc]
/-- The number of a value is stored. -/
theorem OwnV.putNum {g : Nat} (h : OwnV tO tI w B (some ⟨g, 0, none⟩) n c l) {i : Nat} {x : Vl} (hx : l[i]? = some x) (k : Int) :
    OwnV tO tI (w.setCell ⟨g, i * 2, none⟩ (.int .i64 k)) B (some ⟨g, 0, none⟩) n c (l.set i ⟨k, x.items⟩) ∧ w.grownBy (w.setCell ⟨g, i * 2, none⟩ (.int .i64 k)) (some g) := by
  obtain ⟨hs, h1, h2⟩ := h
  have hih : i < hs.length := by rw [h2.1]; exact lt_of_some hx
  have hg := List.getElem?_eq_getElem hih
  have h3 := h1.2.stored (i * 2) (.int .i64 k)
  rw [flatVh_num hs i _ k hg] at h3
  obtain ⟨e1, ho, hd⟩ := h2.2.1 i _ x hg hx
  refine ⟨⟨_, ⟨by rw [List.length_set]; exact h1.len, h3.1⟩, h2.set hih ⟨k, (hs[i]).p, (hs[i]).m, (hs[i]).c⟩ x.items (Own.beside (b := some ⟨g, 0, none⟩) (n := n) (c := c) ho h3.2 hd) (fun j v y hj hv hy => ?_) hd (fun j v ad bd hj hv ha hb => h2.other hj hv hg ad bd ha hb)⟩, h3.2⟩
  obtain ⟨_, ho2, hd2⟩ := h2.2.1 j v y hv hy
  exact Own.beside (b := some ⟨g, 0, none⟩) (n := n) (c := c) ho2 h3.2 hd2
/-- A value is stored that is empty. -/
theorem OwnV.putZero {g : Nat} (h : OwnV tO tI w B (some ⟨g, 0, none⟩) n c l) {i : Nat} (hi : i < n) :
    OwnV tO tI ((w.setCell ⟨g, i * 2, none⟩ (.int .i64 0)).setCell ⟨g, i * 2 + 1, none⟩ (.slice none 0 0)) B (some ⟨g, 0, none⟩) n c (l.set i ⟨0, []⟩) ∧ w.grownBy ((w.setCell ⟨g, i * 2, none⟩ (.int .i64 0)).setCell ⟨g, i * 2 + 1, none⟩ (.slice none 0 0)) (some g) :=
  OwnV.put h (Below.refl _ _) hi 0 none 0 0 [] Own.nil (fun ad e => by cases e)
/-- The integers of a value are others, in the same block or in a new one. -/
theorem OwnV.putItems {g : Nat} {u : World} (h : OwnV tO tI u B (some ⟨g, 0, none⟩) n c l) {i : Nat} {x : Vl} {v : Vh} (hx : l[i]? = some x) (hi : OwnI Vh.enc 2 tO u B (some ⟨g, 0, none⟩) n c hs) (hr : RowsV tI u B (some ⟨g, 0, none⟩) hs l) (hv : hs[i]? = some v)
    {p : Option Addr} {m d : Nat} {y : List Int} (hg : u.grownBy w (Value.ownBlock (.slice v.p v.m v.c))) (ho : Own .i64 tI w B p m d y) (hp : ∀ ad, p = some ad → (∃ bd, v.p = some bd ∧ bd.block = ad.block) ∨ u.heap.size ≤ ad.block) :
    OwnV tO tI (w.setCell ⟨g, i * 2 + 1, none⟩ (.slice p m d)) B (some ⟨g, 0, none⟩) n c (l.set i ⟨x.num, y⟩) ∧ w.grownBy (w.setCell ⟨g, i * 2 + 1, none⟩ (.slice p m d)) (some g) := by
  have hgs := hi.span _ rfl
  dsimp only at hgs
  have hih : i < hs.length := by rw [hr.1]; exact lt_of_some hx
  obtain ⟨e1, hov, hdv⟩ := hr.2.1 i v x hv hx
  have hrow : ∀ ad, Value.ownBlock (.slice v.p v.m v.c) = some ad → ∃ bd, v.p = some bd ∧ bd.block = ad := fun ad e => by
    cases hvp : v.p with
    | none => rw [hvp] at e; simp [Value.ownBlock] at e
    | some bd => rw [hvp] at e; simp only [Value.ownBlock, Option.some.injEq] at e; exact ⟨bd, rfl, e⟩
  have h1 : OwnI Vh.enc 2 tO w B (some ⟨g, 0, none⟩) n c hs := hi.far hg fun ad e e2 => by
    cases e
    obtain ⟨bd, hb, hbb⟩ := hrow _ e2
    exact hdv bd _ hb rfl hbb
  have h3 := h1.2.stored (i * 2 + 1) (.slice p m d)
  rw [flatVh_hdr hs i v p m d hv] at h3
  have hpg : ∀ ad, p = some ad → ad.block ≠ g := fun ad e q => by
    rcases hp ad e with ⟨bd, hb, hbb⟩ | hlt
    · exact hdv bd _ hb rfl (by rw [hbb]; exact q)
    · omega
  have e2 : (⟨x.num, y⟩ : Vl) = ⟨v.num, y⟩ := by rw [e1]
  rw [e2]
  refine ⟨⟨_, ⟨by rw [List.length_set]; exact h1.len, h3.1⟩, hr.set hih ⟨v.num, p, m, d⟩ y (Own.beside (b := some ⟨g, 0, none⟩) (n := n) (c := c) ho h3.2 fun ad bd ha hb => by cases hb; exact hpg ad ha) (fun j q z hj hq hz => ?_) (fun ad bd ha hb => by cases hb; exact hpg ad ha) (fun j q ad bd hj hq ha hb => ?_)⟩, h3.2⟩
  · obtain ⟨_, ho2, hd2⟩ := hr.2.1 j q z hq hz
    refine Own.beside (b := some ⟨g, 0, none⟩) (n := n) (c := c) (ho2.far hg fun ad e e3 => ?_) h3.2 hd2
    obtain ⟨bd, hb, hbb⟩ := hrow _ e3
    exact hr.other hj hq hv bd ad hb e hbb
  · rcases hp ad ha with ⟨cd, hb2, hbb⟩ | hlt
    · rw [← hbb]
      exact hr.other hj hq hv cd bd hb2 hb
    · have := (hr.lt hq hb).2
      omega
end
section
variable {P : Program} (w : World)
/-- A value is appended to a list of values of the call's own. -/
theorem run_appV (t ty e tI : TypeId) (i : TypeInfo) (z : Value) (bytes : Nat) (ht : P.underlying t = some (.slice e)) (hi : P.info? e = some i) (hz : i.zero = some z) (hsize : i.size = 2) (hby : i.bytes = bytes) (hzs : z.cells.size = 2)
    {S B n c m d b o dd : Nat} {a p : Option Addr} {l : List Vl} {k : Int} {y : List Int} (ho : OwnVB S e tI w B a n c l) (hn : Items Vh.enc 2 w (some ⟨b, o, none⟩) 1 [⟨k, p, m, d⟩]) (hv : Own .i64 tI w B p m d y) (hf : ∀ ad, p = some ad → S ≤ ad.block)
    (hbytes : (n + 1) * bytes ≤ 140737488355328) (h63 : n + 1 ≤ maxLen) (hB : B ≤ w.heap.size) :
    ∃ a' c' w', (Builtin.append_ #[t, t] ty #[.slice a n c, .slice (some ⟨b, o, none⟩) 1 dd]).run P w = .ok (.slice a' (n + 1) c') w' ∧ OwnV e tI w' B a' (n + 1) c' (l ++ [⟨k, y⟩]) ∧ Below B w w' ∧ w.grownBy w' (Value.ownBlock (.slice a n c)) := by
  obtain ⟨hs, h1, h2, h3⟩ := ho
  obtain ⟨v', w', hr, q1, q2, _, q3⟩ := run_append_own_at (P := P) w B t ty e i z 2 bytes ht hi hz hsize hby hzs (by omega) (.slice a n c) n (flatOf Vh.enc hs) h1.2 ⟨b, o, none⟩ 1 dd (flatOf Vh.enc [⟨k, p, m, d⟩]) (by rw [flatOf_len Vh.enc_len]; rfl) (items_flat Vh.enc_len (by omega) hn) (fun u hu => by
      obtain ⟨x, _, hx⟩ := List.mem_flatMap.1 hu
      exact Vh.cells x u hx) h63 hbytes hB
  rw [← flatOf_app] at q1
  have hl : (hs ++ [(⟨k, p, m, d⟩ : Vh)]).length = n + 1 := by rw [List.length_append, h1.1]; rfl
  have hbw : Below B w w' := grown_to q2 (Below.refl B w) h1.span (Nat.le_refl _) hB
  rcases q1.2 with ⟨rfl, hn'⟩ | ⟨g, cap, cur, rfl, hrest⟩
  · omega
  · have hgb : (∃ bd, a = some bd ∧ bd.block = g) ∨ g = w.heap.size := by
      rcases q3 with e | e
      · left
        cases ha : a with
        | none => rw [ha] at e; simp [Value.ownBlock] at e
        | some bd => rw [ha] at e; simp only [Value.ownBlock, Option.some.injEq] at e; exact ⟨bd, rfl, e.symm⟩
      · right
        simpa [Value.ownBlock] using e
    have hpa : ∀ ad bd, p = some ad → a = some bd → ad.block ≠ bd.block := fun ad bd ha hb => by
      have := hf ad ha
      have := h3.1 bd hb
      omega
    have hpg : ∀ ad, p = some ad → ad.block ≠ g := fun ad ha => by
      rcases hgb with ⟨bd, hb, e⟩ | e
      · rw [← e]; exact hpa ad bd ha hb
      · have := (hv.span ad ha).2
        omega
    refine ⟨_, cap, w', hr, ⟨_, ⟨hl, q1⟩, by rw [List.length_append, List.length_append, h2.1]; rfl, fun j v x hj hx => ?_, fun j j' v v' hjj hj hj' ad bd ha hb => ?_⟩, hbw, q2⟩
    · rcases Nat.lt_or_ge j hs.length with q | q
      · rw [List.getElem?_append_left q] at hj
        rw [List.getElem?_append_left (by rw [← h2.1]; exact q)] at hx
        obtain ⟨e1, ho1, hd1⟩ := h2.2.1 j v x hj hx
        refine ⟨e1, ho1.beside q2 hd1, fun ad bd ha hb => ?_⟩
        cases hb
        rcases hgb with ⟨cd, hc, e⟩ | e
        · have := hd1 ad cd ha hc
          rw [e] at this
          exact this
        · have := (h2.lt hj ha).2
          dsimp only
          omega
      · obtain rfl : j = hs.length := by have := lt_of_some hj; rw [List.length_append] at this; simp at this; omega
        rw [List.getElem?_append_right (Nat.le_refl _), Nat.sub_self] at hj
        rw [List.getElem?_append_right (by rw [h2.1]; exact Nat.le_refl _), h2.1, Nat.sub_self] at hx
        cases hj
        cases hx
        exact ⟨rfl, hv.beside q2 hpa, fun ad bd ha hb => by cases hb; exact hpg ad ha⟩
    · have hjl : j < hs.length := by have := lt_of_some hj'; rw [List.length_append] at this; simp at this; omega
      rw [List.getElem?_append_left hjl] at hj
      rcases Nat.lt_or_ge j' hs.length with q | q
      · rw [List.getElem?_append_left q] at hj'
        exact h2.2.2 j j' v v' hjj hj hj' ad bd ha hb
      · obtain rfl : j' = hs.length := by have := lt_of_some hj'; rw [List.length_append] at this; simp at this; omega
        rw [List.getElem?_append_right (Nat.le_refl _), Nat.sub_self] at hj'
        cases hj'
        have := h3.2 j v ad hj ha
        have := hf bd hb
        omega
theorem wpl_appV {ops : Array Oper} {rest : List Oper} {o : Oper} {act : Act} {Q : Exit → Act → World → Prop} (hgd : o.guard = none) (q x : Operand) (t : TypeId)
    (ho : o.op = .call { callee := .builtin .append, args := #[q, x], argTypes := #[t, t] })
    (e tI : TypeId) (i : TypeInfo) (z : Value) (bytes : Nat) (ht : P.underlying t = some (.slice e)) (hi : P.info? e = some i) (hz : i.zero = some z) (hsize : i.size = 2) (hby : i.bytes = bytes) (hzs : z.cells.size = 2)
    {S B n c m d b off dd : Nat} {a p : Option Addr} {l : List Vl} {k : Int} {y : List Int} (hq : act.eval q = .slice a n c) (hown : OwnVB S e tI w B a n c l) (hx : act.eval x = .slice (some ⟨b, off, none⟩) 1 dd) (hnew : Items Vh.enc 2 w (some ⟨b, off, none⟩) 1 [⟨k, p, m, d⟩]) (hv : Own .i64 tI w B p m d y) (hf : ∀ ad, p = some ad → S ≤ ad.block)
    (hb1 : 0 < bytes) (hbytes : (n + 1) * bytes ≤ 140737488355328) (hB : B ≤ w.heap.size)
    (h : ∀ a' c' w', OwnV e tI w' B a' (n + 1) c' (l ++ [⟨k, y⟩]) → Below B w w' → wpList P ops Q rest (act.put o.dst (.slice a' (n + 1) c')) w') : wpList P ops Q (o :: rest) act w := by
  refine wpList_plain hgd fun K hK => ?_
  have h63 : n + 1 ≤ maxLen := by
    have := Nat.mul_le_mul_left (n + 1) hb1
    unfold maxLen
    omega
  obtain ⟨a', c', w', hr, h2, h3, h4⟩ := run_appV (P := P) (dd := dd) w t o.type e tI i z bytes ht hi hz hsize hby hzs hown hnew hv hf hbytes h63 hB
  unfold Oper.wp execOp
  simp only [ho, resolve, invoke, builtin, Sem.run_bind, Sem.run_pure, Result.andThen_ok, List.map_toArray, List.map_cons, List.map_nil, hq, hx, hr]
  exact hK _ _ (h a' c' w' h2 h3)
theorem wpl_appV2 {ops : Array Oper} {rest : List Oper} {o : Oper} {act : Act} {Q : Exit → Act → World → Prop} (hgd : o.guard = none) (q x : Operand) (t : TypeId)
    (ho : o.op = .call { callee := .builtin .append, args := #[q, x], argTypes := #[t, t] })
    (e tI : TypeId) (i : TypeInfo) (z : Value) (bytes : Nat) (ht : P.underlying t = some (.slice e)) (hi : P.info? e = some i) (hz : i.zero = some z) (hsize : i.size = 2) (hby : i.bytes = bytes) (hzs : z.cells.size = 2)
    {S B n c m d b off dd : Nat} {a p : Option Addr} {l : List Vl} {k : Int} {y : List Int} (hq : act.eval q = .slice a n c) (hown : OwnVB S e tI w B a n c l) (hx : act.eval x = .slice (some ⟨b, off, none⟩) 1 dd) (hnew : Items Vh.enc 2 w (some ⟨b, off, none⟩) 1 [⟨k, p, m, d⟩]) (hv : Own .i64 tI w B p m d y) (hf : ∀ ad, p = some ad → S ≤ ad.block)
    (hb1 : 0 < bytes) (hbytes : (n + 1) * bytes ≤ 140737488355328) (hB : B ≤ w.heap.size)
    (h : ∀ a' c' w', OwnV e tI w' B a' (n + 1) c' (l ++ [⟨k, y⟩]) → w.grownBy w' (Value.ownBlock (.slice a n c)) → wpList P ops Q rest (act.put o.dst (.slice a' (n + 1) c')) w') : wpList P ops Q (o :: rest) act w := by
  refine wpList_plain hgd fun K hK => ?_
  have h63 : n + 1 ≤ maxLen := by
    have := Nat.mul_le_mul_left (n + 1) hb1
    unfold maxLen
    omega
  obtain ⟨a', c', w', hr, h2, h3, h4⟩ := run_appV (P := P) (dd := dd) w t o.type e tI i z bytes ht hi hz hsize hby hzs hown hnew hv hf hbytes h63 hB
  unfold Oper.wp execOp
  simp only [ho, resolve, invoke, builtin, Sem.run_bind, Sem.run_pure, Result.andThen_ok, List.map_toArray, List.map_cons, List.map_nil, hq, hx, hr]
  exact hK _ _ (h a' c' w' h2 h4)
/-- The same at a step of a region that draws its order. -/
theorem step_appV {ops : Array Oper} {o : Oper} {act : Act} {K : Act → World → Prop} {Q : Exit → Act → World → Prop} {E : Prop} (hgd : o.guard = none) (q x : Operand) (t : TypeId)
    (ho : o.op = .call { callee := .builtin .append, args := #[q, x], argTypes := #[t, t] })
    (e tI : TypeId) (i : TypeInfo) (z : Value) (bytes : Nat) (ht : P.underlying t = some (.slice e)) (hi : P.info? e = some i) (hz : i.zero = some z) (hsize : i.size = 2) (hby : i.bytes = bytes) (hzs : z.cells.size = 2)
    {S B n c m d b off dd : Nat} {a p : Option Addr} {l : List Vl} {k : Int} {y : List Int} (hq : act.eval q = .slice a n c) (hown : OwnVB S e tI w B a n c l) (hx : act.eval x = .slice (some ⟨b, off, none⟩) 1 dd) (hnew : Items Vh.enc 2 w (some ⟨b, off, none⟩) 1 [⟨k, p, m, d⟩]) (hv : Own .i64 tI w B p m d y) (hf : ∀ ad, p = some ad → S ≤ ad.block)
    (hb1 : 0 < bytes) (hbytes : (n + 1) * bytes ≤ 140737488355328) (hB : B ≤ w.heap.size)
    (h : ∀ a' c' w', OwnV e tI w' B a' (n + 1) c' (l ++ [⟨k, y⟩]) → Below B w w' → K (act.put o.dst (.slice a' (n + 1) c')) w') :
    if Region.wanted o (yielded ops act.tmps) = true then Oper.wp P o act w K Q else E := by
  have hw : Region.wanted o (yielded ops act.tmps) = true := by simp [Region.wanted, hgd]
  rw [if_pos hw]
  have h63 : n + 1 ≤ maxLen := by
    have := Nat.mul_le_mul_left (n + 1) hb1
    unfold maxLen
    omega
  obtain ⟨a', c', w', hr, h2, h3, h4⟩ := run_appV (P := P) (dd := dd) w t o.type e tI i z bytes ht hi hz hsize hby hzs hown hnew hv hf hbytes h63 hB
  unfold Oper.wp execOp
  simp only [ho, resolve, invoke, builtin, Sem.run_bind, Sem.run_pure, Result.andThen_ok, List.map_toArray, List.map_cons, List.map_nil, hq, hx, hr]
  exact h a' c' w' h2 h3
/-- Integers are appended to a slice of the call's own, at a step of a region that draws its order: where the outcome lies. -/
theorem step_app3 {ops : Array Oper} {o : Oper} {act : Act} {K : Act → World → Prop} {Q : Exit → Act → World → Prop} {E : Prop} (hgd : o.guard = none) (s x : Operand) (t : TypeId)
    (ho : o.op = .call { callee := .builtin .append, args := #[s, x], argTypes := #[t, t] })
    (k : IntKind) (e : TypeId) (i : TypeInfo) (z : Value) (bytes : Nat) (ht : P.underlying t = some (.slice e)) (hi : P.info? e = some i) (hz : i.zero = some z) (hsize : i.size = 1) (hby : i.bytes = bytes) (hzs : z.cells.size = 1)
    {B n c m d : Nat} {a : Option Addr} {ad : Addr} {l l' : List Int} (hs : act.eval s = .slice a n c) (hown : Own k e w B a n c l) (hx : act.eval x = .slice (some ad) m d) (hnew : Nums k w (some ad) m l') (hm : 0 < m)
    (hb1 : 0 < bytes) (hbytes : (n + m) * bytes ≤ 140737488355328) (hB : B ≤ w.heap.size)
    (h : ∀ a' c' w', Own k e w' B a' (n + m) c' (l ++ l') → w.grownBy w' (Value.ownBlock (.slice a n c)) → (∀ cd, a' = some cd → (∃ bd, a = some bd ∧ bd.block = cd.block) ∨ cd.block = w.heap.size) → K (act.put o.dst (.slice a' (n + m) c')) w') :
    if Region.wanted o (yielded ops act.tmps) = true then Oper.wp P o act w K Q else E := by
  have hw : Region.wanted o (yielded ops act.tmps) = true := by simp [Region.wanted, hgd]
  rw [if_pos hw]
  have h63 : n + m ≤ maxLen := by
    have := Nat.mul_le_mul_left (n + m) hb1
    unfold maxLen
    omega
  obtain ⟨v', w', hr, h2, h3, _, h5⟩ := run_append_own_at (P := P) w B t o.type e i z 1 bytes ht hi hz hsize hby hzs (by omega) (.slice a n c) n (l.map (Value.int k)) hown.2 ad m d (l'.map (Value.int k)) (by simp [hnew.len]) (fun j u hu => by
      have hj : j < m := by
        rcases Nat.lt_or_ge j m with h | h
        · exact h
        · rw [List.getElem?_eq_none (by simp [hnew.len]; exact h)] at hu; cases hu
      obtain ⟨ad', e', hxx⟩ := hnew.cell j hj
      cases e'
      have hl : j < l'.length := by rw [hnew.len]; exact hj
      rw [List.getElem?_map, List.getElem?_eq_getElem hl] at hu
      cases hu
      rw [hxx]
      simp [List.getD, List.getElem?_eq_getElem hl]) (ints_oneCell k l') h63 hbytes hB
  rw [← List.map_append] at h2
  rcases h2.2 with ⟨rfl, hn⟩ | ⟨g, cap, cur, rfl, hrest⟩
  · omega
  · have hgb : (∃ bd, a = some bd ∧ bd.block = g) ∨ g = w.heap.size := by
      rcases h5 with e | e
      · left
        cases ha : a with
        | none => rw [ha] at e; simp [Value.ownBlock] at e
        | some bd => rw [ha] at e; simp only [Value.ownBlock, Option.some.injEq] at e; exact ⟨bd, rfl, e.symm⟩
      · right
        simpa [Value.ownBlock] using e
    unfold Oper.wp execOp
    simp only [ho, resolve, invoke, builtin, Sem.run_bind, Sem.run_pure, Result.andThen_ok, List.map_toArray, List.map_cons, List.map_nil, hs, hx, hr]
    exact h _ cap w' ⟨by have := hown.len; have := hnew.len; simp; omega, h2⟩ h3 (fun cd e => by cases e; exact hgb)
end
end Go.Proofs.Ytjkjnhkamieljaa
