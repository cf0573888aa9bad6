/- Lists of extensions are compared: by the model. Whether a hello or an answer is valid, and whether two hellos are equal: by the program and by the model. A list of extensions is written: by the program. Lists of lists of integers: what a walk is told of one that is read, and of one that the call itself has made, row by row. No function of the program is spoken of. -/
import Derived.Test.YtcpnchjgklemgaaG19
import Derived.Deep.RegionHeld3
import Derived.Test.YtcpnchjgklemgaaG17
import Derived.Test.YtcpnchjgklemgaaG18
import Derived.Test.YtcpnchjgklemgaaG11
import Derived.Test.YtcpnchjgklemgaaG13
import Derived.Test.YtcpnchjgklemgaaG3
namespace Go.Proofs.Ytcpnchjgklemgaa
open Go.ChangeShapes Go.WideShapes Go.ChangeAt Go.RowKit
set_option linter.unusedVariables false
set_option linter.unusedSimpArgs false

set_option maxHeartbeats 4000000 in
set_option maxRecDepth 100000 in
theorem specEqualExts_yes {a b : Option Addr} {n m c d : Nat} {l : List Vl} {w : World} (h : Vals w a n l) (h' : Vals w b m l) :
    Calls Try.prog 91 #[.slice a n c, .slice b m d] w (Told (.bool true) w) := by
  obtain rfl : n = m := by rw [← h.len, ← h'.len]
  have hn := h.fits
  have H := Lib.hid h
  have H' := Lib.hid h'
  clear h h'
  go_enter Try.func91, Try.ntmps91
  go_wp2_with fail
  go_loopw [5] (fun i wr => ∃ j : Nat, j ≤ n ∧ i = .int .i64 j ∧ Below w.heap.size w wr) (fun i _ => n - (intOf i).toNat)
  case atStart => exact ⟨0, Nat.zero_le _, rfl, Below.refl _ _⟩
  case round =>
    obtain ⟨j, hj, rfl, hb⟩ := hrel
    have HB := Lib.hid hb
    clear hb
    by_cases hlt : j < n
    · obtain ⟨b1, o1, p1, m1, d1, k1, y1, rfl, hx, hc0, hc1, hN1, hr1⟩ := (H.out.same HB.out).at_ hlt
      obtain ⟨b2, o2, p2, m2, d2, k2, y2, rfl, hy, hd0, hd1, hN2, hr2⟩ := (H'.out.same HB.out).at_ hlt
      rw [hx] at hy
      cases hy
      have bk : (k1 != k1) = false := by simp
      clear hx
      have C0 := Lib.hid hc0
      have C1 := Lib.hid hc1
      have C2 := Lib.hid hd0
      have C3 := Lib.hid hd1
      have HN1 := Lib.hid hN1
      have HN2 := Lib.hid hN2
      have hltI : (j : Int) < (n : Int) := by omega
      clear hc0 hc1 hd0 hd1 hN1 hN2
      go_wp2_with fail
      have HBd : Hid (Below wr.heap.size wr wr.drew) := Lib.hid (Below.refl _ _).drew
      refine wp_region_held_drew (S := (fun w' => w'.cell? ⟨b1, o1 + j * 2, none⟩ = some (.int .i64 k1) ∧ w'.cell? ⟨b1, o1 + j * 2 + 1, none⟩ = some (.slice p1 m1 d1) ∧ w'.cell? ⟨b2, o2 + j * 2, none⟩ = some (.int .i64 k1) ∧ w'.cell? ⟨b2, o2 + j * 2 + 1, none⟩ = some (.slice p2 m2 d2))) (by kernel_rfl) ⟨cell_stay C0.out HBd.out, cell_stay C1.out HBd.out, cell_stay C2.out HBd.out, cell_stay C3.out HBd.out⟩ (fun hHeld => ?_)
      refine wpAnyH_take (i := 0) (v := ?v1) (by simp only [List.getElem?_toArray, List.getElem?_cons_succ, List.getElem?_cons_zero]; rfl) (by kernel_rfl) (by kernel_rfl) (by kernel_rfl) (by exact fun _ _ _ h => h) (Or.inl ⟨by rfl, fun w9 hS9 => ?hy1⟩) hHeld ?rest1
      case hy1 =>
        dsimp only at hS9
        obtain ⟨s0, s1, s2, s3⟩ := hS9
        go_simp
        try with_reducible rfl
      try simp only [Act.put, List.setIfInBounds_toArray, List.set_cons_zero, List.set_cons_succ]
      refine wpAnyH_take (i := 1) (v := ?v2) (by simp only [List.getElem?_toArray, List.getElem?_cons_succ, List.getElem?_cons_zero]; rfl) (by kernel_rfl) (by kernel_rfl) (by kernel_rfl) (by exact fun _ _ _ h => h) (Or.inl ⟨by rfl, fun w9 hS9 => ?hy2⟩) hHeld ?rest2
      case hy2 =>
        dsimp only at hS9
        obtain ⟨s0, s1, s2, s3⟩ := hS9
        go_simp
        try with_reducible rfl
      try simp only [Act.put, List.setIfInBounds_toArray, List.set_cons_zero, List.set_cons_succ]
      refine wpAnyH_take (i := 2) (v := ?v3) (by simp only [List.getElem?_toArray, List.getElem?_cons_succ, List.getElem?_cons_zero]; rfl) (by kernel_rfl) (by kernel_rfl) (by kernel_rfl) (by exact fun _ _ _ h => h) (Or.inl ⟨by rfl, fun w9 hS9 => ?hy3⟩) hHeld ?rest3
      case hy3 =>
        dsimp only at hS9
        obtain ⟨s0, s1, s2, s3⟩ := hS9
        go_simp
        try with_reducible rfl
      try simp only [Act.put, List.setIfInBounds_toArray, List.set_cons_zero, List.set_cons_succ]
      refine wpAnyH_take (i := 3) (v := ?v4) (by simp only [List.getElem?_toArray, List.getElem?_cons_succ, List.getElem?_cons_zero]; rfl) (by kernel_rfl) (by kernel_rfl) (by kernel_rfl) (by exact fun _ _ _ h => h) (Or.inl ⟨by rfl, fun w9 hS9 => ?hy4⟩) hHeld ?rest4
      case hy4 =>
        dsimp only at hS9
        obtain ⟨s0, s1, s2, s3⟩ := hS9
        go_simp
        try with_reducible rfl
      try simp only [Act.put, List.setIfInBounds_toArray, List.set_cons_zero, List.set_cons_succ]
      refine wpAnyH_take (i := 4) (v := ?v5) (by simp only [List.getElem?_toArray, List.getElem?_cons_succ, List.getElem?_cons_zero]; rfl) (by kernel_rfl) (by kernel_rfl) (by kernel_rfl) (by exact fun _ _ _ h => h) (Or.inl ⟨by rfl, fun w9 hS9 => ?hy5⟩) hHeld ?rest5
      case hy5 =>
        dsimp only at hS9
        obtain ⟨s0, s1, s2, s3⟩ := hS9
        go_simp
        try with_reducible rfl
      try simp only [Act.put, List.setIfInBounds_toArray, List.set_cons_zero, List.set_cons_succ]
      refine wpAnyH_take (i := 5) (v := ?v6) (by simp only [List.getElem?_toArray, List.getElem?_cons_succ, List.getElem?_cons_zero]; rfl) (by kernel_rfl) (by kernel_rfl) (by kernel_rfl) (by exact fun _ _ _ h => h) (Or.inl ⟨by rfl, fun w9 hS9 => ?hy6⟩) hHeld ?rest6
      case hy6 =>
        dsimp only at hS9
        obtain ⟨s0, s1, s2, s3⟩ := hS9
        go_simp
        try with_reducible rfl
      try simp only [Act.put, List.setIfInBounds_toArray, List.set_cons_zero, List.set_cons_succ]
      refine wpAnyH_take (i := 6) (v := ?v7) (by simp only [List.getElem?_toArray, List.getElem?_cons_succ, List.getElem?_cons_zero]; rfl) (by kernel_rfl) (by kernel_rfl) (by kernel_rfl) (by exact fun _ _ _ h => h) (Or.inl ⟨by rfl, fun w9 hS9 => ?hy7⟩) hHeld ?rest7
      case hy7 =>
        dsimp only at hS9
        obtain ⟨s0, s1, s2, s3⟩ := hS9
        go_simp
        try with_reducible rfl
      try simp only [Act.put, List.setIfInBounds_toArray, List.set_cons_zero, List.set_cons_succ]
      refine wpAnyH_take (i := 7) (v := ?v8) (by simp only [List.getElem?_toArray, List.getElem?_cons_succ, List.getElem?_cons_zero]; rfl) (by kernel_rfl) (by kernel_rfl) (by kernel_rfl) (by exact fun _ _ _ h => h) (Or.inl ⟨by rfl, fun w9 hS9 => ?hy8⟩) hHeld ?rest8
      case hy8 =>
        dsimp only at hS9
        obtain ⟨s0, s1, s2, s3⟩ := hS9
        go_simp
        try with_reducible rfl
      try simp only [Act.put, List.setIfInBounds_toArray, List.set_cons_zero, List.set_cons_succ]
      refine wpAnyH_take (i := 8) (v := ?v9) (by simp only [List.getElem?_toArray, List.getElem?_cons_succ, List.getElem?_cons_zero]; rfl) (by kernel_rfl) (by kernel_rfl) (by kernel_rfl) (by exact fun _ _ _ h => h) (Or.inl ⟨by rfl, fun w9 hS9 => ?hy9⟩) hHeld ?rest9
      case hy9 =>
        dsimp only at hS9
        obtain ⟨s0, s1, s2, s3⟩ := hS9
        go_simp
        try with_reducible rfl
      try simp only [Act.put, List.setIfInBounds_toArray, List.set_cons_zero, List.set_cons_succ]
      refine wpAnyH_take (i := 9) (v := ?v10) (by simp only [List.getElem?_toArray, List.getElem?_cons_succ, List.getElem?_cons_zero]; rfl) (by kernel_rfl) (by kernel_rfl) (by kernel_rfl) (by exact fun _ _ _ h => h) (Or.inl ⟨by rfl, fun w9 hS9 => ?hy10⟩) hHeld ?rest10
      case hy10 =>
        dsimp only at hS9
        obtain ⟨s0, s1, s2, s3⟩ := hS9
        go_simp
        try with_reducible rfl
      try simp only [Act.put, List.setIfInBounds_toArray, List.set_cons_zero, List.set_cons_succ]
      refine wpAnyH_take (i := 10) (v := ?v11) (by simp only [List.getElem?_toArray, List.getElem?_cons_succ, List.getElem?_cons_zero]; rfl) (by kernel_rfl) (by kernel_rfl) (by kernel_rfl) (by exact fun _ _ _ h => h) (Or.inl ⟨by rfl, fun w9 hS9 => ?hy11⟩) hHeld ?rest11
      case hy11 =>
        dsimp only at hS9
        obtain ⟨s0, s1, s2, s3⟩ := hS9
        go_simp
        try with_reducible rfl
      try simp only [Act.put, List.setIfInBounds_toArray, List.set_cons_zero, List.set_cons_succ]
      refine wpAnyH_take (i := 11) (v := ?v12) (by simp only [List.getElem?_toArray, List.getElem?_cons_succ, List.getElem?_cons_zero]; rfl) (by kernel_rfl) (by kernel_rfl) (by kernel_rfl) (by exact fun _ _ _ h => h) (Or.inl ⟨by rfl, fun w9 hS9 => ?hy12⟩) hHeld ?rest12
      case hy12 =>
        dsimp only at hS9
        obtain ⟨s0, s1, s2, s3⟩ := hS9
        go_simp
        try with_reducible rfl
      try simp only [Act.put, List.setIfInBounds_toArray, List.set_cons_zero, List.set_cons_succ]
      refine wpAnyH_take (i := 12) (v := ?v13) (by simp only [List.getElem?_toArray, List.getElem?_cons_succ, List.getElem?_cons_zero]; rfl) (by kernel_rfl) (by kernel_rfl) (by kernel_rfl) (by exact fun _ _ _ h => h) (Or.inl ⟨by rfl, fun w9 hS9 => ?hy13⟩) hHeld ?rest13
      case hy13 =>
        dsimp only at hS9
        obtain ⟨s0, s1, s2, s3⟩ := hS9
        go_simp
        try with_reducible rfl
      try simp only [Act.put, List.setIfInBounds_toArray, List.set_cons_zero, List.set_cons_succ]
      refine wpAnyH_take (i := 13) (v := ?v14) (by simp only [List.getElem?_toArray, List.getElem?_cons_succ, List.getElem?_cons_zero]; rfl) (by kernel_rfl) (by kernel_rfl) (by kernel_rfl) (by exact fun _ _ _ h => h) (Or.inl ⟨by rfl, fun w9 hS9 => ?hy14⟩) hHeld ?rest14
      case hy14 =>
        dsimp only at hS9
        obtain ⟨s0, s1, s2, s3⟩ := hS9
        go_simp
        try with_reducible rfl
      try simp only [Act.put, List.setIfInBounds_toArray, List.set_cons_zero, List.set_cons_succ]
      refine wpAnyH_take (i := 14) (v := ?v15) (by simp only [List.getElem?_toArray, List.getElem?_cons_succ, List.getElem?_cons_zero]; rfl) (by kernel_rfl) (by kernel_rfl) (by kernel_rfl) (by exact fun _ _ _ h => h) (Or.inl ⟨by rfl, fun w9 hS9 => ?hy15⟩) hHeld ?rest15
      case hy15 =>
        dsimp only at hS9
        obtain ⟨s0, s1, s2, s3⟩ := hS9
        go_simp
        try with_reducible rfl
      try simp only [Act.put, List.setIfInBounds_toArray, List.set_cons_zero, List.set_cons_succ]
      refine wpAnyH_take (i := 15) (v := ?v16) (by simp only [List.getElem?_toArray, List.getElem?_cons_succ, List.getElem?_cons_zero]; rfl) (by kernel_rfl) (by kernel_rfl) (by kernel_rfl) (by exact fun _ _ _ h => h) (Or.inl ⟨by rfl, fun w9 hS9 => ?hy16⟩) hHeld ?rest16
      case hy16 =>
        dsimp only at hS9
        obtain ⟨s0, s1, s2, s3⟩ := hS9
        go_simp
        try with_reducible rfl
      try simp only [Act.put, List.setIfInBounds_toArray, List.set_cons_zero, List.set_cons_succ]
      refine wpAnyH_take (i := 16) (v := ?v17) (by simp only [List.getElem?_toArray, List.getElem?_cons_succ, List.getElem?_cons_zero]; rfl) (by kernel_rfl) (by kernel_rfl) (by kernel_rfl) (by exact fun _ _ _ h => h) (Or.inl ⟨by rfl, fun w9 hS9 => ?hy17⟩) hHeld ?rest17
      case hy17 =>
        dsimp only at hS9
        obtain ⟨s0, s1, s2, s3⟩ := hS9
        go_simp
        try with_reducible rfl
      try simp only [Act.put, List.setIfInBounds_toArray, List.set_cons_zero, List.set_cons_succ]
      refine wpAnyH_take (i := 17) (v := ?v18) (by simp only [List.getElem?_toArray, List.getElem?_cons_succ, List.getElem?_cons_zero]; rfl) (by kernel_rfl) (by kernel_rfl) (by kernel_rfl) (by exact fun _ _ _ h => h) (Or.inl ⟨by rfl, fun w9 hS9 => ?hy18⟩) hHeld ?rest18
      case hy18 =>
        dsimp only at hS9
        obtain ⟨s0, s1, s2, s3⟩ := hS9
        go_simp
        try with_reducible rfl
      try simp only [Act.put, List.setIfInBounds_toArray, List.set_cons_zero, List.set_cons_succ]
      refine wpAnyH_take (i := 18) (v := ?v19) (by simp only [List.getElem?_toArray, List.getElem?_cons_succ, List.getElem?_cons_zero]; rfl) (by kernel_rfl) (by kernel_rfl) (by kernel_rfl) (by exact fun _ _ _ h => h) (Or.inl ⟨by rfl, fun w9 hS9 => ?hy19⟩) hHeld ?rest19
      case hy19 =>
        dsimp only at hS9
        obtain ⟨s0, s1, s2, s3⟩ := hS9
        go_simp
        try with_reducible rfl
      try simp only [Act.put, List.setIfInBounds_toArray, List.set_cons_zero, List.set_cons_succ]
      refine wpAnyH_take (i := 19) (v := ?v20) (by simp only [List.getElem?_toArray, List.getElem?_cons_succ, List.getElem?_cons_zero]; rfl) (by kernel_rfl) (by kernel_rfl) (by kernel_rfl) (by exact fun _ _ _ h => h) (Or.inl ⟨by rfl, fun w9 hS9 => ?hy20⟩) hHeld ?rest20
      case hy20 =>
        dsimp only at hS9
        obtain ⟨s0, s1, s2, s3⟩ := hS9
        go_simp
        try with_reducible rfl
      try simp only [Act.put, List.setIfInBounds_toArray, List.set_cons_zero, List.set_cons_succ]
      refine wpAnyH_take (i := 20) (v := ?v21) (by simp only [List.getElem?_toArray, List.getElem?_cons_succ, List.getElem?_cons_zero]; rfl) (by kernel_rfl) (by kernel_rfl) (by kernel_rfl) (by exact fun _ _ _ h => h) (Or.inl ⟨by rfl, fun w9 hS9 => ?hy21⟩) hHeld ?rest21
      case hy21 =>
        dsimp only at hS9
        obtain ⟨s0, s1, s2, s3⟩ := hS9
        go_simp
        try with_reducible rfl
      try simp only [Act.put, List.setIfInBounds_toArray, List.set_cons_zero, List.set_cons_succ]
      refine wpAnyH_take (i := 21) (v := ?v22) (by simp only [List.getElem?_toArray, List.getElem?_cons_succ, List.getElem?_cons_zero]; rfl) (by kernel_rfl) (by kernel_rfl) (by kernel_rfl) (by exact fun _ _ _ h => h) (Or.inl ⟨by rfl, fun w9 hS9 => ?hy22⟩) hHeld ?rest22
      case hy22 =>
        dsimp only at hS9
        obtain ⟨s0, s1, s2, s3⟩ := hS9
        go_simp
        try with_reducible rfl
      try simp only [Act.put, List.setIfInBounds_toArray, List.set_cons_zero, List.set_cons_succ]
      refine wpAnyH_ready (rs := [22]) (by kernel_rfl) (by simp) (AllReadyH.cons (by simp only [List.getElem?_toArray, List.getElem?_cons_succ, List.getElem?_cons_zero]; rfl) (fun K hK => ?_) AllReadyH.nil)
      go_simp
      refine (specEqualInts_yes (c := d1) (d := d2) (HN1.out.same HBd.out) (HN2.out.same HBd.out)).mono ?_
      rintro e w1 ⟨rfl, hb1⟩
      have HB1 : Hid (Below wr.heap.size wr w1) := Lib.hid (HBd.out.trans (hb1.mono HBd.out.size))
      clear hb1
      go_wp2_with fail
      refine hK.out _ _ ⟨cell_stay C0.out HB1.out, cell_stay C1.out HB1.out, cell_stay C2.out HB1.out, cell_stay C3.out HB1.out⟩ (fun hHeld => ?_)
      clear hK K
      try simp only [Act.put, List.setIfInBounds_toArray, List.set_cons_zero, List.set_cons_succ]
      refine wpAnyH_take (i := 23) (v := ?v23) (by simp only [List.getElem?_toArray, List.getElem?_cons_succ, List.getElem?_cons_zero]; rfl) (by kernel_rfl) (by kernel_rfl) (by kernel_rfl) (by exact fun _ _ _ h => h) (Or.inl ⟨by rfl, fun w9 hS9 => ?hy23⟩) hHeld ?rest23
      case hy23 =>
        dsimp only at hS9
        obtain ⟨s0, s1, s2, s3⟩ := hS9
        go_simp
        try with_reducible rfl
      try simp only [Act.put, List.setIfInBounds_toArray, List.set_cons_zero, List.set_cons_succ]
      refine wpAnyH_take (i := 24) (v := ?v24) (by simp only [List.getElem?_toArray, List.getElem?_cons_succ, List.getElem?_cons_zero]; rfl) (by kernel_rfl) (by kernel_rfl) (by kernel_rfl) (by exact fun _ _ _ h => h) (Or.inl ⟨by rfl, fun w9 hS9 => ?hy24⟩) hHeld ?rest24
      case hy24 =>
        dsimp only at hS9
        obtain ⟨s0, s1, s2, s3⟩ := hS9
        go_simp
        try with_reducible rfl
      try simp only [Act.put, List.setIfInBounds_toArray, List.set_cons_zero, List.set_cons_succ]
      refine wpAnyH_done (by kernel_rfl) ?_ _
      have HBX : Hid (Below w.heap.size w w1) := Lib.hid (HB.out.trans (HB1.out.mono HB.out.size))
      go_wp2_with fail
      go_roundw
      case rel => exact ⟨j + 1, by omega, by go_num, HBX.out⟩
      case measure => simp [intOf]; omega
    · go_wp2_with fail
      go_ret
      exact ⟨rfl, HB.out⟩
set_option maxHeartbeats 4000000 in
set_option maxRecDepth 100000 in
theorem specEqualExts_no {a b : Option Addr} {n m c d : Nat} {l l' : List Vl} {w : World} (h : Vals w a n l) (h' : Vals w b m l') (hne : l ≠ l') :
    Calls Try.prog 91 #[.slice a n c, .slice b m d] w (Told (.bool false) w) := by
  have hn := h.fits
  have hm := h'.fits
  have H := Lib.hid h
  have H' := Lib.hid h'
  have HE := Lib.hid hne
  clear h h' hne
  by_cases hnm : n = m
  · subst hnm
    go_enter Try.func91, Try.ntmps91
    go_wp2_with fail
    go_loopw [5] (fun i wr => ∃ j : Nat, j ≤ n ∧ i = .int .i64 j ∧ l.take j = l'.take j ∧ Below w.heap.size w wr) (fun i _ => n - (intOf i).toNat)
    case atStart => exact ⟨0, Nat.zero_le _, rfl, rfl, Below.refl _ _⟩
    case round =>
      obtain ⟨j, hj, rfl, ht, hb⟩ := hrel
      have HB := Lib.hid hb
      have HT := Lib.hid ht
      clear hb ht
      by_cases hlt : j < n
      · obtain ⟨b1, o1, p1, m1, d1, k1, y1, rfl, hx, hc0, hc1, hN1, hr1⟩ := (H.out.same HB.out).at_ hlt
        obtain ⟨b2, o2, p2, m2, d2, k2, y2, rfl, hy, hd0, hd1, hN2, hr2⟩ := (H'.out.same HB.out).at_ hlt
        have HX := Lib.hid hx
        have HY := Lib.hid hy
        clear hx hy
        by_cases hk : k1 = k2
        · subst hk
          have bk : (k1 != k1) = false := by simp
          have C0 := Lib.hid hc0
          have C1 := Lib.hid hc1
          have C2 := Lib.hid hd0
          have C3 := Lib.hid hd1
          have HN1 := Lib.hid hN1
          have HN2 := Lib.hid hN2
          have hltI : (j : Int) < (n : Int) := by omega
          clear hc0 hc1 hd0 hd1 hN1 hN2
          by_cases hyy : y1 = y2
          · subst hyy
            go_wp2_with fail
            have HBd : Hid (Below wr.heap.size wr wr.drew) := Lib.hid (Below.refl _ _).drew
            refine wp_region_held_drew (S := (fun w' => w'.cell? ⟨b1, o1 + j * 2, none⟩ = some (.int .i64 k1) ∧ w'.cell? ⟨b1, o1 + j * 2 + 1, none⟩ = some (.slice p1 m1 d1) ∧ w'.cell? ⟨b2, o2 + j * 2, none⟩ = some (.int .i64 k1) ∧ w'.cell? ⟨b2, o2 + j * 2 + 1, none⟩ = some (.slice p2 m2 d2))) (by kernel_rfl) ⟨cell_stay C0.out HBd.out, cell_stay C1.out HBd.out, cell_stay C2.out HBd.out, cell_stay C3.out HBd.out⟩ (fun hHeld => ?_)
            refine wpAnyH_take (i := 0) (v := ?v25) (by simp only [List.getElem?_toArray, List.getElem?_cons_succ, List.getElem?_cons_zero]; rfl) (by kernel_rfl) (by kernel_rfl) (by kernel_rfl) (by exact fun _ _ _ h => h) (Or.inl ⟨by rfl, fun w9 hS9 => ?hy25⟩) hHeld ?rest25
            case hy25 =>
              dsimp only at hS9
              obtain ⟨s0, s1, s2, s3⟩ := hS9
              go_simp
              try with_reducible rfl
            try simp only [Act.put, List.setIfInBounds_toArray, List.set_cons_zero, List.set_cons_succ]
            refine wpAnyH_take (i := 1) (v := ?v26) (by simp only [List.getElem?_toArray, List.getElem?_cons_succ, List.getElem?_cons_zero]; rfl) (by kernel_rfl) (by kernel_rfl) (by kernel_rfl) (by exact fun _ _ _ h => h) (Or.inl ⟨by rfl, fun w9 hS9 => ?hy26⟩) hHeld ?rest26
            case hy26 =>
              dsimp only at hS9
              obtain ⟨s0, s1, s2, s3⟩ := hS9
              go_simp
              try with_reducible rfl
            try simp only [Act.put, List.setIfInBounds_toArray, List.set_cons_zero, List.set_cons_succ]
            refine wpAnyH_take (i := 2) (v := ?v27) (by simp only [List.getElem?_toArray, List.getElem?_cons_succ, List.getElem?_cons_zero]; rfl) (by kernel_rfl) (by kernel_rfl) (by kernel_rfl) (by exact fun _ _ _ h => h) (Or.inl ⟨by rfl, fun w9 hS9 => ?hy27⟩) hHeld ?rest27
            case hy27 =>
              dsimp only at hS9
              obtain ⟨s0, s1, s2, s3⟩ := hS9
              go_simp
              try with_reducible rfl
            try simp only [Act.put, List.setIfInBounds_toArray, List.set_cons_zero, List.set_cons_succ]
            refine wpAnyH_take (i := 3) (v := ?v28) (by simp only [List.getElem?_toArray, List.getElem?_cons_succ, List.getElem?_cons_zero]; rfl) (by kernel_rfl) (by kernel_rfl) (by kernel_rfl) (by exact fun _ _ _ h => h) (Or.inl ⟨by rfl, fun w9 hS9 => ?hy28⟩) hHeld ?rest28
            case hy28 =>
              dsimp only at hS9
              obtain ⟨s0, s1, s2, s3⟩ := hS9
              go_simp
              try with_reducible rfl
            try simp only [Act.put, List.setIfInBounds_toArray, List.set_cons_zero, List.set_cons_succ]
            refine wpAnyH_take (i := 4) (v := ?v29) (by simp only [List.getElem?_toArray, List.getElem?_cons_succ, List.getElem?_cons_zero]; rfl) (by kernel_rfl) (by kernel_rfl) (by kernel_rfl) (by exact fun _ _ _ h => h) (Or.inl ⟨by rfl, fun w9 hS9 => ?hy29⟩) hHeld ?rest29
            case hy29 =>
              dsimp only at hS9
              obtain ⟨s0, s1, s2, s3⟩ := hS9
              go_simp
              try with_reducible rfl
            try simp only [Act.put, List.setIfInBounds_toArray, List.set_cons_zero, List.set_cons_succ]
            refine wpAnyH_take (i := 5) (v := ?v30) (by simp only [List.getElem?_toArray, List.getElem?_cons_succ, List.getElem?_cons_zero]; rfl) (by kernel_rfl) (by kernel_rfl) (by kernel_rfl) (by exact fun _ _ _ h => h) (Or.inl ⟨by rfl, fun w9 hS9 => ?hy30⟩) hHeld ?rest30
            case hy30 =>
              dsimp only at hS9
              obtain ⟨s0, s1, s2, s3⟩ := hS9
              go_simp
              try with_reducible rfl
            try simp only [Act.put, List.setIfInBounds_toArray, List.set_cons_zero, List.set_cons_succ]
            refine wpAnyH_take (i := 6) (v := ?v31) (by simp only [List.getElem?_toArray, List.getElem?_cons_succ, List.getElem?_cons_zero]; rfl) (by kernel_rfl) (by kernel_rfl) (by kernel_rfl) (by exact fun _ _ _ h => h) (Or.inl ⟨by rfl, fun w9 hS9 => ?hy31⟩) hHeld ?rest31
            case hy31 =>
              dsimp only at hS9
              obtain ⟨s0, s1, s2, s3⟩ := hS9
              go_simp
              try with_reducible rfl
            try simp only [Act.put, List.setIfInBounds_toArray, List.set_cons_zero, List.set_cons_succ]
            refine wpAnyH_take (i := 7) (v := ?v32) (by simp only [List.getElem?_toArray, List.getElem?_cons_succ, List.getElem?_cons_zero]; rfl) (by kernel_rfl) (by kernel_rfl) (by kernel_rfl) (by exact fun _ _ _ h => h) (Or.inl ⟨by rfl, fun w9 hS9 => ?hy32⟩) hHeld ?rest32
            case hy32 =>
              dsimp only at hS9
              obtain ⟨s0, s1, s2, s3⟩ := hS9
              go_simp
              try with_reducible rfl
            try simp only [Act.put, List.setIfInBounds_toArray, List.set_cons_zero, List.set_cons_succ]
            refine wpAnyH_take (i := 8) (v := ?v33) (by simp only [List.getElem?_toArray, List.getElem?_cons_succ, List.getElem?_cons_zero]; rfl) (by kernel_rfl) (by kernel_rfl) (by kernel_rfl) (by exact fun _ _ _ h => h) (Or.inl ⟨by rfl, fun w9 hS9 => ?hy33⟩) hHeld ?rest33
            case hy33 =>
              dsimp only at hS9
              obtain ⟨s0, s1, s2, s3⟩ := hS9
              go_simp
              try with_reducible rfl
            try simp only [Act.put, List.setIfInBounds_toArray, List.set_cons_zero, List.set_cons_succ]
            refine wpAnyH_take (i := 9) (v := ?v34) (by simp only [List.getElem?_toArray, List.getElem?_cons_succ, List.getElem?_cons_zero]; rfl) (by kernel_rfl) (by kernel_rfl) (by kernel_rfl) (by exact fun _ _ _ h => h) (Or.inl ⟨by rfl, fun w9 hS9 => ?hy34⟩) hHeld ?rest34
            case hy34 =>
              dsimp only at hS9
              obtain ⟨s0, s1, s2, s3⟩ := hS9
              go_simp
              try with_reducible rfl
            try simp only [Act.put, List.setIfInBounds_toArray, List.set_cons_zero, List.set_cons_succ]
            refine wpAnyH_take (i := 10) (v := ?v35) (by simp only [List.getElem?_toArray, List.getElem?_cons_succ, List.getElem?_cons_zero]; rfl) (by kernel_rfl) (by kernel_rfl) (by kernel_rfl) (by exact fun _ _ _ h => h) (Or.inl ⟨by rfl, fun w9 hS9 => ?hy35⟩) hHeld ?rest35
            case hy35 =>
              dsimp only at hS9
              obtain ⟨s0, s1, s2, s3⟩ := hS9
              go_simp
              try with_reducible rfl
            try simp only [Act.put, List.setIfInBounds_toArray, List.set_cons_zero, List.set_cons_succ]
            refine wpAnyH_take (i := 11) (v := ?v36) (by simp only [List.getElem?_toArray, List.getElem?_cons_succ, List.getElem?_cons_zero]; rfl) (by kernel_rfl) (by kernel_rfl) (by kernel_rfl) (by exact fun _ _ _ h => h) (Or.inl ⟨by rfl, fun w9 hS9 => ?hy36⟩) hHeld ?rest36
            case hy36 =>
              dsimp only at hS9
              obtain ⟨s0, s1, s2, s3⟩ := hS9
              go_simp
              try with_reducible rfl
            try simp only [Act.put, List.setIfInBounds_toArray, List.set_cons_zero, List.set_cons_succ]
            refine wpAnyH_take (i := 12) (v := ?v37) (by simp only [List.getElem?_toArray, List.getElem?_cons_succ, List.getElem?_cons_zero]; rfl) (by kernel_rfl) (by kernel_rfl) (by kernel_rfl) (by exact fun _ _ _ h => h) (Or.inl ⟨by rfl, fun w9 hS9 => ?hy37⟩) hHeld ?rest37
            case hy37 =>
              dsimp only at hS9
              obtain ⟨s0, s1, s2, s3⟩ := hS9
              go_simp
              try with_reducible rfl
            try simp only [Act.put, List.setIfInBounds_toArray, List.set_cons_zero, List.set_cons_succ]
            refine wpAnyH_take (i := 13) (v := ?v38) (by simp only [List.getElem?_toArray, List.getElem?_cons_succ, List.getElem?_cons_zero]; rfl) (by kernel_rfl) (by kernel_rfl) (by kernel_rfl) (by exact fun _ _ _ h => h) (Or.inl ⟨by rfl, fun w9 hS9 => ?hy38⟩) hHeld ?rest38
            case hy38 =>
              dsimp only at hS9
              obtain ⟨s0, s1, s2, s3⟩ := hS9
              go_simp
              try with_reducible rfl
            try simp only [Act.put, List.setIfInBounds_toArray, List.set_cons_zero, List.set_cons_succ]
            refine wpAnyH_take (i := 14) (v := ?v39) (by simp only [List.getElem?_toArray, List.getElem?_cons_succ, List.getElem?_cons_zero]; rfl) (by kernel_rfl) (by kernel_rfl) (by kernel_rfl) (by exact fun _ _ _ h => h) (Or.inl ⟨by rfl, fun w9 hS9 => ?hy39⟩) hHeld ?rest39
            case hy39 =>
              dsimp only at hS9
              obtain ⟨s0, s1, s2, s3⟩ := hS9
              go_simp
              try with_reducible rfl
            try simp only [Act.put, List.setIfInBounds_toArray, List.set_cons_zero, List.set_cons_succ]
            refine wpAnyH_take (i := 15) (v := ?v40) (by simp only [List.getElem?_toArray, List.getElem?_cons_succ, List.getElem?_cons_zero]; rfl) (by kernel_rfl) (by kernel_rfl) (by kernel_rfl) (by exact fun _ _ _ h => h) (Or.inl ⟨by rfl, fun w9 hS9 => ?hy40⟩) hHeld ?rest40
            case hy40 =>
              dsimp only at hS9
              obtain ⟨s0, s1, s2, s3⟩ := hS9
              go_simp
              try with_reducible rfl
            try simp only [Act.put, List.setIfInBounds_toArray, List.set_cons_zero, List.set_cons_succ]
            refine wpAnyH_take (i := 16) (v := ?v41) (by simp only [List.getElem?_toArray, List.getElem?_cons_succ, List.getElem?_cons_zero]; rfl) (by kernel_rfl) (by kernel_rfl) (by kernel_rfl) (by exact fun _ _ _ h => h) (Or.inl ⟨by rfl, fun w9 hS9 => ?hy41⟩) hHeld ?rest41
            case hy41 =>
              dsimp only at hS9
              obtain ⟨s0, s1, s2, s3⟩ := hS9
              go_simp
              try with_reducible rfl
            try simp only [Act.put, List.setIfInBounds_toArray, List.set_cons_zero, List.set_cons_succ]
            refine wpAnyH_take (i := 17) (v := ?v42) (by simp only [List.getElem?_toArray, List.getElem?_cons_succ, List.getElem?_cons_zero]; rfl) (by kernel_rfl) (by kernel_rfl) (by kernel_rfl) (by exact fun _ _ _ h => h) (Or.inl ⟨by rfl, fun w9 hS9 => ?hy42⟩) hHeld ?rest42
            case hy42 =>
              dsimp only at hS9
              obtain ⟨s0, s1, s2, s3⟩ := hS9
              go_simp
              try with_reducible rfl
            try simp only [Act.put, List.setIfInBounds_toArray, List.set_cons_zero, List.set_cons_succ]
            refine wpAnyH_take (i := 18) (v := ?v43) (by simp only [List.getElem?_toArray, List.getElem?_cons_succ, List.getElem?_cons_zero]; rfl) (by kernel_rfl) (by kernel_rfl) (by kernel_rfl) (by exact fun _ _ _ h => h) (Or.inl ⟨by rfl, fun w9 hS9 => ?hy43⟩) hHeld ?rest43
            case hy43 =>
              dsimp only at hS9
              obtain ⟨s0, s1, s2, s3⟩ := hS9
              go_simp
              try with_reducible rfl
            try simp only [Act.put, List.setIfInBounds_toArray, List.set_cons_zero, List.set_cons_succ]
            refine wpAnyH_take (i := 19) (v := ?v44) (by simp only [List.getElem?_toArray, List.getElem?_cons_succ, List.getElem?_cons_zero]; rfl) (by kernel_rfl) (by kernel_rfl) (by kernel_rfl) (by exact fun _ _ _ h => h) (Or.inl ⟨by rfl, fun w9 hS9 => ?hy44⟩) hHeld ?rest44
            case hy44 =>
              dsimp only at hS9
              obtain ⟨s0, s1, s2, s3⟩ := hS9
              go_simp
              try with_reducible rfl
            try simp only [Act.put, List.setIfInBounds_toArray, List.set_cons_zero, List.set_cons_succ]
            refine wpAnyH_take (i := 20) (v := ?v45) (by simp only [List.getElem?_toArray, List.getElem?_cons_succ, List.getElem?_cons_zero]; rfl) (by kernel_rfl) (by kernel_rfl) (by kernel_rfl) (by exact fun _ _ _ h => h) (Or.inl ⟨by rfl, fun w9 hS9 => ?hy45⟩) hHeld ?rest45
            case hy45 =>
              dsimp only at hS9
              obtain ⟨s0, s1, s2, s3⟩ := hS9
              go_simp
              try with_reducible rfl
            try simp only [Act.put, List.setIfInBounds_toArray, List.set_cons_zero, List.set_cons_succ]
            refine wpAnyH_take (i := 21) (v := ?v46) (by simp only [List.getElem?_toArray, List.getElem?_cons_succ, List.getElem?_cons_zero]; rfl) (by kernel_rfl) (by kernel_rfl) (by kernel_rfl) (by exact fun _ _ _ h => h) (Or.inl ⟨by rfl, fun w9 hS9 => ?hy46⟩) hHeld ?rest46
            case hy46 =>
              dsimp only at hS9
              obtain ⟨s0, s1, s2, s3⟩ := hS9
              go_simp
              try with_reducible rfl
            try simp only [Act.put, List.setIfInBounds_toArray, List.set_cons_zero, List.set_cons_succ]
            refine wpAnyH_ready (rs := [22]) (by kernel_rfl) (by simp) (AllReadyH.cons (by simp only [List.getElem?_toArray, List.getElem?_cons_succ, List.getElem?_cons_zero]; rfl) (fun K hK => ?_) AllReadyH.nil)
            go_simp
            refine (specEqualInts_yes (c := d1) (d := d2) (HN1.out.same HBd.out) (HN2.out.same HBd.out)).mono ?_
            rintro e w1 ⟨rfl, hb1⟩
            have HB1 : Hid (Below wr.heap.size wr w1) := Lib.hid (HBd.out.trans (hb1.mono HBd.out.size))
            clear hb1
            go_wp2_with fail
            refine hK.out _ _ ⟨cell_stay C0.out HB1.out, cell_stay C1.out HB1.out, cell_stay C2.out HB1.out, cell_stay C3.out HB1.out⟩ (fun hHeld => ?_)
            clear hK K
            try simp only [Act.put, List.setIfInBounds_toArray, List.set_cons_zero, List.set_cons_succ]
            refine wpAnyH_take (i := 23) (v := ?v47) (by simp only [List.getElem?_toArray, List.getElem?_cons_succ, List.getElem?_cons_zero]; rfl) (by kernel_rfl) (by kernel_rfl) (by kernel_rfl) (by exact fun _ _ _ h => h) (Or.inl ⟨by rfl, fun w9 hS9 => ?hy47⟩) hHeld ?rest47
            case hy47 =>
              dsimp only at hS9
              obtain ⟨s0, s1, s2, s3⟩ := hS9
              go_simp
              try with_reducible rfl
            try simp only [Act.put, List.setIfInBounds_toArray, List.set_cons_zero, List.set_cons_succ]
            refine wpAnyH_take (i := 24) (v := ?v48) (by simp only [List.getElem?_toArray, List.getElem?_cons_succ, List.getElem?_cons_zero]; rfl) (by kernel_rfl) (by kernel_rfl) (by kernel_rfl) (by exact fun _ _ _ h => h) (Or.inl ⟨by rfl, fun w9 hS9 => ?hy48⟩) hHeld ?rest48
            case hy48 =>
              dsimp only at hS9
              obtain ⟨s0, s1, s2, s3⟩ := hS9
              go_simp
              try with_reducible rfl
            try simp only [Act.put, List.setIfInBounds_toArray, List.set_cons_zero, List.set_cons_succ]
            refine wpAnyH_done (by kernel_rfl) ?_ _
            have HBX : Hid (Below w.heap.size w w1) := Lib.hid (HB.out.trans (HB1.out.mono HB.out.size))
            go_wp2_with fail
            go_roundw
            case rel => exact ⟨j + 1, by omega, by go_num, by rw [List.take_add_one, List.take_add_one, HX.out, HY.out, HT.out], HBX.out⟩
            case measure => simp [intOf]; omega
          · have HYY := Lib.hid hyy
            clear hyy
            go_wp2_with fail
            have HBd : Hid (Below wr.heap.size wr wr.drew) := Lib.hid (Below.refl _ _).drew
            refine wp_region_held_drew (S := (fun w' => w'.cell? ⟨b1, o1 + j * 2, none⟩ = some (.int .i64 k1) ∧ w'.cell? ⟨b1, o1 + j * 2 + 1, none⟩ = some (.slice p1 m1 d1) ∧ w'.cell? ⟨b2, o2 + j * 2, none⟩ = some (.int .i64 k1) ∧ w'.cell? ⟨b2, o2 + j * 2 + 1, none⟩ = some (.slice p2 m2 d2))) (by kernel_rfl) ⟨cell_stay C0.out HBd.out, cell_stay C1.out HBd.out, cell_stay C2.out HBd.out, cell_stay C3.out HBd.out⟩ (fun hHeld => ?_)
            refine wpAnyH_take (i := 0) (v := ?v49) (by simp only [List.getElem?_toArray, List.getElem?_cons_succ, List.getElem?_cons_zero]; rfl) (by kernel_rfl) (by kernel_rfl) (by kernel_rfl) (by exact fun _ _ _ h => h) (Or.inl ⟨by rfl, fun w9 hS9 => ?hy49⟩) hHeld ?rest49
            case hy49 =>
              dsimp only at hS9
              obtain ⟨s0, s1, s2, s3⟩ := hS9
              go_simp
              try with_reducible rfl
            try simp only [Act.put, List.setIfInBounds_toArray, List.set_cons_zero, List.set_cons_succ]
            refine wpAnyH_take (i := 1) (v := ?v50) (by simp only [List.getElem?_toArray, List.getElem?_cons_succ, List.getElem?_cons_zero]; rfl) (by kernel_rfl) (by kernel_rfl) (by kernel_rfl) (by exact fun _ _ _ h => h) (Or.inl ⟨by rfl, fun w9 hS9 => ?hy50⟩) hHeld ?rest50
            case hy50 =>
              dsimp only at hS9
              obtain ⟨s0, s1, s2, s3⟩ := hS9
              go_simp
              try with_reducible rfl
            try simp only [Act.put, List.setIfInBounds_toArray, List.set_cons_zero, List.set_cons_succ]
            refine wpAnyH_take (i := 2) (v := ?v51) (by simp only [List.getElem?_toArray, List.getElem?_cons_succ, List.getElem?_cons_zero]; rfl) (by kernel_rfl) (by kernel_rfl) (by kernel_rfl) (by exact fun _ _ _ h => h) (Or.inl ⟨by rfl, fun w9 hS9 => ?hy51⟩) hHeld ?rest51
            case hy51 =>
              dsimp only at hS9
              obtain ⟨s0, s1, s2, s3⟩ := hS9
              go_simp
              try with_reducible rfl
            try simp only [Act.put, List.setIfInBounds_toArray, List.set_cons_zero, List.set_cons_succ]
            refine wpAnyH_take (i := 3) (v := ?v52) (by simp only [List.getElem?_toArray, List.getElem?_cons_succ, List.getElem?_cons_zero]; rfl) (by kernel_rfl) (by kernel_rfl) (by kernel_rfl) (by exact fun _ _ _ h => h) (Or.inl ⟨by rfl, fun w9 hS9 => ?hy52⟩) hHeld ?rest52
            case hy52 =>
              dsimp only at hS9
              obtain ⟨s0, s1, s2, s3⟩ := hS9
              go_simp
              try with_reducible rfl
            try simp only [Act.put, List.setIfInBounds_toArray, List.set_cons_zero, List.set_cons_succ]
            refine wpAnyH_take (i := 4) (v := ?v53) (by simp only [List.getElem?_toArray, List.getElem?_cons_succ, List.getElem?_cons_zero]; rfl) (by kernel_rfl) (by kernel_rfl) (by kernel_rfl) (by exact fun _ _ _ h => h) (Or.inl ⟨by rfl, fun w9 hS9 => ?hy53⟩) hHeld ?rest53
            case hy53 =>
              dsimp only at hS9
              obtain ⟨s0, s1, s2, s3⟩ := hS9
              go_simp
              try with_reducible rfl
            try simp only [Act.put, List.setIfInBounds_toArray, List.set_cons_zero, List.set_cons_succ]
            refine wpAnyH_take (i := 5) (v := ?v54) (by simp only [List.getElem?_toArray, List.getElem?_cons_succ, List.getElem?_cons_zero]; rfl) (by kernel_rfl) (by kernel_rfl) (by kernel_rfl) (by exact fun _ _ _ h => h) (Or.inl ⟨by rfl, fun w9 hS9 => ?hy54⟩) hHeld ?rest54
            case hy54 =>
              dsimp only at hS9
              obtain ⟨s0, s1, s2, s3⟩ := hS9
              go_simp
              try with_reducible rfl
            try simp only [Act.put, List.setIfInBounds_toArray, List.set_cons_zero, List.set_cons_succ]
            refine wpAnyH_take (i := 6) (v := ?v55) (by simp only [List.getElem?_toArray, List.getElem?_cons_succ, List.getElem?_cons_zero]; rfl) (by kernel_rfl) (by kernel_rfl) (by kernel_rfl) (by exact fun _ _ _ h => h) (Or.inl ⟨by rfl, fun w9 hS9 => ?hy55⟩) hHeld ?rest55
            case hy55 =>
              dsimp only at hS9
              obtain ⟨s0, s1, s2, s3⟩ := hS9
              go_simp
              try with_reducible rfl
            try simp only [Act.put, List.setIfInBounds_toArray, List.set_cons_zero, List.set_cons_succ]
            refine wpAnyH_take (i := 7) (v := ?v56) (by simp only [List.getElem?_toArray, List.getElem?_cons_succ, List.getElem?_cons_zero]; rfl) (by kernel_rfl) (by kernel_rfl) (by kernel_rfl) (by exact fun _ _ _ h => h) (Or.inl ⟨by rfl, fun w9 hS9 => ?hy56⟩) hHeld ?rest56
            case hy56 =>
              dsimp only at hS9
              obtain ⟨s0, s1, s2, s3⟩ := hS9
              go_simp
              try with_reducible rfl
            try simp only [Act.put, List.setIfInBounds_toArray, List.set_cons_zero, List.set_cons_succ]
            refine wpAnyH_take (i := 8) (v := ?v57) (by simp only [List.getElem?_toArray, List.getElem?_cons_succ, List.getElem?_cons_zero]; rfl) (by kernel_rfl) (by kernel_rfl) (by kernel_rfl) (by exact fun _ _ _ h => h) (Or.inl ⟨by rfl, fun w9 hS9 => ?hy57⟩) hHeld ?rest57
            case hy57 =>
              dsimp only at hS9
              obtain ⟨s0, s1, s2, s3⟩ := hS9
              go_simp
              try with_reducible rfl
            try simp only [Act.put, List.setIfInBounds_toArray, List.set_cons_zero, List.set_cons_succ]
            refine wpAnyH_take (i := 9) (v := ?v58) (by simp only [List.getElem?_toArray, List.getElem?_cons_succ, List.getElem?_cons_zero]; rfl) (by kernel_rfl) (by kernel_rfl) (by kernel_rfl) (by exact fun _ _ _ h => h) (Or.inl ⟨by rfl, fun w9 hS9 => ?hy58⟩) hHeld ?rest58
            case hy58 =>
              dsimp only at hS9
              obtain ⟨s0, s1, s2, s3⟩ := hS9
              go_simp
              try with_reducible rfl
            try simp only [Act.put, List.setIfInBounds_toArray, List.set_cons_zero, List.set_cons_succ]
            refine wpAnyH_take (i := 10) (v := ?v59) (by simp only [List.getElem?_toArray, List.getElem?_cons_succ, List.getElem?_cons_zero]; rfl) (by kernel_rfl) (by kernel_rfl) (by kernel_rfl) (by exact fun _ _ _ h => h) (Or.inl ⟨by rfl, fun w9 hS9 => ?hy59⟩) hHeld ?rest59
            case hy59 =>
              dsimp only at hS9
              obtain ⟨s0, s1, s2, s3⟩ := hS9
              go_simp
              try with_reducible rfl
            try simp only [Act.put, List.setIfInBounds_toArray, List.set_cons_zero, List.set_cons_succ]
            refine wpAnyH_take (i := 11) (v := ?v60) (by simp only [List.getElem?_toArray, List.getElem?_cons_succ, List.getElem?_cons_zero]; rfl) (by kernel_rfl) (by kernel_rfl) (by kernel_rfl) (by exact fun _ _ _ h => h) (Or.inl ⟨by rfl, fun w9 hS9 => ?hy60⟩) hHeld ?rest60
            case hy60 =>
              dsimp only at hS9
              obtain ⟨s0, s1, s2, s3⟩ := hS9
              go_simp
              try with_reducible rfl
            try simp only [Act.put, List.setIfInBounds_toArray, List.set_cons_zero, List.set_cons_succ]
            refine wpAnyH_take (i := 12) (v := ?v61) (by simp only [List.getElem?_toArray, List.getElem?_cons_succ, List.getElem?_cons_zero]; rfl) (by kernel_rfl) (by kernel_rfl) (by kernel_rfl) (by exact fun _ _ _ h => h) (Or.inl ⟨by rfl, fun w9 hS9 => ?hy61⟩) hHeld ?rest61
            case hy61 =>
              dsimp only at hS9
              obtain ⟨s0, s1, s2, s3⟩ := hS9
              go_simp
              try with_reducible rfl
            try simp only [Act.put, List.setIfInBounds_toArray, List.set_cons_zero, List.set_cons_succ]
            refine wpAnyH_take (i := 13) (v := ?v62) (by simp only [List.getElem?_toArray, List.getElem?_cons_succ, List.getElem?_cons_zero]; rfl) (by kernel_rfl) (by kernel_rfl) (by kernel_rfl) (by exact fun _ _ _ h => h) (Or.inl ⟨by rfl, fun w9 hS9 => ?hy62⟩) hHeld ?rest62
            case hy62 =>
              dsimp only at hS9
              obtain ⟨s0, s1, s2, s3⟩ := hS9
              go_simp
              try with_reducible rfl
            try simp only [Act.put, List.setIfInBounds_toArray, List.set_cons_zero, List.set_cons_succ]
            refine wpAnyH_take (i := 14) (v := ?v63) (by simp only [List.getElem?_toArray, List.getElem?_cons_succ, List.getElem?_cons_zero]; rfl) (by kernel_rfl) (by kernel_rfl) (by kernel_rfl) (by exact fun _ _ _ h => h) (Or.inl ⟨by rfl, fun w9 hS9 => ?hy63⟩) hHeld ?rest63
            case hy63 =>
              dsimp only at hS9
              obtain ⟨s0, s1, s2, s3⟩ := hS9
              go_simp
              try with_reducible rfl
            try simp only [Act.put, List.setIfInBounds_toArray, List.set_cons_zero, List.set_cons_succ]
            refine wpAnyH_take (i := 15) (v := ?v64) (by simp only [List.getElem?_toArray, List.getElem?_cons_succ, List.getElem?_cons_zero]; rfl) (by kernel_rfl) (by kernel_rfl) (by kernel_rfl) (by exact fun _ _ _ h => h) (Or.inl ⟨by rfl, fun w9 hS9 => ?hy64⟩) hHeld ?rest64
            case hy64 =>
              dsimp only at hS9
              obtain ⟨s0, s1, s2, s3⟩ := hS9
              go_simp
              try with_reducible rfl
            try simp only [Act.put, List.setIfInBounds_toArray, List.set_cons_zero, List.set_cons_succ]
            refine wpAnyH_take (i := 16) (v := ?v65) (by simp only [List.getElem?_toArray, List.getElem?_cons_succ, List.getElem?_cons_zero]; rfl) (by kernel_rfl) (by kernel_rfl) (by kernel_rfl) (by exact fun _ _ _ h => h) (Or.inl ⟨by rfl, fun w9 hS9 => ?hy65⟩) hHeld ?rest65
            case hy65 =>
              dsimp only at hS9
              obtain ⟨s0, s1, s2, s3⟩ := hS9
              go_simp
              try with_reducible rfl
            try simp only [Act.put, List.setIfInBounds_toArray, List.set_cons_zero, List.set_cons_succ]
            refine wpAnyH_take (i := 17) (v := ?v66) (by simp only [List.getElem?_toArray, List.getElem?_cons_succ, List.getElem?_cons_zero]; rfl) (by kernel_rfl) (by kernel_rfl) (by kernel_rfl) (by exact fun _ _ _ h => h) (Or.inl ⟨by rfl, fun w9 hS9 => ?hy66⟩) hHeld ?rest66
            case hy66 =>
              dsimp only at hS9
              obtain ⟨s0, s1, s2, s3⟩ := hS9
              go_simp
              try with_reducible rfl
            try simp only [Act.put, List.setIfInBounds_toArray, List.set_cons_zero, List.set_cons_succ]
            refine wpAnyH_take (i := 18) (v := ?v67) (by simp only [List.getElem?_toArray, List.getElem?_cons_succ, List.getElem?_cons_zero]; rfl) (by kernel_rfl) (by kernel_rfl) (by kernel_rfl) (by exact fun _ _ _ h => h) (Or.inl ⟨by rfl, fun w9 hS9 => ?hy67⟩) hHeld ?rest67
            case hy67 =>
              dsimp only at hS9
              obtain ⟨s0, s1, s2, s3⟩ := hS9
              go_simp
              try with_reducible rfl
            try simp only [Act.put, List.setIfInBounds_toArray, List.set_cons_zero, List.set_cons_succ]
            refine wpAnyH_take (i := 19) (v := ?v68) (by simp only [List.getElem?_toArray, List.getElem?_cons_succ, List.getElem?_cons_zero]; rfl) (by kernel_rfl) (by kernel_rfl) (by kernel_rfl) (by exact fun _ _ _ h => h) (Or.inl ⟨by rfl, fun w9 hS9 => ?hy68⟩) hHeld ?rest68
            case hy68 =>
              dsimp only at hS9
              obtain ⟨s0, s1, s2, s3⟩ := hS9
              go_simp
              try with_reducible rfl
            try simp only [Act.put, List.setIfInBounds_toArray, List.set_cons_zero, List.set_cons_succ]
            refine wpAnyH_take (i := 20) (v := ?v69) (by simp only [List.getElem?_toArray, List.getElem?_cons_succ, List.getElem?_cons_zero]; rfl) (by kernel_rfl) (by kernel_rfl) (by kernel_rfl) (by exact fun _ _ _ h => h) (Or.inl ⟨by rfl, fun w9 hS9 => ?hy69⟩) hHeld ?rest69
            case hy69 =>
              dsimp only at hS9
              obtain ⟨s0, s1, s2, s3⟩ := hS9
              go_simp
              try with_reducible rfl
            try simp only [Act.put, List.setIfInBounds_toArray, List.set_cons_zero, List.set_cons_succ]
            refine wpAnyH_take (i := 21) (v := ?v70) (by simp only [List.getElem?_toArray, List.getElem?_cons_succ, List.getElem?_cons_zero]; rfl) (by kernel_rfl) (by kernel_rfl) (by kernel_rfl) (by exact fun _ _ _ h => h) (Or.inl ⟨by rfl, fun w9 hS9 => ?hy70⟩) hHeld ?rest70
            case hy70 =>
              dsimp only at hS9
              obtain ⟨s0, s1, s2, s3⟩ := hS9
              go_simp
              try with_reducible rfl
            try simp only [Act.put, List.setIfInBounds_toArray, List.set_cons_zero, List.set_cons_succ]
            refine wpAnyH_ready (rs := [22]) (by kernel_rfl) (by simp) (AllReadyH.cons (by simp only [List.getElem?_toArray, List.getElem?_cons_succ, List.getElem?_cons_zero]; rfl) (fun K hK => ?_) AllReadyH.nil)
            go_simp
            refine (specEqualInts_no (c := d1) (d := d2) (HN1.out.same HBd.out) (HN2.out.same HBd.out) HYY.out).mono ?_
            rintro e w1 ⟨rfl, hb1⟩
            have HB1 : Hid (Below wr.heap.size wr w1) := Lib.hid (HBd.out.trans (hb1.mono HBd.out.size))
            clear hb1
            go_wp2_with fail
            refine hK.out _ _ ⟨cell_stay C0.out HB1.out, cell_stay C1.out HB1.out, cell_stay C2.out HB1.out, cell_stay C3.out HB1.out⟩ (fun hHeld => ?_)
            clear hK K
            try simp only [Act.put, List.setIfInBounds_toArray, List.set_cons_zero, List.set_cons_succ]
            refine wpAnyH_take (i := 23) (v := ?v71) (by simp only [List.getElem?_toArray, List.getElem?_cons_succ, List.getElem?_cons_zero]; rfl) (by kernel_rfl) (by kernel_rfl) (by kernel_rfl) (by exact fun _ _ _ h => h) (Or.inl ⟨by rfl, fun w9 hS9 => ?hy71⟩) hHeld ?rest71
            case hy71 =>
              dsimp only at hS9
              obtain ⟨s0, s1, s2, s3⟩ := hS9
              go_simp
              try with_reducible rfl
            try simp only [Act.put, List.setIfInBounds_toArray, List.set_cons_zero, List.set_cons_succ]
            refine wpAnyH_take (i := 24) (v := ?v72) (by simp only [List.getElem?_toArray, List.getElem?_cons_succ, List.getElem?_cons_zero]; rfl) (by kernel_rfl) (by kernel_rfl) (by kernel_rfl) (by exact fun _ _ _ h => h) (Or.inl ⟨by rfl, fun w9 hS9 => ?hy72⟩) hHeld ?rest72
            case hy72 =>
              dsimp only at hS9
              obtain ⟨s0, s1, s2, s3⟩ := hS9
              go_simp
              try with_reducible rfl
            try simp only [Act.put, List.setIfInBounds_toArray, List.set_cons_zero, List.set_cons_succ]
            refine wpAnyH_done (by kernel_rfl) ?_ _
            have HBX := Lib.hid (HB.out.trans (HB1.out.mono HB.out.size))
            go_wp2_with fail
            go_ret
            exact ⟨rfl, HBX.out⟩
        · have bk : (k1 != k2) = true := by simpa using hk
          clear hk
          have C0 := Lib.hid hc0
          have C1 := Lib.hid hc1
          have C2 := Lib.hid hd0
          have C3 := Lib.hid hd1
          have HN1 := Lib.hid hN1
          have HN2 := Lib.hid hN2
          have hltI : (j : Int) < (n : Int) := by omega
          clear hc0 hc1 hd0 hd1 hN1 hN2
          go_wp2_with fail
          have HBd : Hid (Below wr.heap.size wr wr.drew) := Lib.hid (Below.refl _ _).drew
          refine wp_region_held_drew (S := (fun w' => w'.cell? ⟨b1, o1 + j * 2, none⟩ = some (.int .i64 k1) ∧ w'.cell? ⟨b1, o1 + j * 2 + 1, none⟩ = some (.slice p1 m1 d1) ∧ w'.cell? ⟨b2, o2 + j * 2, none⟩ = some (.int .i64 k2) ∧ w'.cell? ⟨b2, o2 + j * 2 + 1, none⟩ = some (.slice p2 m2 d2))) (by kernel_rfl) ⟨cell_stay C0.out HBd.out, cell_stay C1.out HBd.out, cell_stay C2.out HBd.out, cell_stay C3.out HBd.out⟩ (fun hHeld => ?_)
          refine wpAnyH_take (i := 0) (v := ?v73) (by simp only [List.getElem?_toArray, List.getElem?_cons_succ, List.getElem?_cons_zero]; rfl) (by kernel_rfl) (by kernel_rfl) (by kernel_rfl) (by exact fun _ _ _ h => h) (Or.inl ⟨by rfl, fun w9 hS9 => ?hy73⟩) hHeld ?rest73
          case hy73 =>
            dsimp only at hS9
            obtain ⟨s0, s1, s2, s3⟩ := hS9
            go_simp
            try with_reducible rfl
          try simp only [Act.put, List.setIfInBounds_toArray, List.set_cons_zero, List.set_cons_succ]
          refine wpAnyH_take (i := 1) (v := ?v74) (by simp only [List.getElem?_toArray, List.getElem?_cons_succ, List.getElem?_cons_zero]; rfl) (by kernel_rfl) (by kernel_rfl) (by kernel_rfl) (by exact fun _ _ _ h => h) (Or.inl ⟨by rfl, fun w9 hS9 => ?hy74⟩) hHeld ?rest74
          case hy74 =>
            dsimp only at hS9
            obtain ⟨s0, s1, s2, s3⟩ := hS9
            go_simp
            try with_reducible rfl
          try simp only [Act.put, List.setIfInBounds_toArray, List.set_cons_zero, List.set_cons_succ]
          refine wpAnyH_take (i := 2) (v := ?v75) (by simp only [List.getElem?_toArray, List.getElem?_cons_succ, List.getElem?_cons_zero]; rfl) (by kernel_rfl) (by kernel_rfl) (by kernel_rfl) (by exact fun _ _ _ h => h) (Or.inl ⟨by rfl, fun w9 hS9 => ?hy75⟩) hHeld ?rest75
          case hy75 =>
            dsimp only at hS9
            obtain ⟨s0, s1, s2, s3⟩ := hS9
            go_simp
            try with_reducible rfl
          try simp only [Act.put, List.setIfInBounds_toArray, List.set_cons_zero, List.set_cons_succ]
          refine wpAnyH_take (i := 3) (v := ?v76) (by simp only [List.getElem?_toArray, List.getElem?_cons_succ, List.getElem?_cons_zero]; rfl) (by kernel_rfl) (by kernel_rfl) (by kernel_rfl) (by exact fun _ _ _ h => h) (Or.inl ⟨by rfl, fun w9 hS9 => ?hy76⟩) hHeld ?rest76
          case hy76 =>
            dsimp only at hS9
            obtain ⟨s0, s1, s2, s3⟩ := hS9
            go_simp
            try with_reducible rfl
          try simp only [Act.put, List.setIfInBounds_toArray, List.set_cons_zero, List.set_cons_succ]
          refine wpAnyH_take (i := 4) (v := ?v77) (by simp only [List.getElem?_toArray, List.getElem?_cons_succ, List.getElem?_cons_zero]; rfl) (by kernel_rfl) (by kernel_rfl) (by kernel_rfl) (by exact fun _ _ _ h => h) (Or.inl ⟨by rfl, fun w9 hS9 => ?hy77⟩) hHeld ?rest77
          case hy77 =>
            dsimp only at hS9
            obtain ⟨s0, s1, s2, s3⟩ := hS9
            go_simp
            try with_reducible rfl
          try simp only [Act.put, List.setIfInBounds_toArray, List.set_cons_zero, List.set_cons_succ]
          refine wpAnyH_take (i := 5) (v := ?v78) (by simp only [List.getElem?_toArray, List.getElem?_cons_succ, List.getElem?_cons_zero]; rfl) (by kernel_rfl) (by kernel_rfl) (by kernel_rfl) (by exact fun _ _ _ h => h) (Or.inl ⟨by rfl, fun w9 hS9 => ?hy78⟩) hHeld ?rest78
          case hy78 =>
            dsimp only at hS9
            obtain ⟨s0, s1, s2, s3⟩ := hS9
            go_simp
            try with_reducible rfl
          try simp only [Act.put, List.setIfInBounds_toArray, List.set_cons_zero, List.set_cons_succ]
          refine wpAnyH_take (i := 6) (v := ?v79) (by simp only [List.getElem?_toArray, List.getElem?_cons_succ, List.getElem?_cons_zero]; rfl) (by kernel_rfl) (by kernel_rfl) (by kernel_rfl) (by exact fun _ _ _ h => h) (Or.inl ⟨by rfl, fun w9 hS9 => ?hy79⟩) hHeld ?rest79
          case hy79 =>
            dsimp only at hS9
            obtain ⟨s0, s1, s2, s3⟩ := hS9
            go_simp
            try with_reducible rfl
          try simp only [Act.put, List.setIfInBounds_toArray, List.set_cons_zero, List.set_cons_succ]
          refine wpAnyH_take (i := 7) (v := ?v80) (by simp only [List.getElem?_toArray, List.getElem?_cons_succ, List.getElem?_cons_zero]; rfl) (by kernel_rfl) (by kernel_rfl) (by kernel_rfl) (by exact fun _ _ _ h => h) (Or.inl ⟨by rfl, fun w9 hS9 => ?hy80⟩) hHeld ?rest80
          case hy80 =>
            dsimp only at hS9
            obtain ⟨s0, s1, s2, s3⟩ := hS9
            go_simp
            try with_reducible rfl
          try simp only [Act.put, List.setIfInBounds_toArray, List.set_cons_zero, List.set_cons_succ]
          refine wpAnyH_take (i := 8) (v := ?v81) (by simp only [List.getElem?_toArray, List.getElem?_cons_succ, List.getElem?_cons_zero]; rfl) (by kernel_rfl) (by kernel_rfl) (by kernel_rfl) (by exact fun _ _ _ h => h) (Or.inl ⟨by rfl, fun w9 hS9 => ?hy81⟩) hHeld ?rest81
          case hy81 =>
            dsimp only at hS9
            obtain ⟨s0, s1, s2, s3⟩ := hS9
            go_simp
            try with_reducible rfl
          try simp only [Act.put, List.setIfInBounds_toArray, List.set_cons_zero, List.set_cons_succ]
          refine wpAnyH_take (i := 9) (v := ?v82) (by simp only [List.getElem?_toArray, List.getElem?_cons_succ, List.getElem?_cons_zero]; rfl) (by kernel_rfl) (by kernel_rfl) (by kernel_rfl) (by exact fun _ _ _ h => h) (Or.inl ⟨by rfl, fun w9 hS9 => ?hy82⟩) hHeld ?rest82
          case hy82 =>
            dsimp only at hS9
            obtain ⟨s0, s1, s2, s3⟩ := hS9
            go_simp
            try with_reducible rfl
          try simp only [Act.put, List.setIfInBounds_toArray, List.set_cons_zero, List.set_cons_succ]
          refine wpAnyH_take (i := 10) (v := ?v83) (by simp only [List.getElem?_toArray, List.getElem?_cons_succ, List.getElem?_cons_zero]; rfl) (by kernel_rfl) (by kernel_rfl) (by kernel_rfl) (by exact fun _ _ _ h => h) (Or.inl ⟨by rfl, fun w9 hS9 => ?hy83⟩) hHeld ?rest83
          case hy83 =>
            dsimp only at hS9
            obtain ⟨s0, s1, s2, s3⟩ := hS9
            go_simp
            try with_reducible rfl
          try simp only [Act.put, List.setIfInBounds_toArray, List.set_cons_zero, List.set_cons_succ]
          refine wpAnyH_take (i := 11) (v := ?v84) (by simp only [List.getElem?_toArray, List.getElem?_cons_succ, List.getElem?_cons_zero]; rfl) (by kernel_rfl) (by kernel_rfl) (by kernel_rfl) (by exact fun _ _ _ h => h) (Or.inl ⟨by rfl, fun w9 hS9 => ?hy84⟩) hHeld ?rest84
          case hy84 =>
            dsimp only at hS9
            obtain ⟨s0, s1, s2, s3⟩ := hS9
            go_simp
            try with_reducible rfl
          try simp only [Act.put, List.setIfInBounds_toArray, List.set_cons_zero, List.set_cons_succ]
          refine wpAnyH_take (i := 12) (v := undef) (by simp only [List.getElem?_toArray, List.getElem?_cons_succ, List.getElem?_cons_zero]; rfl) (by kernel_rfl) (by kernel_rfl) (by kernel_rfl) (by exact fun _ _ _ h => h) (Or.inr ⟨by rfl, rfl⟩) hHeld ?_
          try simp only [Act.put, List.setIfInBounds_toArray, List.set_cons_zero, List.set_cons_succ]
          refine wpAnyH_take (i := 13) (v := undef) (by simp only [List.getElem?_toArray, List.getElem?_cons_succ, List.getElem?_cons_zero]; rfl) (by kernel_rfl) (by kernel_rfl) (by kernel_rfl) (by exact fun _ _ _ h => h) (Or.inr ⟨by rfl, rfl⟩) hHeld ?_
          try simp only [Act.put, List.setIfInBounds_toArray, List.set_cons_zero, List.set_cons_succ]
          refine wpAnyH_take (i := 14) (v := undef) (by simp only [List.getElem?_toArray, List.getElem?_cons_succ, List.getElem?_cons_zero]; rfl) (by kernel_rfl) (by kernel_rfl) (by kernel_rfl) (by exact fun _ _ _ h => h) (Or.inr ⟨by rfl, rfl⟩) hHeld ?_
          try simp only [Act.put, List.setIfInBounds_toArray, List.set_cons_zero, List.set_cons_succ]
          refine wpAnyH_take (i := 15) (v := undef) (by simp only [List.getElem?_toArray, List.getElem?_cons_succ, List.getElem?_cons_zero]; rfl) (by kernel_rfl) (by kernel_rfl) (by kernel_rfl) (by exact fun _ _ _ h => h) (Or.inr ⟨by rfl, rfl⟩) hHeld ?_
          try simp only [Act.put, List.setIfInBounds_toArray, List.set_cons_zero, List.set_cons_succ]
          refine wpAnyH_take (i := 16) (v := undef) (by simp only [List.getElem?_toArray, List.getElem?_cons_succ, List.getElem?_cons_zero]; rfl) (by kernel_rfl) (by kernel_rfl) (by kernel_rfl) (by exact fun _ _ _ h => h) (Or.inr ⟨by rfl, rfl⟩) hHeld ?_
          try simp only [Act.put, List.setIfInBounds_toArray, List.set_cons_zero, List.set_cons_succ]
          refine wpAnyH_take (i := 17) (v := undef) (by simp only [List.getElem?_toArray, List.getElem?_cons_succ, List.getElem?_cons_zero]; rfl) (by kernel_rfl) (by kernel_rfl) (by kernel_rfl) (by exact fun _ _ _ h => h) (Or.inr ⟨by rfl, rfl⟩) hHeld ?_
          try simp only [Act.put, List.setIfInBounds_toArray, List.set_cons_zero, List.set_cons_succ]
          refine wpAnyH_take (i := 18) (v := undef) (by simp only [List.getElem?_toArray, List.getElem?_cons_succ, List.getElem?_cons_zero]; rfl) (by kernel_rfl) (by kernel_rfl) (by kernel_rfl) (by exact fun _ _ _ h => h) (Or.inr ⟨by rfl, rfl⟩) hHeld ?_
          try simp only [Act.put, List.setIfInBounds_toArray, List.set_cons_zero, List.set_cons_succ]
          refine wpAnyH_take (i := 19) (v := undef) (by simp only [List.getElem?_toArray, List.getElem?_cons_succ, List.getElem?_cons_zero]; rfl) (by kernel_rfl) (by kernel_rfl) (by kernel_rfl) (by exact fun _ _ _ h => h) (Or.inr ⟨by rfl, rfl⟩) hHeld ?_
          try simp only [Act.put, List.setIfInBounds_toArray, List.set_cons_zero, List.set_cons_succ]
          refine wpAnyH_take (i := 20) (v := undef) (by simp only [List.getElem?_toArray, List.getElem?_cons_succ, List.getElem?_cons_zero]; rfl) (by kernel_rfl) (by kernel_rfl) (by kernel_rfl) (by exact fun _ _ _ h => h) (Or.inr ⟨by rfl, rfl⟩) hHeld ?_
          try simp only [Act.put, List.setIfInBounds_toArray, List.set_cons_zero, List.set_cons_succ]
          refine wpAnyH_take (i := 21) (v := undef) (by simp only [List.getElem?_toArray, List.getElem?_cons_succ, List.getElem?_cons_zero]; rfl) (by kernel_rfl) (by kernel_rfl) (by kernel_rfl) (by exact fun _ _ _ h => h) (Or.inr ⟨by rfl, rfl⟩) hHeld ?_
          try simp only [Act.put, List.setIfInBounds_toArray, List.set_cons_zero, List.set_cons_succ]
          refine wpAnyH_take (i := 22) (v := undef) (by simp only [List.getElem?_toArray, List.getElem?_cons_succ, List.getElem?_cons_zero]; rfl) (by kernel_rfl) (by kernel_rfl) (by kernel_rfl) (by exact fun _ _ _ h => h) (Or.inr ⟨by rfl, rfl⟩) hHeld ?_
          try simp only [Act.put, List.setIfInBounds_toArray, List.set_cons_zero, List.set_cons_succ]
          refine wpAnyH_take (i := 23) (v := undef) (by simp only [List.getElem?_toArray, List.getElem?_cons_succ, List.getElem?_cons_zero]; rfl) (by kernel_rfl) (by kernel_rfl) (by kernel_rfl) (by exact fun _ _ _ h => h) (Or.inr ⟨by rfl, rfl⟩) hHeld ?_
          try simp only [Act.put, List.setIfInBounds_toArray, List.set_cons_zero, List.set_cons_succ]
          refine wpAnyH_take (i := 24) (v := ?v97) (by simp only [List.getElem?_toArray, List.getElem?_cons_succ, List.getElem?_cons_zero]; rfl) (by kernel_rfl) (by kernel_rfl) (by kernel_rfl) (by exact fun _ _ _ h => h) (Or.inl ⟨by rfl, fun w9 hS9 => ?hy97⟩) hHeld ?rest97
          case hy97 =>
            dsimp only at hS9
            obtain ⟨s0, s1, s2, s3⟩ := hS9
            go_simp
            try with_reducible rfl
          try simp only [Act.put, List.setIfInBounds_toArray, List.set_cons_zero, List.set_cons_succ]
          refine wpAnyH_done (by kernel_rfl) ?_ _
          have HBX := Lib.hid (HB.out.trans (HBd.out.mono HB.out.size))
          go_wp2_with fail
          go_ret
          exact ⟨rfl, HBX.out⟩
      · exfalso
        have h1 := HT.out
        rw [List.take_of_length_le (by rw [H.out.len]; omega), List.take_of_length_le (by rw [H'.out.len]; omega)] at h1
        exact HE.out h1
  · have hq : ((n : Int) != (m : Int)) = true := by simp; omega
    clear hnm
    go_enter Try.func91, Try.ntmps91
    go_wp2_with fail
    go_ret
    exact ⟨rfl, Below.refl _ _⟩
end Go.Proofs.Ytcpnchjgklemgaa
namespace Go.Proofs.Ytcpnchjgklemgaa
open Go.ChangeShapes Go.WideShapes Go.ChangeAt Go.RowKit
set_option linter.unusedVariables false
set_option linter.unusedSimpArgs false

theorem told_back {f : Nat} {args : Array Value} {v : Value} {w : World} (h : Calls Try.prog f args w fun e w' => e = .returned v ∧ w' = w) : Calls Try.prog f args w (Told v w) :=
  h.mono fun _ _ ⟨h1, h2⟩ => ⟨h1, h2 ▸ Below.refl _ _⟩
/-- Whether two values are equal. -/
noncomputable def eqD {α : Type} (x y : α) : Bool := @decide (x = y) (Classical.propDecidable _)
theorem eqD_yes {α : Type} {x y : α} (h : x = y) : eqD x y = true := by unfold eqD; exact @decide_eq_true _ (Classical.propDecidable _) h
theorem eqD_no {α : Type} {x y : α} (h : ¬ x = y) : eqD x y = false := by unfold eqD; exact @decide_eq_false _ (Classical.propDecidable _) h
noncomputable def eqH (x y : Hel) : Bool := eqD x.vers y.vers && eqD x.exts y.exts

set_option maxHeartbeats 1000000 in
set_option maxRecDepth 100000 in
theorem isHello_any {w : World} {v : Value} {x : Hel} (h : HelW w v x) : Calls Try.prog 16 #[v] w (Told (.bool (isH x)) w) := by
  obtain ⟨a, n, c, b, m, d, rfl, h1, h2, h3⟩ := h
  have HB := Lib.hid (alloc_same w (.cells #[.slice a n c, .slice b m d] 27))
  have hC := heap_alloc_new w (.cells #[.slice a n c, .slice b m d] 27 (0, 0))
  change (w.alloc (.cells #[.slice a n c, .slice b m d] 27)).heap[w.heap.size]? = _ at hC
  have hlt : w.heap.size < (w.alloc (.cells #[.slice a n c, .slice b m d] 27)).heap.size := by simp
  have KV := Lib.hid (told_is (areVersions_any (c := c) (h1.same HB.out)))
  have KX := Lib.hid (fun (w0 : World) (hb : Below w.heap.size w w0) => areExts_any (c := d) (h2.same hb))
  unfold isH
  clear h1 h2 h3
  cases hv : areV x.vers with
  | false =>
    rw [hv] at KV
    clear hC hv
    go_enter Try.func16, Try.ntmps16
    go_wp2_with fail
    refine KV.out.mono ?_
    rintro e w1 ⟨rfl, hb⟩
    have HB1 := Lib.hid (HB.out.trans (hb.mono HB.out.size))
    clear hb
    go_wp2_with fail
    go_ret
    exact ⟨rfl, HB1.out⟩
  | true =>
    rw [hv] at KV
    clear hv
    go_enter Try.func16, Try.ntmps16
    go_wp2_with fail
    generalize w.alloc (.cells #[.slice a n c, .slice b m d] 27) = W0 at *
    refine KV.out.mono ?_
    rintro e w1 ⟨rfl, hb⟩
    have HB1 := Lib.hid (HB.out.trans (hb.mono HB.out.size))
    obtain ⟨c0, c1, _, _⟩ := two_cells ((hb.block w.heap.size hlt).trans hC)
    clear hb hC
    go_wp2_with fail
    refine (KX.out w1 HB1.out).mono ?_
    rintro e w2 ⟨rfl, hb⟩
    have HB2 := Lib.hid (HB1.out.trans (hb.mono HB1.out.size))
    clear hb
    go_wp2_with fail
    go_ret
    exact ⟨rfl, HB2.out⟩

set_option maxHeartbeats 1000000 in
set_option maxRecDepth 100000 in
theorem isAnswer_any {w : World} {v : Value} {x : Ans} (h : AnsW w v x) : Calls Try.prog 34 #[v] w (Told (.bool (isA x)) w) := by
  obtain ⟨b, m, d, rfl, h2, h3⟩ := h
  have HB := Lib.hid (alloc_same w (.cells #[.int .i64 x.ver, .slice b m d] 39))
  have hC := heap_alloc_new w (.cells #[.int .i64 x.ver, .slice b m d] 39 (0, 0))
  change (w.alloc (.cells #[.int .i64 x.ver, .slice b m d] 39)).heap[w.heap.size]? = _ at hC
  have hlt : w.heap.size < (w.alloc (.cells #[.int .i64 x.ver, .slice b m d] 39)).heap.size := by simp
  have KV := Lib.hid (told_back (isVersion_any x.ver (w.alloc (.cells #[.int .i64 x.ver, .slice b m d] 39))))
  have KX := Lib.hid (fun (w0 : World) (hb : Below w.heap.size w w0) => areExts_any (c := d) (h2.same hb))
  unfold isA
  clear h2 h3
  cases hv : inBd x.ver 1 9 with
  | false =>
    rw [hv] at KV
    clear hC hv
    go_enter Try.func34, Try.ntmps34
    go_wp2_with fail
    refine KV.out.mono ?_
    rintro e w1 ⟨rfl, hb⟩
    have HB1 := Lib.hid (HB.out.trans (hb.mono HB.out.size))
    clear hb
    go_wp2_with fail
    go_ret
    exact ⟨rfl, HB1.out⟩
  | true =>
    rw [hv] at KV
    clear hv
    go_enter Try.func34, Try.ntmps34
    go_wp2_with fail
    generalize w.alloc (.cells #[.int .i64 x.ver, .slice b m d] 39) = W0 at *
    refine KV.out.mono ?_
    rintro e w1 ⟨rfl, hb⟩
    have HB1 := Lib.hid (HB.out.trans (hb.mono HB.out.size))
    obtain ⟨c0, c1, _, _⟩ := two_cells ((hb.block w.heap.size hlt).trans hC)
    clear hb hC
    go_wp2_with fail
    refine (KX.out w1 HB1.out).mono ?_
    rintro e w2 ⟨rfl, hb⟩
    have HB2 := Lib.hid (HB1.out.trans (hb.mono HB1.out.size))
    clear hb
    go_wp2_with fail
    go_ret
    exact ⟨rfl, HB2.out⟩

set_option maxHeartbeats 1000000 in
set_option maxRecDepth 100000 in
theorem specIsHello_any {w : World} {v : Value} {x : Hel} (h : HelW w v x) : Calls Try.prog 17 #[v] w (Told (.bool (isH x)) w) := by
  obtain ⟨a, n, c, b, m, d, rfl, h1, h2, h3⟩ := h
  have HB := Lib.hid (alloc_same w (.cells #[.slice a n c, .slice b m d] 27))
  have hC := heap_alloc_new w (.cells #[.slice a n c, .slice b m d] 27 (0, 0))
  change (w.alloc (.cells #[.slice a n c, .slice b m d] 27)).heap[w.heap.size]? = _ at hC
  have hlt : w.heap.size < (w.alloc (.cells #[.slice a n c, .slice b m d] 27)).heap.size := by simp
  have KV := Lib.hid (specAreVersions_any (c := c) (h1.same HB.out))
  have KX := Lib.hid (fun (w0 : World) (hb : Below w.heap.size w w0) => told_is (specAreExts_any (c := d) (h2.same hb)))
  unfold isH
  clear h1 h2 h3
  cases hv : areV x.vers with
  | false =>
    rw [hv] at KV
    clear hC hv
    go_enter Try.func17, Try.ntmps17
    go_wp2_with fail
    refine KV.out.mono ?_
    rintro e w1 ⟨rfl, hb⟩
    have HB1 := Lib.hid (HB.out.trans (hb.mono HB.out.size))
    clear hb
    go_wp2_with fail
    go_ret
    exact ⟨rfl, HB1.out⟩
  | true =>
    rw [hv] at KV
    clear hv
    go_enter Try.func17, Try.ntmps17
    go_wp2_with fail
    generalize w.alloc (.cells #[.slice a n c, .slice b m d] 27) = W0 at *
    refine KV.out.mono ?_
    rintro e w1 ⟨rfl, hb⟩
    have HB1 := Lib.hid (HB.out.trans (hb.mono HB.out.size))
    obtain ⟨c0, c1, _, _⟩ := two_cells ((hb.block w.heap.size hlt).trans hC)
    clear hb hC
    go_wp2_with fail
    refine (KX.out w1 HB1.out).mono ?_
    rintro e w2 ⟨rfl, hb⟩
    have HB2 := Lib.hid (HB1.out.trans (hb.mono HB1.out.size))
    clear hb
    go_wp2_with fail
    go_ret
    exact ⟨rfl, HB2.out⟩

set_option maxHeartbeats 1000000 in
set_option maxRecDepth 100000 in
theorem specIsAnswer_any {w : World} {v : Value} {x : Ans} (h : AnsW w v x) : Calls Try.prog 32 #[v] w (Told (.bool (isA x)) w) := by
  obtain ⟨b, m, d, rfl, h2, h3⟩ := h
  have HB := Lib.hid (alloc_same w (.cells #[.int .i64 x.ver, .slice b m d] 39))
  have hC := heap_alloc_new w (.cells #[.int .i64 x.ver, .slice b m d] 39 (0, 0))
  change (w.alloc (.cells #[.int .i64 x.ver, .slice b m d] 39)).heap[w.heap.size]? = _ at hC
  have hlt : w.heap.size < (w.alloc (.cells #[.int .i64 x.ver, .slice b m d] 39)).heap.size := by simp
  have KV := Lib.hid (told_back (l1R_b x.ver 1 9 (w.alloc (.cells #[.int .i64 x.ver, .slice b m d] 39))))
  have KX := Lib.hid (fun (w0 : World) (hb : Below w.heap.size w w0) => told_is (specAreExts_any (c := d) (h2.same hb)))
  unfold isA
  clear h2 h3
  cases hv : inBd x.ver 1 9 with
  | false =>
    rw [hv] at KV
    clear hC hv
    go_enter Try.func32, Try.ntmps32
    go_wp2_with fail
    refine KV.out.mono ?_
    rintro e w1 ⟨rfl, hb⟩
    have HB1 := Lib.hid (HB.out.trans (hb.mono HB.out.size))
    clear hb
    go_wp2_with fail
    go_ret
    exact ⟨rfl, HB1.out⟩
  | true =>
    rw [hv] at KV
    clear hv
    go_enter Try.func32, Try.ntmps32
    go_wp2_with fail
    generalize w.alloc (.cells #[.int .i64 x.ver, .slice b m d] 39) = W0 at *
    refine KV.out.mono ?_
    rintro e w1 ⟨rfl, hb⟩
    have HB1 := Lib.hid (HB.out.trans (hb.mono HB.out.size))
    obtain ⟨c0, c1, _, _⟩ := two_cells ((hb.block w.heap.size hlt).trans hC)
    clear hb hC
    go_wp2_with fail
    refine (KX.out w1 HB1.out).mono ?_
    rintro e w2 ⟨rfl, hb⟩
    have HB2 := Lib.hid (HB1.out.trans (hb.mono HB1.out.size))
    clear hb
    go_wp2_with fail
    go_ret
    exact ⟨rfl, HB2.out⟩

set_option maxHeartbeats 1000000 in
set_option maxRecDepth 100000 in
theorem equalHellos_any {w : World} {v v' : Value} {x y : Hel} (h : HelW w v x) (h' : HelW w v' y) : Calls Try.prog 18 #[v, v'] w (Told (.bool (eqH x y)) w) := by
  obtain ⟨a, n, c, b, m, d, rfl, h1, h2, h3⟩ := h
  obtain ⟨a', n', c', b', m', d', rfl, h1', h2', h3'⟩ := h'
  have HB : Hid (Below w.heap.size w ((w.alloc (.cells #[.slice a n c, .slice b m d] 27)).alloc (.cells #[.slice a' n' c', .slice b' m' d'] 27))) := Lib.hid (((Below.refl _ w).alloc (Nat.le_refl _) _).alloc (by simp) _)
  obtain ⟨hsz, hC, hD, _⟩ := two w #[.slice a n c, .slice b m d] #[.slice a' n' c', .slice b' m' d'] 27 27
  unfold eqH
  by_cases hv : x.vers = y.vers
  · rw [eqD_yes hv]
    have KV := Lib.hid (equalInts_yes (c := c) (d := c') (h1.same HB.out) (hv ▸ h1'.same HB.out))
    by_cases hx : x.exts = y.exts
    · rw [eqD_yes hx]
      have KX := Lib.hid (fun (w0 : World) (hb : Below w.heap.size w w0) => equalExts_yes (c := d) (d := d') (h2.same hb) (hx ▸ h2'.same hb))
      clear h1 h2 h3 h1' h2' h3' hv hx
      go_enter Try.func18, Try.ntmps18
      go_wp2_with fail
      generalize ((w.alloc (.cells #[.slice a n c, .slice b m d] 27)).alloc (.cells #[.slice a' n' c', .slice b' m' d'] 27)) = W0 at *
      refine KV.out.mono ?_
      rintro e w1 ⟨rfl, hb⟩
      have HB1 := Lib.hid (HB.out.trans (hb.mono HB.out.size))
      obtain ⟨c0, c1, _, _⟩ := two_cells ((hb.block w.heap.size (by omega)).trans hC)
      obtain ⟨c2, c3, _, _⟩ := two_cells ((hb.block (w.heap.size + 1) (by omega)).trans hD)
      clear hb hC hD
      go_wp2_with fail
      refine (KX.out w1 HB1.out).mono ?_
      rintro e w2 ⟨rfl, hb⟩
      have HB2 := Lib.hid (HB1.out.trans (hb.mono HB1.out.size))
      clear hb
      go_wp2_with fail
      go_ret
      exact ⟨rfl, HB2.out⟩
    · rw [eqD_no hx]
      have KX := Lib.hid (fun (w0 : World) (hb : Below w.heap.size w w0) => equalExts_no (c := d) (d := d') (h2.same hb) (h2'.same hb) hx)
      clear h1 h2 h3 h1' h2' h3' hv hx
      go_enter Try.func18, Try.ntmps18
      go_wp2_with fail
      generalize ((w.alloc (.cells #[.slice a n c, .slice b m d] 27)).alloc (.cells #[.slice a' n' c', .slice b' m' d'] 27)) = W0 at *
      refine KV.out.mono ?_
      rintro e w1 ⟨rfl, hb⟩
      have HB1 := Lib.hid (HB.out.trans (hb.mono HB.out.size))
      obtain ⟨c0, c1, _, _⟩ := two_cells ((hb.block w.heap.size (by omega)).trans hC)
      obtain ⟨c2, c3, _, _⟩ := two_cells ((hb.block (w.heap.size + 1) (by omega)).trans hD)
      clear hb hC hD
      go_wp2_with fail
      refine (KX.out w1 HB1.out).mono ?_
      rintro e w2 ⟨rfl, hb⟩
      have HB2 := Lib.hid (HB1.out.trans (hb.mono HB1.out.size))
      clear hb
      go_wp2_with fail
      go_ret
      exact ⟨rfl, HB2.out⟩
  · rw [eqD_no hv]
    have KV := Lib.hid (equalInts_no (c := c) (d := c') (h1.same HB.out) (h1'.same HB.out) hv)
    clear h1 h2 h3 h1' h2' h3' hv
    go_enter Try.func18, Try.ntmps18
    go_wp2_with fail
    generalize ((w.alloc (.cells #[.slice a n c, .slice b m d] 27)).alloc (.cells #[.slice a' n' c', .slice b' m' d'] 27)) = W0 at *
    refine KV.out.mono ?_
    rintro e w1 ⟨rfl, hb⟩
    have HB1 := Lib.hid (HB.out.trans (hb.mono HB.out.size))
    obtain ⟨c0, c1, _, _⟩ := two_cells ((hb.block w.heap.size (by omega)).trans hC)
    obtain ⟨c2, c3, _, _⟩ := two_cells ((hb.block (w.heap.size + 1) (by omega)).trans hD)
    clear hb hC hD
    go_wp2_with fail
    go_ret
    exact ⟨rfl, HB1.out⟩

set_option maxHeartbeats 1000000 in
set_option maxRecDepth 100000 in
theorem specEqualHellos_any {w : World} {v v' : Value} {x y : Hel} (h : HelW w v x) (h' : HelW w v' y) : Calls Try.prog 48 #[v, v'] w (Told (.bool (eqH x y)) w) := by
  obtain ⟨a, n, c, b, m, d, rfl, h1, h2, h3⟩ := h
  obtain ⟨a', n', c', b', m', d', rfl, h1', h2', h3'⟩ := h'
  have HB : Hid (Below w.heap.size w ((w.alloc (.cells #[.slice a n c, .slice b m d] 27)).alloc (.cells #[.slice a' n' c', .slice b' m' d'] 27))) := Lib.hid (((Below.refl _ w).alloc (Nat.le_refl _) _).alloc (by simp) _)
  obtain ⟨hsz, hC, hD, _⟩ := two w #[.slice a n c, .slice b m d] #[.slice a' n' c', .slice b' m' d'] 27 27
  unfold eqH
  by_cases hv : x.vers = y.vers
  · rw [eqD_yes hv]
    have KV := Lib.hid (specEqualInts_yes (c := c) (d := c') (h1.same HB.out) (hv ▸ h1'.same HB.out))
    by_cases hx : x.exts = y.exts
    · rw [eqD_yes hx]
      have KX := Lib.hid (fun (w0 : World) (hb : Below w.heap.size w w0) => specEqualExts_yes (c := d) (d := d') (h2.same hb) (hx ▸ h2'.same hb))
      clear h1 h2 h3 h1' h2' h3' hv hx
      go_enter Try.func48, Try.ntmps48
      go_wp2_with fail
      generalize ((w.alloc (.cells #[.slice a n c, .slice b m d] 27)).alloc (.cells #[.slice a' n' c', .slice b' m' d'] 27)) = W0 at *
      refine KV.out.mono ?_
      rintro e w1 ⟨rfl, hb⟩
      have HB1 := Lib.hid (HB.out.trans (hb.mono HB.out.size))
      obtain ⟨c0, c1, _, _⟩ := two_cells ((hb.block w.heap.size (by omega)).trans hC)
      obtain ⟨c2, c3, _, _⟩ := two_cells ((hb.block (w.heap.size + 1) (by omega)).trans hD)
      clear hb hC hD
      go_wp2_with fail
      refine (KX.out w1 HB1.out).mono ?_
      rintro e w2 ⟨rfl, hb⟩
      have HB2 := Lib.hid (HB1.out.trans (hb.mono HB1.out.size))
      clear hb
      go_wp2_with fail
      go_ret
      exact ⟨rfl, HB2.out⟩
    · rw [eqD_no hx]
      have KX := Lib.hid (fun (w0 : World) (hb : Below w.heap.size w w0) => specEqualExts_no (c := d) (d := d') (h2.same hb) (h2'.same hb) hx)
      clear h1 h2 h3 h1' h2' h3' hv hx
      go_enter Try.func48, Try.ntmps48
      go_wp2_with fail
      generalize ((w.alloc (.cells #[.slice a n c, .slice b m d] 27)).alloc (.cells #[.slice a' n' c', .slice b' m' d'] 27)) = W0 at *
      refine KV.out.mono ?_
      rintro e w1 ⟨rfl, hb⟩
      have HB1 := Lib.hid (HB.out.trans (hb.mono HB.out.size))
      obtain ⟨c0, c1, _, _⟩ := two_cells ((hb.block w.heap.size (by omega)).trans hC)
      obtain ⟨c2, c3, _, _⟩ := two_cells ((hb.block (w.heap.size + 1) (by omega)).trans hD)
      clear hb hC hD
      go_wp2_with fail
      refine (KX.out w1 HB1.out).mono ?_
      rintro e w2 ⟨rfl, hb⟩
      have HB2 := Lib.hid (HB1.out.trans (hb.mono HB1.out.size))
      clear hb
      go_wp2_with fail
      go_ret
      exact ⟨rfl, HB2.out⟩
  · rw [eqD_no hv]
    have KV := Lib.hid (specEqualInts_no (c := c) (d := c') (h1.same HB.out) (h1'.same HB.out) hv)
    clear h1 h2 h3 h1' h2' h3' hv
    go_enter Try.func48, Try.ntmps48
    go_wp2_with fail
    generalize ((w.alloc (.cells #[.slice a n c, .slice b m d] 27)).alloc (.cells #[.slice a' n' c', .slice b' m' d'] 27)) = W0 at *
    refine KV.out.mono ?_
    rintro e w1 ⟨rfl, hb⟩
    have HB1 := Lib.hid (HB.out.trans (hb.mono HB.out.size))
    obtain ⟨c0, c1, _, _⟩ := two_cells ((hb.block w.heap.size (by omega)).trans hC)
    obtain ⟨c2, c3, _, _⟩ := two_cells ((hb.block (w.heap.size + 1) (by omega)).trans hD)
    clear hb hC hD
    go_wp2_with fail
    go_ret
    exact ⟨rfl, HB1.out⟩
end Go.Proofs.Ytcpnchjgklemgaa
namespace Go.Proofs.Ytcpnchjgklemgaa
open Go.ChangeShapes Go.WideShapes Go.ChangeAt Go.RowKit
set_option linter.unusedVariables false
set_option linter.unusedSimpArgs false

def encW (l : List Vl) : List Int := if areX l = true then encX l else []
theorem encW_yes {l : List Vl} (h : areX l = true) : encW l = encX l := if_pos h
theorem encW_no {l : List Vl} (h : areX l = false) : encW l = [] := if_neg (by rw [h]; decide)
theorem encW_few (l : List Vl) : (encW l).length ≤ 37 := by
  cases h : areX l with
  | true => rw [encW_yes h]; exact encX_few h
  | false => rw [encW_no h]; simp
/-- What is left by a function that writes extensions. -/
def EncXT (tI : TypeId) (l : List Vl) (w : World) (e : Ending) (w' : World) : Prop :=
  ∃ q m d, e = .returned (.tuple #[.slice q m d, .bool (areX l)]) ∧ Own .i64 tI w' w.heap.size q m d (encW l) ∧ Below w.heap.size w w'
theorem Own.take_len {k : IntKind} {t : TypeId} {w : World} {B n c : Nat} {a : Option Addr} {l : List Int} (h : Own k t w B a n c l) {l' : List Int} (e : l = l') : Own k t w B a n c l' := by rw [← e]; exact h
set_option maxHeartbeats 4000000 in
set_option maxRecDepth 100000 in
theorem encodeExts_any {a : Option Addr} {n c : Nat} {l : List Vl} {w : World} (h : Vals w a n l) :
    Calls Try.prog 51 #[.slice a n c] w (EncXT 3 l w) := by
  have H := Lib.hid h
  have hln := Lib.hid h.len
  have hfit := h.fits
  obtain ⟨i0, hi, hz0, hz1, hz2⟩ := info_parts infoIntS
  have HI := Lib.hid (And.intro hi (And.intro hz0 (And.intro hz1 hz2)))
  clear hi hz0 hz1 hz2 h
  have HA := Lib.hid (areExts_any (c := c) (H.out.same (alloc_same w (.cells #[] 3))))
  have HO0 : Hid (Own .i64 3 (w.alloc (.cells #[] 3)) w.heap.size (some ⟨w.heap.size, 0, none⟩) 0 0 []) := Lib.hid (Own.empty (Nat.le_refl _))
  have HB0 : Hid (Below w.heap.size w (w.alloc (.cells #[] 3))) := Lib.hid (alloc_same _ _)
  unfold EncXT
  cases har : areX l with
  | false =>
    rw [har] at HA
    rw [encW_no har]
    clear har
    go_enter Try.func51, Try.ntmps51
    go_wp2_with fail
    refine HA.out.mono ?_
    rintro e w1 ⟨rfl, hb1⟩
    have HB1 := Lib.hid (HB0.out.trans (hb1.mono HB0.out.size))
    have HO1 := Lib.hid (HO0.out.same hb1)
    clear hb1 HA
    go_wp2_with fail
    go_ret2
    exact ⟨_, _, _, rfl, HO1.out, HB1.out⟩
  | true =>
    rw [har] at HA
    rw [encW_yes har]
    obtain ⟨hn6, hit⟩ := areX_few har
    rw [hln.out] at hn6
    clear har
    go_enter Try.func51, Try.ntmps51
    go_wp2_with fail
    refine HA.out.mono ?_
    rintro e w1 ⟨rfl, hb1⟩
    have HB1 := Lib.hid (HB0.out.trans (hb1.mono HB0.out.size))
    have HO1 := Lib.hid (HO0.out.same hb1)
    have hs1 := HB1.out.size
    clear hb1 HA
    go_wp2_with (at_builtin; refine wpl_app _ rfl (.tmp 12) (.tmp 15) 24 rfl .i64 3 i0 (.int .i64 0) 8 Try.underlying24 HI.out.1 HI.out.2.1 HI.out.2.2.1 HI.out.2.2.2 rfl rfl (HO1.out.alloc _) rfl (nums_new _ _ _ _) (by omega) ?c1 ?c2 ?_)
    case c1 => omega
    case c2 => simp; omega
    intro a2 c2 w2 ho2 hb2
    have HO2 : Hid (Own .i64 3 w2 w.heap.size a2 1 c2 ((n : Int) :: codesX (l.take 0))) := Lib.hid ho2
    have HB2 : Hid (Below w.heap.size w w2) := Lib.hid (HB1.out.trans (((alloc_same _ _).mono hs1).trans hb2))
    clear ho2 hb2
    go_wp2_with fail
    go_loopw [4, 19] (fun v i wr => ∃ (j : Nat) (q : Option Addr) (r e : Nat), j ≤ n ∧ i = .int .i64 j ∧ v = .slice q r e ∧ Own .i64 3 wr w.heap.size q r e ((n : Int) :: codesX (l.take j)) ∧ Below w.heap.size w wr) (fun _ i _ => n - (intOf i).toNat)
    case atStart => exact ⟨0, _, _, _, Nat.zero_le _, rfl, rfl, HO2.out, HB2.out⟩
    case round =>
      obtain ⟨j, q, r, e, hj, rfl, rfl, hown, hb⟩ := hrel
      have HOr := Lib.hid hown
      have HBr := Lib.hid hb
      clear hown hb
      by_cases hlt : j < n
      · obtain ⟨bb, o, p, pm, pd, k, y, rfl, hx, hd0, hd1, hN, hr⟩ := H.out.at_ hlt
        have hc0 := cell_stay hd0 HBr.out
        have hc1 := cell_stay hd1 HBr.out
        have hsz := HBr.out.size
        have hym := hN.len
        have hyi := itemsOf_mem hx
        dsimp only at hyi
        have hpm : pm ≤ 24 := by omega
        have hrl : r ≤ 37 := by
          have h1 := HOr.out.len
          have h2 := itemsOf_le l j
          rw [List.length_cons, codesX_len, List.length_take] at h1
          omega
        have HX : Hid ((n : Int) :: codesX (l.take (j + 1)) = ((n : Int) :: codesX (l.take j) ++ [k]) ++ ((pm : Int) :: y)) := Lib.hid (by rw [codesX_take hx]; simp [codeX, hym])
        have hb0 := alloc_same wr (.cells #[.int .i64 k, .slice p pm pd] 99)
        have hw0 := heap_alloc_new wr (.cells #[.int .i64 k, .slice p pm pd] 99)
        have C0 := Lib.hid ((block_cell hw0 0).trans rfl)
        have C1 := Lib.hid ((block_cell hw0 1).trans rfl)
        have HBW := Lib.hid (HBr.out.trans (hb0.mono hsz))
        have HOW := Lib.hid (HOr.out.same hb0)
        have HOFF := Lib.hid (own_off (n := r) (c := e) HOr.out.span (Nat.le_refl _))
        have HV : Hid (∀ w9, Below w.heap.size w w9 → Nums .i64 w9 p pm y) := Lib.hid (fun w9 h9 => hN.same h9)
        clear hx hN hb0 hw0 hym hyi hd0 hd1
        go_wp2_with fail
        have hlt0 : wr.heap.size < (wr.alloc (.cells #[.int .i64 k, .slice p pm pd] 99)).heap.size := by simp
        generalize wr.alloc (.cells #[.int .i64 k, .slice p pm pd] 99) = W0 at *
        have HQ : Hid (Below W0.heap.size W0 (W0.alloc (.cells #[.int .i64 k] 3)).drew) := Lib.hid (alloc_same _ _).drew
        have HOQ : Hid (Own .i64 3 (W0.alloc (.cells #[.int .i64 k] 3)).drew w.heap.size q r e ((n : Int) :: codesX (l.take j))) := Lib.hid (HOW.out.same HQ.out)
        have HNQ : Hid (Nums .i64 (W0.alloc (.cells #[.int .i64 k] 3)).drew (some ⟨W0.heap.size, 0, none⟩) 1 [k]) := Lib.hid ((nums_new _ _ _ _).same (Below.refl _ _).drew)
        have hsW : w.heap.size ≤ W0.heap.size := HBW.out.size
        have HBQ : Hid (Below w.heap.size w (W0.alloc (.cells #[.int .i64 k] 3)).drew) := Lib.hid (HBW.out.trans (HQ.out.mono hsW))
        have hsQ : w.heap.size ≤ (W0.alloc (.cells #[.int .i64 k] 3)).drew.heap.size := HBQ.out.size
        have hltQ : wr.heap.size < (W0.alloc (.cells #[.int .i64 k] 3)).drew.heap.size := Nat.lt_of_lt_of_le hlt0 HQ.out.size
        go_region_held3 (fun w9 => w9.cell? ⟨wr.heap.size, 0, none⟩ = some (.int .i64 k) ∧ w9.cell? ⟨wr.heap.size, 1, none⟩ = some (.slice p pm pd)) (first | exact ⟨cell_stay C0.out (Below.refl _ _).drew, cell_stay C1.out (Below.refl _ _).drew⟩ | exact ⟨cell_stay C0.out HQ.out, cell_stay C1.out HQ.out⟩ | exact HC3.out | exact HC4.out) ((first | (refine step_app_g _ (by rfl) (.tmp 23) (.tmp 26) 24 (by rfl) .i64 3 i0 (.int .i64 0) 8 Try.underlying24 HI.out.1 HI.out.2.1 HI.out.2.2.1 HI.out.2.2.2 rfl (by rfl) HOQ.out (by rfl) HNQ.out (by omega) (by omega) hsQ ?_; intro a3 c3 w3 ho3 hg3 hl3; have HO3 := Lib.hid ho3; have HB3 : Hid (Below w.heap.size w w3) := Lib.hid (grown_to hg3 HBQ.out HOQ.out.span (Nat.le_refl _) hsQ); have HC3 := Lib.hid (And.intro (cell_off (cell_stay C0.out HQ.out) hg3 HOFF.out) (cell_off (cell_stay C1.out HQ.out) hg3 HOFF.out)); have HOFF3 := Lib.hid (off3 (n' := r + 1) (c' := c3) HOFF.out hl3 hltQ); have hs3 : w.heap.size ≤ w3.heap.size := HB3.out.size; clear ho3 hg3 hl3) | (go_at_call 95; refine (writeItems_any w.heap.size a3 (r + 1) c3 _ 0 p pm pd y w3 HO3.out (fun w9 h9 => HV.out w9 (HB3.out.trans h9)) hs3 (by omega) (by omega)).mono ?_; rintro e4 w4 ⟨a4, n4, c4, rfl, ho4, hg4⟩; have HO4 := Lib.hid ho4; have HB4 : Hid (Below w.heap.size w w4) := Lib.hid (grown_to hg4 HB3.out HO3.out.span (Nat.le_refl _) hs3); have HC4 := Lib.hid (And.intro (cell_off HC3.out.1 hg4 HOFF3.out) (cell_off HC3.out.2 hg4 HOFF3.out)); clear ho4 hg4)))
        go_wp2_with fail
        go_roundw
        case rel => exact ⟨j + 1, a4, n4, c4, by omega, by go_num, rfl, by rw [HX.out]; exact HO4.out, HB4.out⟩
        case measure => simp [intOf]; omega
      · obtain rfl : j = n := by omega
        go_wp2_with fail
        go_ret2
        have h1 := HOr.out
        rw [List.take_of_length_le (by rw [hln.out]; omega)] at h1
        refine ⟨_, _, _, rfl, h1.take_len ?_, HBr.out⟩
        unfold encX
        rw [hln.out]
end Go.Proofs.Ytcpnchjgklemgaa
namespace Go.Proofs.Ytcpnchjgklemgaa
open Go.ChangeShapes Go.WideShapes Go.ChangeAt Go.RowKit
set_option linter.unusedVariables false

theorem lt_ofL {α : Type} {l : List α} {j : Nat} {x : α} (h : l[j]? = some x) : j < l.length := by
  rcases Nat.lt_or_ge j l.length with q | q
  · exact q
  · rw [List.getElem?_eq_none q] at h; cases h
/-- From a on lie n lists of integers: the list l. -/
structure Rws (w : World) (a : Option Addr) (n : Nat) (l : List (List Int)) : Prop where
  len : l.length = n
  fits : (n : Int) ≤ 9223372036854775807
  cell : ∀ j x, l[j]? = some x → ∃ ad p m c, a = some ad ∧ w.cell? (ad.add j) = some (.slice p m c) ∧ Nums .i64 w p m x ∧ m ≤ c ∧ (c : Int) ≤ 9223372036854775807
theorem Rws.nothing {w : World} : Rws w none 0 [] := ⟨rfl, by omega, fun j x h => by simp at h⟩
theorem Rws.same {w w' : World} {a : Option Addr} {n : Nat} {l : List (List Int)} (h : Rws w a n l) (hb : Below w.heap.size w w') : Rws w' a n l :=
  ⟨h.len, h.fits, fun j x hj => by
    obtain ⟨ad, p, m, c, e, h0, h1, h2⟩ := h.cell j x hj
    exact ⟨ad, p, m, c, e, cell_stay h0 hb, h1.same hb, h2⟩⟩
theorem Rws.at_ {w : World} {a : Option Addr} {n : Nat} {l : List (List Int)} (h : Rws w a n l) {j : Nat} (hj : j < n) : ∃ ad p m c y, a = some ad ∧ l[j]? = some y ∧ w.cell? (ad.add j) = some (.slice p m c) ∧ Nums .i64 w p m y ∧ m ≤ c ∧ (c : Int) ≤ 9223372036854775807 := by
  have hl : j < l.length := by rw [h.len]; exact hj
  obtain ⟨ad, p, m, c, e, h1⟩ := h.cell j _ (List.getElem?_eq_getElem hl)
  exact ⟨ad, p, m, c, _, e, List.getElem?_eq_getElem hl, h1⟩
/-- How many integers the lists hold. -/
def numsOf (l : List (List Int)) : Nat := (l.map List.length).sum
theorem numsOf_at {l : List (List Int)} {j : Nat} {x : List Int} (h : l[j]? = some x) : numsOf (l.take (j + 1)) = numsOf (l.take j) + x.length := by
  unfold numsOf
  rw [List.take_add_one, h]
  simp
theorem numsOf_le (l : List (List Int)) (j : Nat) : numsOf (l.take j) ≤ numsOf l := by
  conv => rhs; rw [← List.take_append_drop j l]
  unfold numsOf
  rw [List.map_append, List.sum_append]
  omega
theorem numsOf_mem {l : List (List Int)} {x : List Int} (h : x ∈ l) : x.length ≤ numsOf l := by
  obtain ⟨j, hj⟩ := List.mem_iff_getElem?.1 h
  have h1 := numsOf_at hj
  have h2 := numsOf_le l (j + 1)
  omega

/-- A list as it lies in a row: where its integers lie. -/
structure Rh where
  p : Option Addr
  m : Nat
  c : Nat
def Rh.enc (x : Rh) : List Value := [.slice x.p x.m x.c]
theorem Rh.enc_len (x : Rh) : x.enc.length = 1 := rfl
theorem Rh.one (x : Rh) : ∀ u ∈ x.enc, u.oneCell' = true := by
  intro u hu
  simp only [Rh.enc, List.mem_cons, List.not_mem_nil, or_false] at hu
  rcases hu with rfl
  rfl
/-- The integers of each list lie in memory of the call's own, in blocks from B on and below S, apart from the others' and from the row. -/
def RowsL (S : Nat) (w : World) (B : Nat) (a : Option Addr) (hs : List Rh) (l : List (List Int)) : Prop :=
  hs.length = l.length ∧
  (∀ (j : Nat) (h : Rh) (x : List Int), hs[j]? = some h → l[j]? = some x → Own .i64 3 w B h.p h.m h.c x ∧ ∀ ad, h.p = some ad → ad.block < S ∧ ∀ bd, a = some bd → ad.block ≠ bd.block) ∧
  ∀ (i j : Nat) (h k : Rh), i < j → hs[i]? = some h → hs[j]? = some k → ∀ ad bd, h.p = some ad → k.p = some bd → ad.block ≠ bd.block
/-- The list of lists is the call's own, in blocks from B on and below S. -/
def OwnL (S : Nat) (w : World) (B : Nat) (a : Option Addr) (n c : Nat) (l : List (List Int)) : Prop :=
  ∃ hs : List Rh, OwnI Rh.enc 1 24 w B a n c hs ∧ RowsL S w B a hs l ∧ (∀ ad, a = some ad → ad.block < S) ∧ S ≤ w.heap.size
section
variable {w w' : World} {B S n c : Nat} {a : Option Addr} {l : List (List Int)} {hs : List Rh}
theorem Own.farL {k : IntKind} {t : TypeId} {p : Option Addr} {m d : Nat} {y : List Int} {row : Option Nat} (h : Own k t w B p m d y) (hg : w.grownBy w' row) (hr : ∀ ad, p = some ad → row ≠ some ad.block) : Own k t w' B p m d y := by
  cases p with
  | none => exact ⟨h.1, h.2.kept hg (Or.inl rfl)⟩
  | some ad =>
    refine ⟨h.1, h.2.kept hg (Or.inr ?_)⟩
    have h1 := hr ad rfl
    cases row with
    | none => simp [Value.ownBlock]
    | some r =>
      simp only [ne_eq, Option.some.injEq] at h1
      simp only [Value.ownBlock, ne_eq, Option.some.injEq]
      omega
theorem OwnI.farL {α : Type} {enc : α → List Value} {s : Nat} {t : TypeId} {m d : Nat} {p : Option Addr} {y : List α} {row : Option Nat} (h : OwnI enc s t w B p m d y) (hg : w.grownBy w' row) (hr : ∀ ad, p = some ad → row ≠ some ad.block) : OwnI enc s t w' B p m d y := by
  cases p with
  | none => exact ⟨h.1, h.2.kept hg (Or.inl rfl)⟩
  | some ad =>
    refine ⟨h.1, h.2.kept hg (Or.inr ?_)⟩
    have h1 := hr ad rfl
    cases row with
    | none => simp [Value.ownBlock]
    | some r =>
      simp only [ne_eq, Option.some.injEq] at h1
      simp only [Value.ownBlock, ne_eq, Option.some.injEq]
      omega
theorem OwnL.len (h : OwnL S w B a n c l) : l.length = n := by
  obtain ⟨hs, h1, h2, _⟩ := h
  rw [← h2.1, h1.len]
theorem OwnL.room (h : OwnL S w B a n c l) : n ≤ c ∧ (c : Int) ≤ 9223372036854775807 := by
  obtain ⟨hs, h1, _⟩ := h
  exact h1.room
theorem OwnL.top (h : OwnL S w B a n c l) : S ≤ w.heap.size := by
  obtain ⟨hs, _, _, _, h4⟩ := h
  exact h4
theorem OwnL.rws (h : OwnL S w B a n c l) : Rws w a n l := by
  have hl := h.len
  have hr := h.room
  obtain ⟨hs, h1, h2, _⟩ := h
  refine ⟨hl, by omega, fun j x hx => ?_⟩
  have hj : j < hs.length := by rw [h2.1]; exact lt_ofL hx
  obtain ⟨b, o, g, e, hg, hc⟩ := (h1.items Rh.enc_len).at_ (j := j) (by rw [← h1.len]; exact hj)
  obtain ⟨ho, _⟩ := h2.2.1 j g x hg hx
  refine ⟨⟨b, o, none⟩, g.p, g.m, g.c, e, ?_, ho.nums, ho.room⟩
  have h3 := hc 0 _ rfl
  have e2 : (⟨b, o, none⟩ : Addr).add j = ⟨b, o + j * 1 + 0, none⟩ := by
    unfold Addr.add
    by_cases hq : j = 0 <;> simp [hq]
  rw [e2]
  exact h3
theorem OwnL.far {row : Option Nat} (h : OwnL S w B a n c l) (hg : w.grownBy w' row) (hr : ∀ r, row = some r → r < B ∨ S ≤ r) : OwnL S w' B a n c l := by
  obtain ⟨hs, h1, h2, h3, h4⟩ := h
  have hne : ∀ x, B ≤ x → x < S → row ≠ some x := fun x hx hy e => by
    rcases hr x e with q | q <;> omega
  refine ⟨hs, h1.farL hg fun ad e => hne _ (h1.span ad e).1 (h3 ad e), ⟨h2.1, fun j g x hk hx => ?_, h2.2.2⟩, h3, Nat.le_trans h4 hg.size⟩
  obtain ⟨ho, hd⟩ := h2.2.1 j g x hk hx
  exact ⟨ho.farL hg fun ad e => hne _ (ho.span ad e).1 (hd ad e).1, hd⟩
theorem OwnL.same (h : OwnL S w B a n c l) (hb : Below w.heap.size w w') : OwnL S w' B a n c l := h.far (grown_below hb none) fun r e => by cases e
theorem OwnL.lower (h : OwnL S w B a n c l) {B' : Nat} (hB : B' ≤ B) : OwnL S w B' a n c l := by
  obtain ⟨hs, h1, h2, h3⟩ := h
  exact ⟨hs, h1.lower hB, ⟨h2.1, fun j g x q1 q2 => by
    obtain ⟨ho, hd⟩ := h2.2.1 j g x q1 q2
    exact ⟨ho.lower hB, hd⟩, h2.2.2⟩, h3⟩
theorem OwnL.upper {S' : Nat} (h : OwnL S w B a n c l) (h1 : S ≤ S') (h2 : S' ≤ w.heap.size) : OwnL S' w B a n c l := by
  obtain ⟨hs, k1, k2, k3, k4⟩ := h
  exact ⟨hs, k1, ⟨k2.1, fun j g x q1 q2 => by
    obtain ⟨ho, hd⟩ := k2.2.1 j g x q1 q2
    exact ⟨ho, fun ad e => ⟨Nat.lt_of_lt_of_le (hd ad e).1 h1, (hd ad e).2⟩⟩, k2.2.2⟩, fun ad e => Nat.lt_of_lt_of_le (k3 ad e) h1, h2⟩
theorem OwnL.empty (hB : B ≤ w.heap.size) : OwnL (w.heap.size + 1) (w.alloc (.cells #[] 24)) B (some ⟨w.heap.size, 0, none⟩) 0 0 [] :=
  ⟨[], ⟨rfl, World.ownsRow_lit w #[] 0 hB (by unfold maxLen; omega) (by simp)⟩, ⟨rfl, fun j g x h => by simp at h, fun i j h k _ h' => by simp at h'⟩, fun ad e => by cases e; exact Nat.lt_succ_self _, by simp⟩
theorem RowsL.other (h : RowsL S w B a hs l) {i j : Nat} {g k : Rh} (hij : j ≠ i) (hj : hs[j]? = some g) (hi : hs[i]? = some k) : ∀ ad bd, k.p = some ad → g.p = some bd → ad.block ≠ bd.block := fun ad bd ha hb q => by
  rcases Nat.lt_or_ge i j with e | e
  · exact h.2.2 i j k g e hi hj ad bd ha hb q
  · exact h.2.2 j i g k (by omega) hj hi bd ad hb ha q.symm
theorem flatRh_set : ∀ (hs : List Rh) (i : Nat) (g : Rh), i < hs.length → (flatOf Rh.enc hs).set i (.slice g.p g.m g.c) = flatOf Rh.enc (hs.set i g)
  | [], i, g, h => by simp at h
  | y :: t, 0, g, h => by simp [flatOf, Rh.enc]
  | y :: t, i + 1, g, h => by
    have ih := flatRh_set t i g (by simpa using h)
    have e : flatOf Rh.enc (y :: t) = .slice y.p y.m y.c :: flatOf Rh.enc t := by simp [flatOf, Rh.enc]
    rw [e, List.set_cons_succ, ih, List.set_cons_succ]
    simp [flatOf, Rh.enc]
theorem set_grownL (w : World) (b o : Nat) (v : Value) : w.grownBy (w.setCell ⟨b, o, none⟩ v) (some b) :=
  ⟨rfl, rfl, rfl, ((Below.refl 0 w).setCell (Nat.zero_le _) v).size, fun i hi hne => Below.heap_setCell _ _ _ _ (fun e => hne (by rw [e]))⟩
/-- List i is another one, in the same block or in a new one: its header is stored. -/
theorem OwnL.put {u : World} {g : Nat} (hi : OwnI Rh.enc 1 24 u B (some ⟨g, 0, none⟩) n c hs) (hr : RowsL S u B (some ⟨g, 0, none⟩) hs l) (hgS : g < S) (hS : S ≤ u.heap.size) {i : Nat} {x : List Int} {v : Rh} (hx : l[i]? = some x) (hv : hs[i]? = some v)
    {p : Option Addr} {m d : Nat} {y : List Int} (hg : u.grownBy w (Value.ownBlock (.slice v.p v.m v.c))) (ho : Own .i64 3 w B p m d y) (hp : ∀ ad, p = some ad → (∃ bd, v.p = some bd ∧ bd.block = ad.block) ∨ u.heap.size ≤ ad.block) :
    OwnL w.heap.size (w.setCell ⟨g, i, none⟩ (.slice p m d)) B (some ⟨g, 0, none⟩) n c (l.set i y) ∧ w.grownBy (w.setCell ⟨g, i, none⟩ (.slice p m d)) (some g) := by
  have hgs := hi.span _ rfl
  dsimp only at hgs
  have hsz := hg.size
  have hih : i < hs.length := by rw [hr.1]; exact lt_ofL hx
  obtain ⟨hov, hdv⟩ := hr.2.1 i v x hv hx
  have hrow : ∀ ad, Value.ownBlock (.slice v.p v.m v.c) = some ad → ∃ bd, v.p = some bd ∧ bd.block = ad := fun ad e => by
    cases hvp : v.p with
    | none => rw [hvp] at e; simp [Value.ownBlock] at e
    | some bd => rw [hvp] at e; simp only [Value.ownBlock, Option.some.injEq] at e; exact ⟨bd, rfl, e⟩
  have h1 : OwnI Rh.enc 1 24 w B (some ⟨g, 0, none⟩) n c hs := hi.farL hg fun ad e e2 => by
    cases e
    obtain ⟨bd, hb, hbb⟩ := hrow _ e2
    exact (hdv bd hb).2 _ rfl hbb
  have h3 := h1.2.stored i (.slice p m d)
  rw [flatRh_set hs i ⟨p, m, d⟩ hih] at h3
  have hsz3 := h3.2.size
  have hpg : ∀ ad, p = some ad → ad.block ≠ g := fun ad e q => by
    rcases hp ad e with ⟨bd, hb, hbb⟩ | hlt
    · exact (hdv bd hb).2 _ rfl (by rw [hbb]; exact q)
    · omega
  refine ⟨⟨hs.set i ⟨p, m, d⟩, ⟨by rw [List.length_set]; exact h1.len, h3.1⟩, ⟨by rw [List.length_set, List.length_set]; exact hr.1, fun j q z hq hz => ?_, fun j j' q q' hjj hq hq' ad bd ha hb => ?_⟩, fun ad e => by cases e; exact (by omega : g < w.heap.size), hsz3⟩, h3.2⟩
  · by_cases e : j = i
    · subst e
      rw [List.getElem?_set_self hih] at hq
      rw [List.getElem?_set_self (by rw [← hr.1]; exact hih)] at hz
      cases hq
      cases hz
      refine ⟨ho.farL h3.2 fun ad e2 e3 => hpg ad e2 (by simpa using e3.symm), fun ad e2 => ⟨(ho.span ad e2).2, fun bd hb => by cases hb; exact hpg ad e2⟩⟩
    · rw [List.getElem?_set_ne (by omega)] at hq hz
      obtain ⟨ho2, hd2⟩ := hr.2.1 j q z hq hz
      refine ⟨(ho2.farL hg fun ad e2 e3 => ?_).farL h3.2 fun ad e2 e3 => (hd2 ad e2).2 _ rfl (by simpa using e3.symm), fun ad e2 => ⟨by have := (hd2 ad e2).1; omega, (hd2 ad e2).2⟩⟩
      obtain ⟨bd, hb, hbb⟩ := hrow _ e3
      exact hr.other e hq hv bd ad hb e2 hbb
  · have key : ∀ (jj : Nat) (k : Rh) (cd dd : Addr), jj ≠ i → hs[jj]? = some k → k.p = some cd → p = some dd → dd.block ≠ cd.block := fun jj k cd dd hne hk hc hd => by
      have hjl : jj < l.length := by rw [← hr.1]; exact lt_ofL hk
      rcases hp dd hd with ⟨bd2, hb2, hbb⟩ | hlt
      · rw [← hbb]
        exact hr.other hne hk hv bd2 cd hb2 hc
      · have := ((hr.2.1 jj k _ hk (List.getElem?_eq_getElem hjl)).2 cd hc).1
        omega
    by_cases e : j = i
    · subst e
      rw [List.getElem?_set_self hih] at hq
      rw [List.getElem?_set_ne (by omega)] at hq'
      cases hq
      exact key j' q' bd ad (by omega) hq' hb ha
    · rw [List.getElem?_set_ne (by omega)] at hq
      by_cases e' : j' = i
      · subst e'
        rw [List.getElem?_set_self hih] at hq'
        cases hq'
        exact fun q3 => key j q ad bd e hq ha hb q3.symm
      · rw [List.getElem?_set_ne (by omega)] at hq'
        exact hr.2.2 j j' q q' hjj hq hq' ad bd ha hb
end
section
variable {P : Program} (w : World)
/-- A list is appended to a list of lists of the call's own. -/
theorem run_appL (t ty e : TypeId) (he : e = 24) (i : TypeInfo) (z : Value) (bytes : Nat) (ht : P.underlying t = some (.slice e)) (hi : P.info? e = some i) (hz : i.zero = some z) (hsize : i.size = 1) (hby : i.bytes = bytes) (hzs : z.cells.size = 1)
    {S B n c m d b o dd : Nat} {a p : Option Addr} {l : List (List Int)} {y : List Int} (ho : OwnL S w B a n c l) (hn : Items Rh.enc 1 w (some ⟨b, o, none⟩) 1 [⟨p, m, d⟩]) (hv : Own .i64 3 w B p m d y) (hf : ∀ ad, p = some ad → S ≤ ad.block)
    (hbytes : (n + 1) * bytes ≤ 140737488355328) (h63 : n + 1 ≤ maxLen) (hB : B ≤ w.heap.size) :
    ∃ a' c' w', (Builtin.append_ #[t, t] ty #[.slice a n c, .slice (some ⟨b, o, none⟩) 1 dd]).run P w = .ok (.slice a' (n + 1) c') w' ∧ OwnL w'.heap.size w' B a' (n + 1) c' (l ++ [y]) ∧ Below B w w' ∧ w.grownBy w' (Value.ownBlock (.slice a n c)) := by
  subst he
  obtain ⟨hs, h1, h2, h3, h4⟩ := ho
  obtain ⟨v', w', hr, q1, q2, _, q3⟩ := run_append_own_at (P := P) w B t ty 24 i z 1 bytes ht hi hz hsize hby hzs (by omega) (.slice a n c) n (flatOf Rh.enc hs) h1.2 ⟨b, o, none⟩ 1 dd (flatOf Rh.enc [⟨p, m, d⟩]) (by rw [flatOf_len Rh.enc_len]; rfl) (items_flat Rh.enc_len (by omega) hn) (fun u hu => by
      obtain ⟨x, _, hx⟩ := List.mem_flatMap.1 hu
      exact Rh.one x u hx) h63 hbytes hB
  rw [← flatOf_app] at q1
  have hsz := q2.size
  have hl : (hs ++ [(⟨p, m, d⟩ : Rh)]).length = n + 1 := by rw [List.length_append, h1.1]; rfl
  have hbw : Below B w w' := grown_to q2 (Below.refl B w) h1.span (Nat.le_refl _) hB
  rcases q1.2 with ⟨rfl, hn'⟩ | ⟨g, cap, cur, rfl, hrest⟩
  · omega
  · have hgb : (∃ bd, a = some bd ∧ bd.block = g) ∨ g = w.heap.size := by
      rcases q3 with e | e
      · left
        cases ha : a with
        | none => rw [ha] at e; simp [Value.ownBlock] at e
        | some bd => rw [ha] at e; simp only [Value.ownBlock, Option.some.injEq] at e; exact ⟨bd, rfl, e.symm⟩
      · right
        simpa [Value.ownBlock] using e
    have hrow : ∀ ad, Value.ownBlock (.slice a n c) = some ad → ∃ bd, a = some bd ∧ bd.block = ad := fun ad e => by
      cases hvp : a with
      | none => rw [hvp] at e; simp [Value.ownBlock] at e
      | some bd => rw [hvp] at e; simp only [Value.ownBlock, Option.some.injEq] at e; exact ⟨bd, rfl, e⟩
    have hpa : ∀ ad bd, p = some ad → a = some bd → ad.block ≠ bd.block := fun ad bd ha hb => by
      have := hf ad ha
      have := h3 bd hb
      omega
    have hpg : ∀ ad, p = some ad → ad.block ≠ g := fun ad ha => by
      rcases hgb with ⟨bd, hb, e⟩ | e
      · rw [← e]; exact hpa ad bd ha hb
      · have := (hv.span ad ha).2
        omega
    have hgw : g < w'.heap.size := by
      have := q1.lt g rfl
      exact this.2
    refine ⟨_, cap, w', hr, ⟨_, ⟨hl, q1⟩, ⟨by rw [List.length_append, List.length_append, h2.1]; rfl, fun j v x hj hx => ?_, fun j j' v v' hjj hj hj' ad bd ha hb => ?_⟩, fun ad e => by cases e; exact hgw, Nat.le_refl _⟩, hbw, q2⟩
    · rcases Nat.lt_or_ge j hs.length with q | q
      · rw [List.getElem?_append_left q] at hj
        rw [List.getElem?_append_left (by rw [← h2.1]; exact q)] at hx
        obtain ⟨ho1, hd1⟩ := h2.2.1 j v x hj hx
        refine ⟨ho1.farL q2 fun ad e e3 => ?_, fun ad ha => ⟨by have := (hd1 ad ha).1; omega, fun bd hb => ?_⟩⟩
        · obtain ⟨bd, hb, hbb⟩ := hrow _ e3
          exact (hd1 ad e).2 bd hb hbb.symm
        · cases hb
          rcases hgb with ⟨cd, hc, e⟩ | e
          · have := (hd1 ad ha).2 cd hc
            rw [e] at this
            exact this
          · have := (hd1 ad ha).1
            dsimp only
            omega
      · obtain rfl : j = hs.length := by have := lt_ofL hj; rw [List.length_append] at this; simp at this; omega
        rw [List.getElem?_append_right (Nat.le_refl _), Nat.sub_self] at hj
        rw [List.getElem?_append_right (by rw [h2.1]; exact Nat.le_refl _), h2.1, Nat.sub_self] at hx
        cases hj
        cases hx
        refine ⟨hv.farL q2 fun ad e e3 => ?_, fun ad ha => ⟨by have := (hv.span ad ha).2; omega, fun bd hb => by cases hb; exact hpg ad ha⟩⟩
        obtain ⟨bd, hb, hbb⟩ := hrow _ e3
        exact hpa ad bd e hb hbb.symm
    · have hjl : j < hs.length := by have := lt_ofL hj'; rw [List.length_append] at this; simp at this; omega
      rw [List.getElem?_append_left hjl] at hj
      rcases Nat.lt_or_ge j' hs.length with q | q
      · rw [List.getElem?_append_left q] at hj'
        exact h2.2.2 j j' v v' hjj hj hj' ad bd ha hb
      · obtain rfl : j' = hs.length := by have := lt_ofL hj'; rw [List.length_append] at this; simp at this; omega
        rw [List.getElem?_append_right (Nat.le_refl _), Nat.sub_self] at hj'
        cases hj'
        have := ((h2.2.1 j v _ hj (List.getElem?_eq_getElem (by rw [← h2.1]; exact hjl))).2 ad ha).1
        have := hf bd hb
        omega
theorem wpl_appL {ops : Array Oper} {rest : List Oper} {o : Oper} {act : Act} {Q : Exit → Act → World → Prop} (hgd : o.guard = none) (q x : Operand) (t : TypeId)
    (ho : o.op = .call { callee := .builtin .append, args := #[q, x], argTypes := #[t, t] })
    (e : TypeId) (he : e = 24) (i : TypeInfo) (z : Value) (bytes : Nat) (ht : P.underlying t = some (.slice e)) (hi : P.info? e = some i) (hz : i.zero = some z) (hsize : i.size = 1) (hby : i.bytes = bytes) (hzs : z.cells.size = 1)
    {S B n c m d b off dd : Nat} {a p : Option Addr} {l : List (List Int)} {y : List Int} (hq : act.eval q = .slice a n c) (hown : OwnL S w B a n c l) (hx : act.eval x = .slice (some ⟨b, off, none⟩) 1 dd) (hnew : Items Rh.enc 1 w (some ⟨b, off, none⟩) 1 [⟨p, m, d⟩]) (hv : Own .i64 3 w B p m d y) (hf : ∀ ad, p = some ad → S ≤ ad.block)
    (hb1 : 0 < bytes) (hbytes : (n + 1) * bytes ≤ 140737488355328) (hB : B ≤ w.heap.size)
    (h : ∀ a' c' w', OwnL w'.heap.size w' B a' (n + 1) c' (l ++ [y]) → Below B w w' → w.grownBy w' (Value.ownBlock (.slice a n c)) → wpList P ops Q rest (act.put o.dst (.slice a' (n + 1) c')) w') : wpList P ops Q (o :: rest) act w := by
  refine wpList_plain hgd fun K hK => ?_
  have h63 : n + 1 ≤ maxLen := by
    have := Nat.mul_le_mul_left (n + 1) hb1
    unfold maxLen
    omega
  obtain ⟨a', c', w', hr, h2, h3, h4⟩ := run_appL (P := P) (dd := dd) w t o.type e he i z bytes ht hi hz hsize hby hzs hown hnew hv hf hbytes h63 hB
  unfold Oper.wp execOp
  simp only [ho, resolve, invoke, builtin, Sem.run_bind, Sem.run_pure, Result.andThen_ok, List.map_toArray, List.map_cons, List.map_nil, hq, hx, hr]
  exact hK _ _ (h a' c' w' h2 h3 h4)
/-- The same at a step of a region that draws its order. -/
theorem step_appL {ops : Array Oper} {o : Oper} {act : Act} {K : Act → World → Prop} {Q : Exit → Act → World → Prop} {E : Prop} (hgd : o.guard = none) (q x : Operand) (t : TypeId)
    (ho : o.op = .call { callee := .builtin .append, args := #[q, x], argTypes := #[t, t] })
    (e : TypeId) (he : e = 24) (i : TypeInfo) (z : Value) (bytes : Nat) (ht : P.underlying t = some (.slice e)) (hi : P.info? e = some i) (hz : i.zero = some z) (hsize : i.size = 1) (hby : i.bytes = bytes) (hzs : z.cells.size = 1)
    {S B n c m d b off dd : Nat} {a p : Option Addr} {l : List (List Int)} {y : List Int} (hq : act.eval q = .slice a n c) (hown : OwnL S w B a n c l) (hx : act.eval x = .slice (some ⟨b, off, none⟩) 1 dd) (hnew : Items Rh.enc 1 w (some ⟨b, off, none⟩) 1 [⟨p, m, d⟩]) (hv : Own .i64 3 w B p m d y) (hf : ∀ ad, p = some ad → S ≤ ad.block)
    (hb1 : 0 < bytes) (hbytes : (n + 1) * bytes ≤ 140737488355328) (hB : B ≤ w.heap.size)
    (h : ∀ a' c' w', OwnL w'.heap.size w' B a' (n + 1) c' (l ++ [y]) → Below B w w' → w.grownBy w' (Value.ownBlock (.slice a n c)) → K (act.put o.dst (.slice a' (n + 1) c')) w') :
    if Region.wanted o (yielded ops act.tmps) = true then Oper.wp P o act w K Q else E := by
  have hw : Region.wanted o (yielded ops act.tmps) = true := by simp [Region.wanted, hgd]
  rw [if_pos hw]
  have h63 : n + 1 ≤ maxLen := by
    have := Nat.mul_le_mul_left (n + 1) hb1
    unfold maxLen
    omega
  obtain ⟨a', c', w', hr, h2, h3, h4⟩ := run_appL (P := P) (dd := dd) w t o.type e he i z bytes ht hi hz hsize hby hzs hown hnew hv hf hbytes h63 hB
  unfold Oper.wp execOp
  simp only [ho, resolve, invoke, builtin, Sem.run_bind, Sem.run_pure, Result.andThen_ok, List.map_toArray, List.map_cons, List.map_nil, hq, hx, hr]
  exact h a' c' w' h2 h3 h4
end
/-- What a function leaves that makes a list of lists. -/
def MadeL (B : Nat) (l : List (List Int)) (w : World) (e : Ending) (w' : World) : Prop :=
  ∃ a n c, e = .returned (.slice a n c) ∧ OwnL w'.heap.size w' B a n c l ∧ Below B w w'
end Go.Proofs.Ytcpnchjgklemgaa
