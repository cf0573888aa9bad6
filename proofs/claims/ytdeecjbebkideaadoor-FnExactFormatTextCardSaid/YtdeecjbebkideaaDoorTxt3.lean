/- The text of a format, by the model. -/
import Derived.Test.YtdeecjbebkideaaDoorTxt0
import Derived.Test.YtdeecjbebkideaaDoorName
import Derived.Test.YtdeecjbebkideaaDoorIsF3
namespace Go.Proofs.YtdeecjbebkideaaDoor
open Go.ChangeShapes Go.WideShapes Go.ChangeAt Go.RowKit Go.Lib
set_option linter.unusedVariables false
set_option linter.unusedSimpArgs false

theorem specFmt_told (n : Int) (h0 : -9223372036854775808 ≤ n) (h1 : n ≤ 9223372036854775807) (w : World) : Calls Tryd.prog 50 #[.int .i64 n] w (Told (.string ⟨(itoa n).toArray⟩) w) := specFmt_any n h0 h1 w

set_option maxHeartbeats 8000000 in
set_option maxRecDepth 100000 in
theorem specFormatText_yes (a : Option Addr) (n c : Nat) (l : List Fd) (w : World) (h : Fds w a n l) (hf : isFmt l = true) :
    Calls Tryd.prog 23 #[.slice a n c] w (Told (.string ⟨(textTo l).toArray⟩) w) := by
  have H := Lib.hid h
  have hl := Lib.hid h.len
  have hF := isFmt_iff.1 hf
  have hn6 : 1 ≤ n ∧ n ≤ 6 := by have := hF.1; have := h.len; omega
  have HOK := Lib.hid hF.2
  have HIS : Hid (∀ w0, Below w.heap.size w w0 → Calls Tryd.prog 48 #[.slice a n c] w0 (Told (.bool true) w0)) := Lib.hid fun w0 hb0 => by
    have := specIsFormat_any a n c l w0 (h.same hb0) (by omega)
    rw [hf] at this
    exact this
  clear h hf hF
  go_enter Tryd.func23, Tryd.ntmps23
  go_wp2_with fail
  go_loopw [3, 4] (fun s i wr => ∃ j : Nat, j ≤ n ∧ i = .int .i64 j ∧ s = .string ⟨(textTo (l.take j)).toArray⟩ ∧ Below w.heap.size w wr) (fun _ i _ => n - (intOf i).toNat)
  case atStart => exact ⟨0, Nat.zero_le _, rfl, by simp [textTo, Lib.join_nil], Below.refl _ _⟩
  case round =>
    obtain ⟨j, hj, rfl, rfl, hb⟩ := hrel
    have HB := Lib.hid hb
    clear hb
    by_cases hlt : j < n
    · obtain ⟨b, o, ⟨xk, xm, xt, xi⟩, rfl, hx, hc0, hc1, hc2, hc3⟩ := fds_at (H.out.same HB.out) hlt
      have hsm : Small ⟨xk, xm, xt, xi⟩ := small_of (l := l) (j := j) (fun i y hi hy => HOK.out i y (by have := hl.out; omega) hy) (by omega) hx
      have hstep := textTo_step hx
      have htl := textTo_len (l := l) (by have := hl.out; omega) HOK.out j (by have := hl.out; omega)
      dsimp only at hc0 hc1 hc2 hc3
      obtain ⟨⟨h1, h2⟩, h3⟩ := hsm
      dsimp only at h1 h2 h3
      have C0 := Lib.hid hc0
      have C1 := Lib.hid hc1
      have C2 := Lib.hid hc2
      have C3 := Lib.hid hc3
      clear hc0 hc1 hc2 hc3 hx
      have hltI : (j : Int) < (n : Int) := by omega
      have a1 := nameOf_len xk
      have a2 := itoa_len20 (n := xm) (by omega) (by omega)
      obtain ⟨T, eT⟩ : ∃ T, T = textTo (l.take j) := ⟨_, rfl⟩
      rw [← eT] at hstep htl ⊢
      obtain ⟨T1, eT1⟩ : ∃ T1, T1 = (if j = 0 then T else T ++ [32]) := ⟨_, rfl⟩
      rw [← eT1] at hstep
      have ht1 : T1.length ≤ 500 := by
        rw [eT1]
        split
        · omega
        · rw [List.length_append]; simp only [List.length_cons, List.length_nil]; omega
      obtain ⟨s0, e0⟩ : ∃ s : ByteArray, s = ⟨T.toArray⟩ := ⟨_, rfl⟩
      obtain ⟨s1, e1⟩ : ∃ s : ByteArray, s = ⟨T1.toArray⟩ := ⟨_, rfl⟩
      obtain ⟨n1, en1⟩ : ∃ s : ByteArray, s = ⟨(nameOf xk).toArray⟩ := ⟨_, rfl⟩
      obtain ⟨n2, en2⟩ : ∃ s : ByteArray, s = ⟨(itoa xm).toArray⟩ := ⟨_, rfl⟩
      obtain ⟨s2, e2⟩ : ∃ s : ByteArray, s = ⟨(T1 ++ nameOf xk).toArray⟩ := ⟨_, rfl⟩
      obtain ⟨s3, e3⟩ : ∃ s : ByteArray, s = ⟨((T1 ++ nameOf xk) ++ itoa xm).toArray⟩ := ⟨_, rfl⟩
      have K1 : Hid (∀ w, Calls Tryd.prog 49 #[.int .i64 xk] w (Told (.string n1) w)) := Lib.hid (by rw [en1]; exact fun w => specFieldName_any xk w)
      have K2 : Hid (∀ w, Calls Tryd.prog 50 #[.int .i64 xm] w (Told (.string n2) w)) := Lib.hid (by rw [en2]; exact fun w => specFmt_told xm (by omega) (by omega) w)
      have j0 : ∀ w, (Op.stringOp .add s0 ⟨#[32]⟩).run Tryd.prog w = .ok (.string ⟨(T ++ [32]).toArray⟩) w := by rw [e0]; exact fun w => str_add _ [32] (by simp only [List.length_cons, List.length_nil]; omega) w
      have j1 : ∀ w, (Op.stringOp .add s1 n1).run Tryd.prog w = .ok (.string s2) w := by rw [e1, en1, e2]; exact fun w => str_add _ _ (by omega) w
      have j2 : ∀ w, (Op.stringOp .add s2 n2).run Tryd.prog w = .ok (.string s3) w := by rw [e2, en2, e3]; exact fun w => str_add _ _ (by simp only [List.length_append]; omega) w
      rw [← e0]
      by_cases hz : j = 0
      · have e10 : s1 = s0 := by rw [e1, e0, eT1, if_pos hz]
        have hz2 : ¬ 0 < j := by omega
        have hz3 : decide ((0 : Int) < (j : Int)) = false := decide_eq_false (by omega)
        rw [e10] at j1
        clear e10 e1 eT1 hz j0
        by_cases hc : xt = -1
        · have b1 : (xt != -1) = false := by simpa using hc
          have hr : (⟨s3.data⟩ : ByteArray) = ⟨(textTo (l.take (j + 1))).toArray⟩ := by rw [hstep, e3]; unfold fdText; dsimp only; rw [if_pos hc, List.append_assoc]
          have HR : Hid ((⟨(textTo (l.take (j + 1))).toArray⟩ : ByteArray) = s3) := Lib.hid hr.symm
          clear e0 e2 e3 en1 en2 hr hstep h3 a1 a2 ht1 htl hc eT
          go_wp2_with fail
          refine (HIS.out _ HB.out).mono ?_
          rintro e w1 ⟨rfl, hb1⟩
          have HB1 : Hid (Below w.heap.size w w1) := Lib.hid (HB.out.trans (hb1.mono HB.out.size))
          have D0 := Lib.hid (cell_kept C0.out hb1)
          have D1 := Lib.hid (cell_kept C1.out hb1)
          have D2 := Lib.hid (cell_kept C2.out hb1)
          have D3 := Lib.hid (cell_kept C3.out hb1)
          clear hb1 C0 C1 C2 C3
          go_wp2_with fail
          have HBd : Hid (Below w1.heap.size w1 w1.drew) := Lib.hid (Below.refl _ _).drew
          refine wp_region_held_drew (S := (fun w' => w'.cell? ⟨b, o + j * 4, none⟩ = some (.int .i64 xk) ∧ w'.cell? ⟨b, o + j * 4 + 1, none⟩ = some (.int .i64 xm))) (by kernel_rfl) ⟨cell_kept D0.out HBd.out, cell_kept D1.out HBd.out⟩ (fun hHeld => ?_)
          refine wpAnyH_take (i := 0) (v := ?v1) (by simp only [List.getElem?_toArray, List.getElem?_cons_succ, List.getElem?_cons_zero]; rfl) (by kernel_rfl) (by kernel_rfl) (by kernel_rfl) (by exact fun _ _ _ h => h) (Or.inl ⟨by rfl, fun w9 hS9 => ?hy1⟩) hHeld ?rest1
          case hy1 =>
            dsimp only at hS9
            obtain ⟨hs0, hs1⟩ := hS9
            go_simp
            try with_reducible rfl
          try simp only [Act.put, List.setIfInBounds_toArray, List.set_cons_zero, List.set_cons_succ]
          refine wpAnyH_take (i := 1) (v := ?v2) (by simp only [List.getElem?_toArray, List.getElem?_cons_succ, List.getElem?_cons_zero]; rfl) (by kernel_rfl) (by kernel_rfl) (by kernel_rfl) (by exact fun _ _ _ h => h) (Or.inl ⟨by rfl, fun w9 hS9 => ?hy2⟩) hHeld ?rest2
          case hy2 =>
            dsimp only at hS9
            obtain ⟨hs0, hs1⟩ := hS9
            go_simp
            try with_reducible rfl
          try simp only [Act.put, List.setIfInBounds_toArray, List.set_cons_zero, List.set_cons_succ]
          refine wpAnyH_take (i := 2) (v := ?v3) (by simp only [List.getElem?_toArray, List.getElem?_cons_succ, List.getElem?_cons_zero]; rfl) (by kernel_rfl) (by kernel_rfl) (by kernel_rfl) (by exact fun _ _ _ h => h) (Or.inl ⟨by rfl, fun w9 hS9 => ?hy3⟩) hHeld ?rest3
          case hy3 =>
            dsimp only at hS9
            obtain ⟨hs0, hs1⟩ := hS9
            go_simp
            try with_reducible rfl
          try simp only [Act.put, List.setIfInBounds_toArray, List.set_cons_zero, List.set_cons_succ]
          refine wpAnyH_take (i := 3) (v := ?v4) (by simp only [List.getElem?_toArray, List.getElem?_cons_succ, List.getElem?_cons_zero]; rfl) (by kernel_rfl) (by kernel_rfl) (by kernel_rfl) (by exact fun _ _ _ h => h) (Or.inl ⟨by rfl, fun w9 hS9 => ?hy4⟩) hHeld ?rest4
          case hy4 =>
            dsimp only at hS9
            obtain ⟨hs0, hs1⟩ := hS9
            go_simp
            try with_reducible rfl
          try simp only [Act.put, List.setIfInBounds_toArray, List.set_cons_zero, List.set_cons_succ]
          refine wpAnyH_take (i := 4) (v := ?v5) (by simp only [List.getElem?_toArray, List.getElem?_cons_succ, List.getElem?_cons_zero]; rfl) (by kernel_rfl) (by kernel_rfl) (by kernel_rfl) (by exact fun _ _ _ h => h) (Or.inl ⟨by rfl, fun w9 hS9 => ?hy5⟩) hHeld ?rest5
          case hy5 =>
            dsimp only at hS9
            obtain ⟨hs0, hs1⟩ := hS9
            go_simp
            try with_reducible rfl
          try simp only [Act.put, List.setIfInBounds_toArray, List.set_cons_zero, List.set_cons_succ]
          refine wpAnyH_take (i := 5) (v := ?v6) (by simp only [List.getElem?_toArray, List.getElem?_cons_succ, List.getElem?_cons_zero]; rfl) (by kernel_rfl) (by kernel_rfl) (by kernel_rfl) (by exact fun _ _ _ h => h) (Or.inl ⟨by rfl, fun w9 hS9 => ?hy6⟩) hHeld ?rest6
          case hy6 =>
            dsimp only at hS9
            obtain ⟨hs0, hs1⟩ := hS9
            go_simp
            try with_reducible rfl
          try simp only [Act.put, List.setIfInBounds_toArray, List.set_cons_zero, List.set_cons_succ]
          refine wpAnyH_take (i := 8) (v := ?v7) (by simp only [List.getElem?_toArray, List.getElem?_cons_succ, List.getElem?_cons_zero]; rfl) (by kernel_rfl) (by kernel_rfl) (by kernel_rfl) (by exact fun _ _ _ h => h) (Or.inl ⟨by rfl, fun w9 hS9 => ?hy7⟩) hHeld ?rest7
          case hy7 =>
            dsimp only at hS9
            obtain ⟨hs0, hs1⟩ := hS9
            go_simp
            try with_reducible rfl
          try simp only [Act.put, List.setIfInBounds_toArray, List.set_cons_zero, List.set_cons_succ]
          refine wpAnyH_take (i := 9) (v := ?v8) (by simp only [List.getElem?_toArray, List.getElem?_cons_succ, List.getElem?_cons_zero]; rfl) (by kernel_rfl) (by kernel_rfl) (by kernel_rfl) (by exact fun _ _ _ h => h) (Or.inl ⟨by rfl, fun w9 hS9 => ?hy8⟩) hHeld ?rest8
          case hy8 =>
            dsimp only at hS9
            obtain ⟨hs0, hs1⟩ := hS9
            go_simp
            try with_reducible rfl
          try simp only [Act.put, List.setIfInBounds_toArray, List.set_cons_zero, List.set_cons_succ]
          refine wpAnyH_take (i := 10) (v := ?v9) (by simp only [List.getElem?_toArray, List.getElem?_cons_succ, List.getElem?_cons_zero]; rfl) (by kernel_rfl) (by kernel_rfl) (by kernel_rfl) (by exact fun _ _ _ h => h) (Or.inl ⟨by rfl, fun w9 hS9 => ?hy9⟩) hHeld ?rest9
          case hy9 =>
            dsimp only at hS9
            obtain ⟨hs0, hs1⟩ := hS9
            go_simp
            try with_reducible rfl
          try simp only [Act.put, List.setIfInBounds_toArray, List.set_cons_zero, List.set_cons_succ]
          refine wpAnyH_take (i := 11) (v := ?v10) (by simp only [List.getElem?_toArray, List.getElem?_cons_succ, List.getElem?_cons_zero]; rfl) (by kernel_rfl) (by kernel_rfl) (by kernel_rfl) (by exact fun _ _ _ h => h) (Or.inl ⟨by rfl, fun w9 hS9 => ?hy10⟩) hHeld ?rest10
          case hy10 =>
            dsimp only at hS9
            obtain ⟨hs0, hs1⟩ := hS9
            go_simp
            try with_reducible rfl
          try simp only [Act.put, List.setIfInBounds_toArray, List.set_cons_zero, List.set_cons_succ]
          refine wpAnyH_take (i := 12) (v := ?v11) (by simp only [List.getElem?_toArray, List.getElem?_cons_succ, List.getElem?_cons_zero]; rfl) (by kernel_rfl) (by kernel_rfl) (by kernel_rfl) (by exact fun _ _ _ h => h) (Or.inl ⟨by rfl, fun w9 hS9 => ?hy11⟩) hHeld ?rest11
          case hy11 =>
            dsimp only at hS9
            obtain ⟨hs0, hs1⟩ := hS9
            go_simp
            try with_reducible rfl
          try simp only [Act.put, List.setIfInBounds_toArray, List.set_cons_zero, List.set_cons_succ]
          refine wpAnyH_ready (rs := [6]) (by kernel_rfl) (by simp) (AllReadyH.cons (by simp only [List.getElem?_toArray, List.getElem?_cons_succ, List.getElem?_cons_zero]; rfl) (fun K hK => ?_) AllReadyH.nil)
          go_simp
          refine (K1.out _).mono ?_
          rintro e w2 ⟨rfl, hb2⟩
          have HB2 : Hid (Below w1.heap.size w1 w2) := Lib.hid (HBd.out.trans (hb2.mono HBd.out.size))
          clear hb2
          go_wp2_with fail
          refine hK.out _ _ ⟨cell_kept D0.out HB2.out, cell_kept D1.out HB2.out⟩ (fun hHeld => ?_)
          clear hK K
          try simp only [Act.put, List.setIfInBounds_toArray, List.set_cons_zero, List.set_cons_succ]
          refine wpAnyH_take (i := 7) (v := ?v12) (by simp only [List.getElem?_toArray, List.getElem?_cons_succ, List.getElem?_cons_zero]; rfl) (by kernel_rfl) (by kernel_rfl) (by kernel_rfl) (by exact fun _ _ _ h => h) (Or.inl ⟨by rfl, fun w9 hS9 => ?hy12⟩) hHeld ?rest12
          case hy12 =>
            dsimp only at hS9
            obtain ⟨hs0, hs1⟩ := hS9
            go_simp
            try with_reducible rfl
          try simp only [Act.put, List.setIfInBounds_toArray, List.set_cons_zero, List.set_cons_succ]
          refine wpAnyH_ready (rs := [13]) (by kernel_rfl) (by simp) (AllReadyH.cons (by simp only [List.getElem?_toArray, List.getElem?_cons_succ, List.getElem?_cons_zero]; rfl) (fun K hK => ?_) AllReadyH.nil)
          go_simp
          refine (K2.out _).mono ?_
          rintro e w3 ⟨rfl, hb3⟩
          have HB3 : Hid (Below w1.heap.size w1 w3) := Lib.hid (HB2.out.trans (hb3.mono HB2.out.size))
          clear hb3
          go_wp2_with fail
          refine hK.out _ _ ⟨cell_kept D0.out HB3.out, cell_kept D1.out HB3.out⟩ (fun hHeld => ?_)
          clear hK K
          try simp only [Act.put, List.setIfInBounds_toArray, List.set_cons_zero, List.set_cons_succ]
          refine wpAnyH_take (i := 14) (v := ?v13) (by simp only [List.getElem?_toArray, List.getElem?_cons_succ, List.getElem?_cons_zero]; rfl) (by kernel_rfl) (by kernel_rfl) (by kernel_rfl) (by exact fun _ _ _ h => h) (Or.inl ⟨by rfl, fun w9 hS9 => ?hy13⟩) hHeld ?rest13
          case hy13 =>
            dsimp only at hS9
            obtain ⟨hs0, hs1⟩ := hS9
            go_simp
            try with_reducible rfl
          try simp only [Act.put, List.setIfInBounds_toArray, List.set_cons_zero, List.set_cons_succ]
          refine wpAnyH_take (i := 15) (v := ?v14) (by simp only [List.getElem?_toArray, List.getElem?_cons_succ, List.getElem?_cons_zero]; rfl) (by kernel_rfl) (by kernel_rfl) (by kernel_rfl) (by exact fun _ _ _ h => h) (Or.inl ⟨by rfl, fun w9 hS9 => ?hy14⟩) hHeld ?rest14
          case hy14 =>
            dsimp only at hS9
            obtain ⟨hs0, hs1⟩ := hS9
            go_simp
            try with_reducible rfl
          try simp only [Act.put, List.setIfInBounds_toArray, List.set_cons_zero, List.set_cons_succ]
          refine wpAnyH_done (by kernel_rfl) ?_ _
          have f2 := cell_kept D2.out HB3.out
          have HBX : Hid (Below w.heap.size w w3) := Lib.hid (HB1.out.trans (HB3.out.mono HB1.out.size))
          go_wp2_with fail
          go_roundw
          case rel => exact ⟨j + 1, by omega, by go_num, by rw [HR.out], HBX.out⟩
          case measure => simp [intOf]; omega
        · have b1 : (xt != -1) = true := by simpa using hc
          have a3 := itoa_len20 (n := xt) (by omega) (by omega)
          have a4 := itoa_len20 (n := xi) (by omega) (by omega)
          obtain ⟨s4, e4⟩ : ∃ s : ByteArray, s = ⟨(((T1 ++ nameOf xk) ++ itoa xm) ++ [63]).toArray⟩ := ⟨_, rfl⟩
          obtain ⟨s5, e5⟩ : ∃ s : ByteArray, s = ⟨(itoa xt).toArray⟩ := ⟨_, rfl⟩
          obtain ⟨s6, e6⟩ : ∃ s : ByteArray, s = ⟨((((T1 ++ nameOf xk) ++ itoa xm) ++ [63]) ++ itoa xt).toArray⟩ := ⟨_, rfl⟩
          obtain ⟨s7, e7⟩ : ∃ s : ByteArray, s = ⟨(((((T1 ++ nameOf xk) ++ itoa xm) ++ [63]) ++ itoa xt) ++ [61]).toArray⟩ := ⟨_, rfl⟩
          obtain ⟨s8, e8⟩ : ∃ s : ByteArray, s = ⟨(itoa xi).toArray⟩ := ⟨_, rfl⟩
          obtain ⟨s9, e9⟩ : ∃ s : ByteArray, s = ⟨((((((T1 ++ nameOf xk) ++ itoa xm) ++ [63]) ++ itoa xt) ++ [61]) ++ itoa xi).toArray⟩ := ⟨_, rfl⟩
          have K3 : Hid (∀ w, Calls Tryd.prog 50 #[.int .i64 xt] w (Told (.string s5) w)) := Lib.hid (by rw [e5]; exact fun w => specFmt_told xt (by omega) (by omega) w)
          have K4 : Hid (∀ w, Calls Tryd.prog 50 #[.int .i64 xi] w (Told (.string s8) w)) := Lib.hid (by rw [e8]; exact fun w => specFmt_told xi (by omega) (by omega) w)
          have j3 : ∀ w, (Op.stringOp .add s3 ⟨#[63]⟩).run Tryd.prog w = .ok (.string s4) w := by rw [e3, e4]; exact fun w => str_add _ [63] (by simp only [List.length_append, List.length_cons, List.length_nil]; omega) w
          have j4 : ∀ w, (Op.stringOp .add s4 s5).run Tryd.prog w = .ok (.string s6) w := by rw [e4, e5, e6]; exact fun w => str_add _ _ (by simp only [List.length_append, List.length_cons, List.length_nil]; omega) w
          have j5 : ∀ w, (Op.stringOp .add s6 ⟨#[61]⟩).run Tryd.prog w = .ok (.string s7) w := by rw [e6, e7]; exact fun w => str_add _ [61] (by simp only [List.length_append, List.length_cons, List.length_nil]; omega) w
          have j6 : ∀ w, (Op.stringOp .add s7 s8).run Tryd.prog w = .ok (.string s9) w := by rw [e7, e8, e9]; exact fun w => str_add _ _ (by simp only [List.length_append, List.length_cons, List.length_nil]; omega) w
          have HR : Hid ((⟨(textTo (l.take (j + 1))).toArray⟩ : ByteArray) = s9) := Lib.hid (by rw [hstep, e9]; unfold fdText; dsimp only; rw [if_neg hc]; simp only [List.append_assoc])
          clear e0 e2 e3 e4 e5 e6 e7 e8 e9 en1 en2 hstep h3 a1 a2 a3 a4 ht1 htl hc eT
          go_wp2_with fail
          refine (HIS.out _ HB.out).mono ?_
          rintro e w1 ⟨rfl, hb1⟩
          have HB1 : Hid (Below w.heap.size w w1) := Lib.hid (HB.out.trans (hb1.mono HB.out.size))
          have D0 := Lib.hid (cell_kept C0.out hb1)
          have D1 := Lib.hid (cell_kept C1.out hb1)
          have D2 := Lib.hid (cell_kept C2.out hb1)
          have D3 := Lib.hid (cell_kept C3.out hb1)
          clear hb1 C0 C1 C2 C3
          go_wp2_with fail
          have HBd : Hid (Below w1.heap.size w1 w1.drew) := Lib.hid (Below.refl _ _).drew
          refine wp_region_held_drew (S := (fun w' => w'.cell? ⟨b, o + j * 4, none⟩ = some (.int .i64 xk) ∧ w'.cell? ⟨b, o + j * 4 + 1, none⟩ = some (.int .i64 xm))) (by kernel_rfl) ⟨cell_kept D0.out HBd.out, cell_kept D1.out HBd.out⟩ (fun hHeld => ?_)
          refine wpAnyH_take (i := 0) (v := ?v15) (by simp only [List.getElem?_toArray, List.getElem?_cons_succ, List.getElem?_cons_zero]; rfl) (by kernel_rfl) (by kernel_rfl) (by kernel_rfl) (by exact fun _ _ _ h => h) (Or.inl ⟨by rfl, fun w9 hS9 => ?hy15⟩) hHeld ?rest15
          case hy15 =>
            dsimp only at hS9
            obtain ⟨hs0, hs1⟩ := hS9
            go_simp
            try with_reducible rfl
          try simp only [Act.put, List.setIfInBounds_toArray, List.set_cons_zero, List.set_cons_succ]
          refine wpAnyH_take (i := 1) (v := ?v16) (by simp only [List.getElem?_toArray, List.getElem?_cons_succ, List.getElem?_cons_zero]; rfl) (by kernel_rfl) (by kernel_rfl) (by kernel_rfl) (by exact fun _ _ _ h => h) (Or.inl ⟨by rfl, fun w9 hS9 => ?hy16⟩) hHeld ?rest16
          case hy16 =>
            dsimp only at hS9
            obtain ⟨hs0, hs1⟩ := hS9
            go_simp
            try with_reducible rfl
          try simp only [Act.put, List.setIfInBounds_toArray, List.set_cons_zero, List.set_cons_succ]
          refine wpAnyH_take (i := 2) (v := ?v17) (by simp only [List.getElem?_toArray, List.getElem?_cons_succ, List.getElem?_cons_zero]; rfl) (by kernel_rfl) (by kernel_rfl) (by kernel_rfl) (by exact fun _ _ _ h => h) (Or.inl ⟨by rfl, fun w9 hS9 => ?hy17⟩) hHeld ?rest17
          case hy17 =>
            dsimp only at hS9
            obtain ⟨hs0, hs1⟩ := hS9
            go_simp
            try with_reducible rfl
          try simp only [Act.put, List.setIfInBounds_toArray, List.set_cons_zero, List.set_cons_succ]
          refine wpAnyH_take (i := 3) (v := ?v18) (by simp only [List.getElem?_toArray, List.getElem?_cons_succ, List.getElem?_cons_zero]; rfl) (by kernel_rfl) (by kernel_rfl) (by kernel_rfl) (by exact fun _ _ _ h => h) (Or.inl ⟨by rfl, fun w9 hS9 => ?hy18⟩) hHeld ?rest18
          case hy18 =>
            dsimp only at hS9
            obtain ⟨hs0, hs1⟩ := hS9
            go_simp
            try with_reducible rfl
          try simp only [Act.put, List.setIfInBounds_toArray, List.set_cons_zero, List.set_cons_succ]
          refine wpAnyH_take (i := 4) (v := ?v19) (by simp only [List.getElem?_toArray, List.getElem?_cons_succ, List.getElem?_cons_zero]; rfl) (by kernel_rfl) (by kernel_rfl) (by kernel_rfl) (by exact fun _ _ _ h => h) (Or.inl ⟨by rfl, fun w9 hS9 => ?hy19⟩) hHeld ?rest19
          case hy19 =>
            dsimp only at hS9
            obtain ⟨hs0, hs1⟩ := hS9
            go_simp
            try with_reducible rfl
          try simp only [Act.put, List.setIfInBounds_toArray, List.set_cons_zero, List.set_cons_succ]
          refine wpAnyH_take (i := 5) (v := ?v20) (by simp only [List.getElem?_toArray, List.getElem?_cons_succ, List.getElem?_cons_zero]; rfl) (by kernel_rfl) (by kernel_rfl) (by kernel_rfl) (by exact fun _ _ _ h => h) (Or.inl ⟨by rfl, fun w9 hS9 => ?hy20⟩) hHeld ?rest20
          case hy20 =>
            dsimp only at hS9
            obtain ⟨hs0, hs1⟩ := hS9
            go_simp
            try with_reducible rfl
          try simp only [Act.put, List.setIfInBounds_toArray, List.set_cons_zero, List.set_cons_succ]
          refine wpAnyH_take (i := 8) (v := ?v21) (by simp only [List.getElem?_toArray, List.getElem?_cons_succ, List.getElem?_cons_zero]; rfl) (by kernel_rfl) (by kernel_rfl) (by kernel_rfl) (by exact fun _ _ _ h => h) (Or.inl ⟨by rfl, fun w9 hS9 => ?hy21⟩) hHeld ?rest21
          case hy21 =>
            dsimp only at hS9
            obtain ⟨hs0, hs1⟩ := hS9
            go_simp
            try with_reducible rfl
          try simp only [Act.put, List.setIfInBounds_toArray, List.set_cons_zero, List.set_cons_succ]
          refine wpAnyH_take (i := 9) (v := ?v22) (by simp only [List.getElem?_toArray, List.getElem?_cons_succ, List.getElem?_cons_zero]; rfl) (by kernel_rfl) (by kernel_rfl) (by kernel_rfl) (by exact fun _ _ _ h => h) (Or.inl ⟨by rfl, fun w9 hS9 => ?hy22⟩) hHeld ?rest22
          case hy22 =>
            dsimp only at hS9
            obtain ⟨hs0, hs1⟩ := hS9
            go_simp
            try with_reducible rfl
          try simp only [Act.put, List.setIfInBounds_toArray, List.set_cons_zero, List.set_cons_succ]
          refine wpAnyH_take (i := 10) (v := ?v23) (by simp only [List.getElem?_toArray, List.getElem?_cons_succ, List.getElem?_cons_zero]; rfl) (by kernel_rfl) (by kernel_rfl) (by kernel_rfl) (by exact fun _ _ _ h => h) (Or.inl ⟨by rfl, fun w9 hS9 => ?hy23⟩) hHeld ?rest23
          case hy23 =>
            dsimp only at hS9
            obtain ⟨hs0, hs1⟩ := hS9
            go_simp
            try with_reducible rfl
          try simp only [Act.put, List.setIfInBounds_toArray, List.set_cons_zero, List.set_cons_succ]
          refine wpAnyH_take (i := 11) (v := ?v24) (by simp only [List.getElem?_toArray, List.getElem?_cons_succ, List.getElem?_cons_zero]; rfl) (by kernel_rfl) (by kernel_rfl) (by kernel_rfl) (by exact fun _ _ _ h => h) (Or.inl ⟨by rfl, fun w9 hS9 => ?hy24⟩) hHeld ?rest24
          case hy24 =>
            dsimp only at hS9
            obtain ⟨hs0, hs1⟩ := hS9
            go_simp
            try with_reducible rfl
          try simp only [Act.put, List.setIfInBounds_toArray, List.set_cons_zero, List.set_cons_succ]
          refine wpAnyH_take (i := 12) (v := ?v25) (by simp only [List.getElem?_toArray, List.getElem?_cons_succ, List.getElem?_cons_zero]; rfl) (by kernel_rfl) (by kernel_rfl) (by kernel_rfl) (by exact fun _ _ _ h => h) (Or.inl ⟨by rfl, fun w9 hS9 => ?hy25⟩) hHeld ?rest25
          case hy25 =>
            dsimp only at hS9
            obtain ⟨hs0, hs1⟩ := hS9
            go_simp
            try with_reducible rfl
          try simp only [Act.put, List.setIfInBounds_toArray, List.set_cons_zero, List.set_cons_succ]
          refine wpAnyH_ready (rs := [6]) (by kernel_rfl) (by simp) (AllReadyH.cons (by simp only [List.getElem?_toArray, List.getElem?_cons_succ, List.getElem?_cons_zero]; rfl) (fun K hK => ?_) AllReadyH.nil)
          go_simp
          refine (K1.out _).mono ?_
          rintro e w2 ⟨rfl, hb2⟩
          have HB2 : Hid (Below w1.heap.size w1 w2) := Lib.hid (HBd.out.trans (hb2.mono HBd.out.size))
          clear hb2
          go_wp2_with fail
          refine hK.out _ _ ⟨cell_kept D0.out HB2.out, cell_kept D1.out HB2.out⟩ (fun hHeld => ?_)
          clear hK K
          try simp only [Act.put, List.setIfInBounds_toArray, List.set_cons_zero, List.set_cons_succ]
          refine wpAnyH_take (i := 7) (v := ?v26) (by simp only [List.getElem?_toArray, List.getElem?_cons_succ, List.getElem?_cons_zero]; rfl) (by kernel_rfl) (by kernel_rfl) (by kernel_rfl) (by exact fun _ _ _ h => h) (Or.inl ⟨by rfl, fun w9 hS9 => ?hy26⟩) hHeld ?rest26
          case hy26 =>
            dsimp only at hS9
            obtain ⟨hs0, hs1⟩ := hS9
            go_simp
            try with_reducible rfl
          try simp only [Act.put, List.setIfInBounds_toArray, List.set_cons_zero, List.set_cons_succ]
          refine wpAnyH_ready (rs := [13]) (by kernel_rfl) (by simp) (AllReadyH.cons (by simp only [List.getElem?_toArray, List.getElem?_cons_succ, List.getElem?_cons_zero]; rfl) (fun K hK => ?_) AllReadyH.nil)
          go_simp
          refine (K2.out _).mono ?_
          rintro e w3 ⟨rfl, hb3⟩
          have HB3 : Hid (Below w1.heap.size w1 w3) := Lib.hid (HB2.out.trans (hb3.mono HB2.out.size))
          clear hb3
          go_wp2_with fail
          refine hK.out _ _ ⟨cell_kept D0.out HB3.out, cell_kept D1.out HB3.out⟩ (fun hHeld => ?_)
          clear hK K
          try simp only [Act.put, List.setIfInBounds_toArray, List.set_cons_zero, List.set_cons_succ]
          refine wpAnyH_take (i := 14) (v := ?v27) (by simp only [List.getElem?_toArray, List.getElem?_cons_succ, List.getElem?_cons_zero]; rfl) (by kernel_rfl) (by kernel_rfl) (by kernel_rfl) (by exact fun _ _ _ h => h) (Or.inl ⟨by rfl, fun w9 hS9 => ?hy27⟩) hHeld ?rest27
          case hy27 =>
            dsimp only at hS9
            obtain ⟨hs0, hs1⟩ := hS9
            go_simp
            try with_reducible rfl
          try simp only [Act.put, List.setIfInBounds_toArray, List.set_cons_zero, List.set_cons_succ]
          refine wpAnyH_take (i := 15) (v := ?v28) (by simp only [List.getElem?_toArray, List.getElem?_cons_succ, List.getElem?_cons_zero]; rfl) (by kernel_rfl) (by kernel_rfl) (by kernel_rfl) (by exact fun _ _ _ h => h) (Or.inl ⟨by rfl, fun w9 hS9 => ?hy28⟩) hHeld ?rest28
          case hy28 =>
            dsimp only at hS9
            obtain ⟨hs0, hs1⟩ := hS9
            go_simp
            try with_reducible rfl
          try simp only [Act.put, List.setIfInBounds_toArray, List.set_cons_zero, List.set_cons_succ]
          refine wpAnyH_done (by kernel_rfl) ?_ _
          have f2 := cell_kept D2.out HB3.out
          have HBX : Hid (Below w.heap.size w w3) := Lib.hid (HB1.out.trans (HB3.out.mono HB1.out.size))
          have E2 := Lib.hid f2
          have E3 := Lib.hid (cell_kept D3.out HB3.out)
          go_wp2_with fail
          clear f2
          have HBe : Hid (Below w3.heap.size w3 w3.drew) := Lib.hid (Below.refl _ _).drew
          refine wp_region_held_drew (S := (fun w' => w'.cell? ⟨b, o + j * 4 + 2, none⟩ = some (.int .i64 xt) ∧ w'.cell? ⟨b, o + j * 4 + 3, none⟩ = some (.int .i64 xi))) (by kernel_rfl) ⟨cell_kept E2.out HBe.out, cell_kept E3.out HBe.out⟩ (fun hHeld => ?_)
          refine wpAnyH_take (i := 0) (v := ?v29) (by simp only [List.getElem?_toArray, List.getElem?_cons_succ, List.getElem?_cons_zero]; rfl) (by kernel_rfl) (by kernel_rfl) (by kernel_rfl) (by exact fun _ _ _ h => h) (Or.inl ⟨by rfl, fun w9 hS9 => ?hy29⟩) hHeld ?rest29
          case hy29 =>
            dsimp only at hS9
            obtain ⟨hs0, hs1⟩ := hS9
            go_simp
            try with_reducible rfl
          try simp only [Act.put, List.setIfInBounds_toArray, List.set_cons_zero, List.set_cons_succ]
          refine wpAnyH_take (i := 1) (v := ?v30) (by simp only [List.getElem?_toArray, List.getElem?_cons_succ, List.getElem?_cons_zero]; rfl) (by kernel_rfl) (by kernel_rfl) (by kernel_rfl) (by exact fun _ _ _ h => h) (Or.inl ⟨by rfl, fun w9 hS9 => ?hy30⟩) hHeld ?rest30
          case hy30 =>
            dsimp only at hS9
            obtain ⟨hs0, hs1⟩ := hS9
            go_simp
            try with_reducible rfl
          try simp only [Act.put, List.setIfInBounds_toArray, List.set_cons_zero, List.set_cons_succ]
          refine wpAnyH_take (i := 2) (v := ?v31) (by simp only [List.getElem?_toArray, List.getElem?_cons_succ, List.getElem?_cons_zero]; rfl) (by kernel_rfl) (by kernel_rfl) (by kernel_rfl) (by exact fun _ _ _ h => h) (Or.inl ⟨by rfl, fun w9 hS9 => ?hy31⟩) hHeld ?rest31
          case hy31 =>
            dsimp only at hS9
            obtain ⟨hs0, hs1⟩ := hS9
            go_simp
            try with_reducible rfl
          try simp only [Act.put, List.setIfInBounds_toArray, List.set_cons_zero, List.set_cons_succ]
          refine wpAnyH_take (i := 3) (v := ?v32) (by simp only [List.getElem?_toArray, List.getElem?_cons_succ, List.getElem?_cons_zero]; rfl) (by kernel_rfl) (by kernel_rfl) (by kernel_rfl) (by exact fun _ _ _ h => h) (Or.inl ⟨by rfl, fun w9 hS9 => ?hy32⟩) hHeld ?rest32
          case hy32 =>
            dsimp only at hS9
            obtain ⟨hs0, hs1⟩ := hS9
            go_simp
            try with_reducible rfl
          try simp only [Act.put, List.setIfInBounds_toArray, List.set_cons_zero, List.set_cons_succ]
          refine wpAnyH_take (i := 4) (v := ?v33) (by simp only [List.getElem?_toArray, List.getElem?_cons_succ, List.getElem?_cons_zero]; rfl) (by kernel_rfl) (by kernel_rfl) (by kernel_rfl) (by exact fun _ _ _ h => h) (Or.inl ⟨by rfl, fun w9 hS9 => ?hy33⟩) hHeld ?rest33
          case hy33 =>
            dsimp only at hS9
            obtain ⟨hs0, hs1⟩ := hS9
            go_simp
            try with_reducible rfl
          try simp only [Act.put, List.setIfInBounds_toArray, List.set_cons_zero, List.set_cons_succ]
          refine wpAnyH_take (i := 5) (v := ?v34) (by simp only [List.getElem?_toArray, List.getElem?_cons_succ, List.getElem?_cons_zero]; rfl) (by kernel_rfl) (by kernel_rfl) (by kernel_rfl) (by exact fun _ _ _ h => h) (Or.inl ⟨by rfl, fun w9 hS9 => ?hy34⟩) hHeld ?rest34
          case hy34 =>
            dsimp only at hS9
            obtain ⟨hs0, hs1⟩ := hS9
            go_simp
            try with_reducible rfl
          try simp only [Act.put, List.setIfInBounds_toArray, List.set_cons_zero, List.set_cons_succ]
          refine wpAnyH_take (i := 6) (v := ?v35) (by simp only [List.getElem?_toArray, List.getElem?_cons_succ, List.getElem?_cons_zero]; rfl) (by kernel_rfl) (by kernel_rfl) (by kernel_rfl) (by exact fun _ _ _ h => h) (Or.inl ⟨by rfl, fun w9 hS9 => ?hy35⟩) hHeld ?rest35
          case hy35 =>
            dsimp only at hS9
            obtain ⟨hs0, hs1⟩ := hS9
            go_simp
            try with_reducible rfl
          try simp only [Act.put, List.setIfInBounds_toArray, List.set_cons_zero, List.set_cons_succ]
          refine wpAnyH_take (i := 10) (v := ?v36) (by simp only [List.getElem?_toArray, List.getElem?_cons_succ, List.getElem?_cons_zero]; rfl) (by kernel_rfl) (by kernel_rfl) (by kernel_rfl) (by exact fun _ _ _ h => h) (Or.inl ⟨by rfl, fun w9 hS9 => ?hy36⟩) hHeld ?rest36
          case hy36 =>
            dsimp only at hS9
            obtain ⟨hs0, hs1⟩ := hS9
            go_simp
            try with_reducible rfl
          try simp only [Act.put, List.setIfInBounds_toArray, List.set_cons_zero, List.set_cons_succ]
          refine wpAnyH_take (i := 11) (v := ?v37) (by simp only [List.getElem?_toArray, List.getElem?_cons_succ, List.getElem?_cons_zero]; rfl) (by kernel_rfl) (by kernel_rfl) (by kernel_rfl) (by exact fun _ _ _ h => h) (Or.inl ⟨by rfl, fun w9 hS9 => ?hy37⟩) hHeld ?rest37
          case hy37 =>
            dsimp only at hS9
            obtain ⟨hs0, hs1⟩ := hS9
            go_simp
            try with_reducible rfl
          try simp only [Act.put, List.setIfInBounds_toArray, List.set_cons_zero, List.set_cons_succ]
          refine wpAnyH_take (i := 12) (v := ?v38) (by simp only [List.getElem?_toArray, List.getElem?_cons_succ, List.getElem?_cons_zero]; rfl) (by kernel_rfl) (by kernel_rfl) (by kernel_rfl) (by exact fun _ _ _ h => h) (Or.inl ⟨by rfl, fun w9 hS9 => ?hy38⟩) hHeld ?rest38
          case hy38 =>
            dsimp only at hS9
            obtain ⟨hs0, hs1⟩ := hS9
            go_simp
            try with_reducible rfl
          try simp only [Act.put, List.setIfInBounds_toArray, List.set_cons_zero, List.set_cons_succ]
          refine wpAnyH_take (i := 13) (v := ?v39) (by simp only [List.getElem?_toArray, List.getElem?_cons_succ, List.getElem?_cons_zero]; rfl) (by kernel_rfl) (by kernel_rfl) (by kernel_rfl) (by exact fun _ _ _ h => h) (Or.inl ⟨by rfl, fun w9 hS9 => ?hy39⟩) hHeld ?rest39
          case hy39 =>
            dsimp only at hS9
            obtain ⟨hs0, hs1⟩ := hS9
            go_simp
            try with_reducible rfl
          try simp only [Act.put, List.setIfInBounds_toArray, List.set_cons_zero, List.set_cons_succ]
          refine wpAnyH_take (i := 14) (v := ?v40) (by simp only [List.getElem?_toArray, List.getElem?_cons_succ, List.getElem?_cons_zero]; rfl) (by kernel_rfl) (by kernel_rfl) (by kernel_rfl) (by exact fun _ _ _ h => h) (Or.inl ⟨by rfl, fun w9 hS9 => ?hy40⟩) hHeld ?rest40
          case hy40 =>
            dsimp only at hS9
            obtain ⟨hs0, hs1⟩ := hS9
            go_simp
            try with_reducible rfl
          try simp only [Act.put, List.setIfInBounds_toArray, List.set_cons_zero, List.set_cons_succ]
          refine wpAnyH_ready (rs := [7]) (by kernel_rfl) (by simp) (AllReadyH.cons (by simp only [List.getElem?_toArray, List.getElem?_cons_succ, List.getElem?_cons_zero]; rfl) (fun K hK => ?_) AllReadyH.nil)
          go_simp
          refine (K3.out _).mono ?_
          rintro e w4 ⟨rfl, hb4⟩
          have HB4 : Hid (Below w3.heap.size w3 w4) := Lib.hid (HBe.out.trans (hb4.mono HBe.out.size))
          clear hb4
          go_wp2_with fail
          refine hK.out _ _ ⟨cell_kept E2.out HB4.out, cell_kept E3.out HB4.out⟩ (fun hHeld => ?_)
          clear hK K
          try simp only [Act.put, List.setIfInBounds_toArray, List.set_cons_zero, List.set_cons_succ]
          refine wpAnyH_take (i := 8) (v := ?v41) (by simp only [List.getElem?_toArray, List.getElem?_cons_succ, List.getElem?_cons_zero]; rfl) (by kernel_rfl) (by kernel_rfl) (by kernel_rfl) (by exact fun _ _ _ h => h) (Or.inl ⟨by rfl, fun w9 hS9 => ?hy41⟩) hHeld ?rest41
          case hy41 =>
            dsimp only at hS9
            obtain ⟨hs0, hs1⟩ := hS9
            go_simp
            try with_reducible rfl
          try simp only [Act.put, List.setIfInBounds_toArray, List.set_cons_zero, List.set_cons_succ]
          refine wpAnyH_take (i := 9) (v := ?v42) (by simp only [List.getElem?_toArray, List.getElem?_cons_succ, List.getElem?_cons_zero]; rfl) (by kernel_rfl) (by kernel_rfl) (by kernel_rfl) (by exact fun _ _ _ h => h) (Or.inl ⟨by rfl, fun w9 hS9 => ?hy42⟩) hHeld ?rest42
          case hy42 =>
            dsimp only at hS9
            obtain ⟨hs0, hs1⟩ := hS9
            go_simp
            try with_reducible rfl
          try simp only [Act.put, List.setIfInBounds_toArray, List.set_cons_zero, List.set_cons_succ]
          refine wpAnyH_ready (rs := [15]) (by kernel_rfl) (by simp) (AllReadyH.cons (by simp only [List.getElem?_toArray, List.getElem?_cons_succ, List.getElem?_cons_zero]; rfl) (fun K hK => ?_) AllReadyH.nil)
          go_simp
          refine (K4.out _).mono ?_
          rintro e w5 ⟨rfl, hb5⟩
          have HB5 : Hid (Below w3.heap.size w3 w5) := Lib.hid (HB4.out.trans (hb5.mono HB4.out.size))
          clear hb5
          go_wp2_with fail
          refine hK.out _ _ ⟨cell_kept E2.out HB5.out, cell_kept E3.out HB5.out⟩ (fun hHeld => ?_)
          clear hK K
          try simp only [Act.put, List.setIfInBounds_toArray, List.set_cons_zero, List.set_cons_succ]
          refine wpAnyH_take (i := 16) (v := ?v43) (by simp only [List.getElem?_toArray, List.getElem?_cons_succ, List.getElem?_cons_zero]; rfl) (by kernel_rfl) (by kernel_rfl) (by kernel_rfl) (by exact fun _ _ _ h => h) (Or.inl ⟨by rfl, fun w9 hS9 => ?hy43⟩) hHeld ?rest43
          case hy43 =>
            dsimp only at hS9
            obtain ⟨hs0, hs1⟩ := hS9
            go_simp
            try with_reducible rfl
          try simp only [Act.put, List.setIfInBounds_toArray, List.set_cons_zero, List.set_cons_succ]
          refine wpAnyH_take (i := 17) (v := ?v44) (by simp only [List.getElem?_toArray, List.getElem?_cons_succ, List.getElem?_cons_zero]; rfl) (by kernel_rfl) (by kernel_rfl) (by kernel_rfl) (by exact fun _ _ _ h => h) (Or.inl ⟨by rfl, fun w9 hS9 => ?hy44⟩) hHeld ?rest44
          case hy44 =>
            dsimp only at hS9
            obtain ⟨hs0, hs1⟩ := hS9
            go_simp
            try with_reducible rfl
          try simp only [Act.put, List.setIfInBounds_toArray, List.set_cons_zero, List.set_cons_succ]
          refine wpAnyH_done (by kernel_rfl) ?_ _
          have HB6 : Hid (Below w.heap.size w w5) := Lib.hid (HBX.out.trans (HB5.out.mono HBX.out.size))
          go_wp2_with fail
          go_roundw
          case rel => exact ⟨j + 1, by omega, by go_num, by rw [HR.out], HB6.out⟩
          case measure => simp [intOf]; omega
      · have e10 : (⟨(T ++ [32]).toArray⟩ : ByteArray) = s1 := by rw [e1, eT1, if_neg hz]
        have hz2 : 0 < j := by omega
        have hz3 : decide ((0 : Int) < (j : Int)) = true := decide_eq_true (by omega)
        rw [e10] at j0
        clear e10 e1 eT1 hz
        by_cases hc : xt = -1
        · have b1 : (xt != -1) = false := by simpa using hc
          have hr : (⟨s3.data⟩ : ByteArray) = ⟨(textTo (l.take (j + 1))).toArray⟩ := by rw [hstep, e3]; unfold fdText; dsimp only; rw [if_pos hc, List.append_assoc]
          have HR : Hid ((⟨(textTo (l.take (j + 1))).toArray⟩ : ByteArray) = s3) := Lib.hid hr.symm
          clear e0 e2 e3 en1 en2 hr hstep h3 a1 a2 ht1 htl hc eT
          go_wp2_with fail
          refine (HIS.out _ HB.out).mono ?_
          rintro e w1 ⟨rfl, hb1⟩
          have HB1 : Hid (Below w.heap.size w w1) := Lib.hid (HB.out.trans (hb1.mono HB.out.size))
          have D0 := Lib.hid (cell_kept C0.out hb1)
          have D1 := Lib.hid (cell_kept C1.out hb1)
          have D2 := Lib.hid (cell_kept C2.out hb1)
          have D3 := Lib.hid (cell_kept C3.out hb1)
          clear hb1 C0 C1 C2 C3
          go_wp2_with fail
          have HBd : Hid (Below w1.heap.size w1 w1.drew) := Lib.hid (Below.refl _ _).drew
          refine wp_region_held_drew (S := (fun w' => w'.cell? ⟨b, o + j * 4, none⟩ = some (.int .i64 xk) ∧ w'.cell? ⟨b, o + j * 4 + 1, none⟩ = some (.int .i64 xm))) (by kernel_rfl) ⟨cell_kept D0.out HBd.out, cell_kept D1.out HBd.out⟩ (fun hHeld => ?_)
          refine wpAnyH_take (i := 0) (v := ?v45) (by simp only [List.getElem?_toArray, List.getElem?_cons_succ, List.getElem?_cons_zero]; rfl) (by kernel_rfl) (by kernel_rfl) (by kernel_rfl) (by exact fun _ _ _ h => h) (Or.inl ⟨by rfl, fun w9 hS9 => ?hy45⟩) hHeld ?rest45
          case hy45 =>
            dsimp only at hS9
            obtain ⟨hs0, hs1⟩ := hS9
            go_simp
            try with_reducible rfl
          try simp only [Act.put, List.setIfInBounds_toArray, List.set_cons_zero, List.set_cons_succ]
          refine wpAnyH_take (i := 1) (v := ?v46) (by simp only [List.getElem?_toArray, List.getElem?_cons_succ, List.getElem?_cons_zero]; rfl) (by kernel_rfl) (by kernel_rfl) (by kernel_rfl) (by exact fun _ _ _ h => h) (Or.inl ⟨by rfl, fun w9 hS9 => ?hy46⟩) hHeld ?rest46
          case hy46 =>
            dsimp only at hS9
            obtain ⟨hs0, hs1⟩ := hS9
            go_simp
            try with_reducible rfl
          try simp only [Act.put, List.setIfInBounds_toArray, List.set_cons_zero, List.set_cons_succ]
          refine wpAnyH_take (i := 2) (v := ?v47) (by simp only [List.getElem?_toArray, List.getElem?_cons_succ, List.getElem?_cons_zero]; rfl) (by kernel_rfl) (by kernel_rfl) (by kernel_rfl) (by exact fun _ _ _ h => h) (Or.inl ⟨by rfl, fun w9 hS9 => ?hy47⟩) hHeld ?rest47
          case hy47 =>
            dsimp only at hS9
            obtain ⟨hs0, hs1⟩ := hS9
            go_simp
            try with_reducible rfl
          try simp only [Act.put, List.setIfInBounds_toArray, List.set_cons_zero, List.set_cons_succ]
          refine wpAnyH_take (i := 3) (v := ?v48) (by simp only [List.getElem?_toArray, List.getElem?_cons_succ, List.getElem?_cons_zero]; rfl) (by kernel_rfl) (by kernel_rfl) (by kernel_rfl) (by exact fun _ _ _ h => h) (Or.inl ⟨by rfl, fun w9 hS9 => ?hy48⟩) hHeld ?rest48
          case hy48 =>
            dsimp only at hS9
            obtain ⟨hs0, hs1⟩ := hS9
            go_simp
            try with_reducible rfl
          try simp only [Act.put, List.setIfInBounds_toArray, List.set_cons_zero, List.set_cons_succ]
          refine wpAnyH_take (i := 4) (v := ?v49) (by simp only [List.getElem?_toArray, List.getElem?_cons_succ, List.getElem?_cons_zero]; rfl) (by kernel_rfl) (by kernel_rfl) (by kernel_rfl) (by exact fun _ _ _ h => h) (Or.inl ⟨by rfl, fun w9 hS9 => ?hy49⟩) hHeld ?rest49
          case hy49 =>
            dsimp only at hS9
            obtain ⟨hs0, hs1⟩ := hS9
            go_simp
            try with_reducible rfl
          try simp only [Act.put, List.setIfInBounds_toArray, List.set_cons_zero, List.set_cons_succ]
          refine wpAnyH_take (i := 5) (v := ?v50) (by simp only [List.getElem?_toArray, List.getElem?_cons_succ, List.getElem?_cons_zero]; rfl) (by kernel_rfl) (by kernel_rfl) (by kernel_rfl) (by exact fun _ _ _ h => h) (Or.inl ⟨by rfl, fun w9 hS9 => ?hy50⟩) hHeld ?rest50
          case hy50 =>
            dsimp only at hS9
            obtain ⟨hs0, hs1⟩ := hS9
            go_simp
            try with_reducible rfl
          try simp only [Act.put, List.setIfInBounds_toArray, List.set_cons_zero, List.set_cons_succ]
          refine wpAnyH_take (i := 8) (v := ?v51) (by simp only [List.getElem?_toArray, List.getElem?_cons_succ, List.getElem?_cons_zero]; rfl) (by kernel_rfl) (by kernel_rfl) (by kernel_rfl) (by exact fun _ _ _ h => h) (Or.inl ⟨by rfl, fun w9 hS9 => ?hy51⟩) hHeld ?rest51
          case hy51 =>
            dsimp only at hS9
            obtain ⟨hs0, hs1⟩ := hS9
            go_simp
            try with_reducible rfl
          try simp only [Act.put, List.setIfInBounds_toArray, List.set_cons_zero, List.set_cons_succ]
          refine wpAnyH_take (i := 9) (v := ?v52) (by simp only [List.getElem?_toArray, List.getElem?_cons_succ, List.getElem?_cons_zero]; rfl) (by kernel_rfl) (by kernel_rfl) (by kernel_rfl) (by exact fun _ _ _ h => h) (Or.inl ⟨by rfl, fun w9 hS9 => ?hy52⟩) hHeld ?rest52
          case hy52 =>
            dsimp only at hS9
            obtain ⟨hs0, hs1⟩ := hS9
            go_simp
            try with_reducible rfl
          try simp only [Act.put, List.setIfInBounds_toArray, List.set_cons_zero, List.set_cons_succ]
          refine wpAnyH_take (i := 10) (v := ?v53) (by simp only [List.getElem?_toArray, List.getElem?_cons_succ, List.getElem?_cons_zero]; rfl) (by kernel_rfl) (by kernel_rfl) (by kernel_rfl) (by exact fun _ _ _ h => h) (Or.inl ⟨by rfl, fun w9 hS9 => ?hy53⟩) hHeld ?rest53
          case hy53 =>
            dsimp only at hS9
            obtain ⟨hs0, hs1⟩ := hS9
            go_simp
            try with_reducible rfl
          try simp only [Act.put, List.setIfInBounds_toArray, List.set_cons_zero, List.set_cons_succ]
          refine wpAnyH_take (i := 11) (v := ?v54) (by simp only [List.getElem?_toArray, List.getElem?_cons_succ, List.getElem?_cons_zero]; rfl) (by kernel_rfl) (by kernel_rfl) (by kernel_rfl) (by exact fun _ _ _ h => h) (Or.inl ⟨by rfl, fun w9 hS9 => ?hy54⟩) hHeld ?rest54
          case hy54 =>
            dsimp only at hS9
            obtain ⟨hs0, hs1⟩ := hS9
            go_simp
            try with_reducible rfl
          try simp only [Act.put, List.setIfInBounds_toArray, List.set_cons_zero, List.set_cons_succ]
          refine wpAnyH_take (i := 12) (v := ?v55) (by simp only [List.getElem?_toArray, List.getElem?_cons_succ, List.getElem?_cons_zero]; rfl) (by kernel_rfl) (by kernel_rfl) (by kernel_rfl) (by exact fun _ _ _ h => h) (Or.inl ⟨by rfl, fun w9 hS9 => ?hy55⟩) hHeld ?rest55
          case hy55 =>
            dsimp only at hS9
            obtain ⟨hs0, hs1⟩ := hS9
            go_simp
            try with_reducible rfl
          try simp only [Act.put, List.setIfInBounds_toArray, List.set_cons_zero, List.set_cons_succ]
          refine wpAnyH_ready (rs := [6]) (by kernel_rfl) (by simp) (AllReadyH.cons (by simp only [List.getElem?_toArray, List.getElem?_cons_succ, List.getElem?_cons_zero]; rfl) (fun K hK => ?_) AllReadyH.nil)
          go_simp
          refine (K1.out _).mono ?_
          rintro e w2 ⟨rfl, hb2⟩
          have HB2 : Hid (Below w1.heap.size w1 w2) := Lib.hid (HBd.out.trans (hb2.mono HBd.out.size))
          clear hb2
          go_wp2_with fail
          refine hK.out _ _ ⟨cell_kept D0.out HB2.out, cell_kept D1.out HB2.out⟩ (fun hHeld => ?_)
          clear hK K
          try simp only [Act.put, List.setIfInBounds_toArray, List.set_cons_zero, List.set_cons_succ]
          refine wpAnyH_take (i := 7) (v := ?v56) (by simp only [List.getElem?_toArray, List.getElem?_cons_succ, List.getElem?_cons_zero]; rfl) (by kernel_rfl) (by kernel_rfl) (by kernel_rfl) (by exact fun _ _ _ h => h) (Or.inl ⟨by rfl, fun w9 hS9 => ?hy56⟩) hHeld ?rest56
          case hy56 =>
            dsimp only at hS9
            obtain ⟨hs0, hs1⟩ := hS9
            go_simp
            try with_reducible rfl
          try simp only [Act.put, List.setIfInBounds_toArray, List.set_cons_zero, List.set_cons_succ]
          refine wpAnyH_ready (rs := [13]) (by kernel_rfl) (by simp) (AllReadyH.cons (by simp only [List.getElem?_toArray, List.getElem?_cons_succ, List.getElem?_cons_zero]; rfl) (fun K hK => ?_) AllReadyH.nil)
          go_simp
          refine (K2.out _).mono ?_
          rintro e w3 ⟨rfl, hb3⟩
          have HB3 : Hid (Below w1.heap.size w1 w3) := Lib.hid (HB2.out.trans (hb3.mono HB2.out.size))
          clear hb3
          go_wp2_with fail
          refine hK.out _ _ ⟨cell_kept D0.out HB3.out, cell_kept D1.out HB3.out⟩ (fun hHeld => ?_)
          clear hK K
          try simp only [Act.put, List.setIfInBounds_toArray, List.set_cons_zero, List.set_cons_succ]
          refine wpAnyH_take (i := 14) (v := ?v57) (by simp only [List.getElem?_toArray, List.getElem?_cons_succ, List.getElem?_cons_zero]; rfl) (by kernel_rfl) (by kernel_rfl) (by kernel_rfl) (by exact fun _ _ _ h => h) (Or.inl ⟨by rfl, fun w9 hS9 => ?hy57⟩) hHeld ?rest57
          case hy57 =>
            dsimp only at hS9
            obtain ⟨hs0, hs1⟩ := hS9
            go_simp
            try with_reducible rfl
          try simp only [Act.put, List.setIfInBounds_toArray, List.set_cons_zero, List.set_cons_succ]
          refine wpAnyH_take (i := 15) (v := ?v58) (by simp only [List.getElem?_toArray, List.getElem?_cons_succ, List.getElem?_cons_zero]; rfl) (by kernel_rfl) (by kernel_rfl) (by kernel_rfl) (by exact fun _ _ _ h => h) (Or.inl ⟨by rfl, fun w9 hS9 => ?hy58⟩) hHeld ?rest58
          case hy58 =>
            dsimp only at hS9
            obtain ⟨hs0, hs1⟩ := hS9
            go_simp
            try with_reducible rfl
          try simp only [Act.put, List.setIfInBounds_toArray, List.set_cons_zero, List.set_cons_succ]
          refine wpAnyH_done (by kernel_rfl) ?_ _
          have f2 := cell_kept D2.out HB3.out
          have HBX : Hid (Below w.heap.size w w3) := Lib.hid (HB1.out.trans (HB3.out.mono HB1.out.size))
          go_wp2_with fail
          go_roundw
          case rel => exact ⟨j + 1, by omega, by go_num, by rw [HR.out], HBX.out⟩
          case measure => simp [intOf]; omega
        · have b1 : (xt != -1) = true := by simpa using hc
          have a3 := itoa_len20 (n := xt) (by omega) (by omega)
          have a4 := itoa_len20 (n := xi) (by omega) (by omega)
          obtain ⟨s4, e4⟩ : ∃ s : ByteArray, s = ⟨(((T1 ++ nameOf xk) ++ itoa xm) ++ [63]).toArray⟩ := ⟨_, rfl⟩
          obtain ⟨s5, e5⟩ : ∃ s : ByteArray, s = ⟨(itoa xt).toArray⟩ := ⟨_, rfl⟩
          obtain ⟨s6, e6⟩ : ∃ s : ByteArray, s = ⟨((((T1 ++ nameOf xk) ++ itoa xm) ++ [63]) ++ itoa xt).toArray⟩ := ⟨_, rfl⟩
          obtain ⟨s7, e7⟩ : ∃ s : ByteArray, s = ⟨(((((T1 ++ nameOf xk) ++ itoa xm) ++ [63]) ++ itoa xt) ++ [61]).toArray⟩ := ⟨_, rfl⟩
          obtain ⟨s8, e8⟩ : ∃ s : ByteArray, s = ⟨(itoa xi).toArray⟩ := ⟨_, rfl⟩
          obtain ⟨s9, e9⟩ : ∃ s : ByteArray, s = ⟨((((((T1 ++ nameOf xk) ++ itoa xm) ++ [63]) ++ itoa xt) ++ [61]) ++ itoa xi).toArray⟩ := ⟨_, rfl⟩
          have K3 : Hid (∀ w, Calls Tryd.prog 50 #[.int .i64 xt] w (Told (.string s5) w)) := Lib.hid (by rw [e5]; exact fun w => specFmt_told xt (by omega) (by omega) w)
          have K4 : Hid (∀ w, Calls Tryd.prog 50 #[.int .i64 xi] w (Told (.string s8) w)) := Lib.hid (by rw [e8]; exact fun w => specFmt_told xi (by omega) (by omega) w)
          have j3 : ∀ w, (Op.stringOp .add s3 ⟨#[63]⟩).run Tryd.prog w = .ok (.string s4) w := by rw [e3, e4]; exact fun w => str_add _ [63] (by simp only [List.length_append, List.length_cons, List.length_nil]; omega) w
          have j4 : ∀ w, (Op.stringOp .add s4 s5).run Tryd.prog w = .ok (.string s6) w := by rw [e4, e5, e6]; exact fun w => str_add _ _ (by simp only [List.length_append, List.length_cons, List.length_nil]; omega) w
          have j5 : ∀ w, (Op.stringOp .add s6 ⟨#[61]⟩).run Tryd.prog w = .ok (.string s7) w := by rw [e6, e7]; exact fun w => str_add _ [61] (by simp only [List.length_append, List.length_cons, List.length_nil]; omega) w
          have j6 : ∀ w, (Op.stringOp .add s7 s8).run Tryd.prog w = .ok (.string s9) w := by rw [e7, e8, e9]; exact fun w => str_add _ _ (by simp only [List.length_append, List.length_cons, List.length_nil]; omega) w
          have HR : Hid ((⟨(textTo (l.take (j + 1))).toArray⟩ : ByteArray) = s9) := Lib.hid (by rw [hstep, e9]; unfold fdText; dsimp only; rw [if_neg hc]; simp only [List.append_assoc])
          clear e0 e2 e3 e4 e5 e6 e7 e8 e9 en1 en2 hstep h3 a1 a2 a3 a4 ht1 htl hc eT
          go_wp2_with fail
          refine (HIS.out _ HB.out).mono ?_
          rintro e w1 ⟨rfl, hb1⟩
          have HB1 : Hid (Below w.heap.size w w1) := Lib.hid (HB.out.trans (hb1.mono HB.out.size))
          have D0 := Lib.hid (cell_kept C0.out hb1)
          have D1 := Lib.hid (cell_kept C1.out hb1)
          have D2 := Lib.hid (cell_kept C2.out hb1)
          have D3 := Lib.hid (cell_kept C3.out hb1)
          clear hb1 C0 C1 C2 C3
          go_wp2_with fail
          have HBd : Hid (Below w1.heap.size w1 w1.drew) := Lib.hid (Below.refl _ _).drew
          refine wp_region_held_drew (S := (fun w' => w'.cell? ⟨b, o + j * 4, none⟩ = some (.int .i64 xk) ∧ w'.cell? ⟨b, o + j * 4 + 1, none⟩ = some (.int .i64 xm))) (by kernel_rfl) ⟨cell_kept D0.out HBd.out, cell_kept D1.out HBd.out⟩ (fun hHeld => ?_)
          refine wpAnyH_take (i := 0) (v := ?v59) (by simp only [List.getElem?_toArray, List.getElem?_cons_succ, List.getElem?_cons_zero]; rfl) (by kernel_rfl) (by kernel_rfl) (by kernel_rfl) (by exact fun _ _ _ h => h) (Or.inl ⟨by rfl, fun w9 hS9 => ?hy59⟩) hHeld ?rest59
          case hy59 =>
            dsimp only at hS9
            obtain ⟨hs0, hs1⟩ := hS9
            go_simp
            try with_reducible rfl
          try simp only [Act.put, List.setIfInBounds_toArray, List.set_cons_zero, List.set_cons_succ]
          refine wpAnyH_take (i := 1) (v := ?v60) (by simp only [List.getElem?_toArray, List.getElem?_cons_succ, List.getElem?_cons_zero]; rfl) (by kernel_rfl) (by kernel_rfl) (by kernel_rfl) (by exact fun _ _ _ h => h) (Or.inl ⟨by rfl, fun w9 hS9 => ?hy60⟩) hHeld ?rest60
          case hy60 =>
            dsimp only at hS9
            obtain ⟨hs0, hs1⟩ := hS9
            go_simp
            try with_reducible rfl
          try simp only [Act.put, List.setIfInBounds_toArray, List.set_cons_zero, List.set_cons_succ]
          refine wpAnyH_take (i := 2) (v := ?v61) (by simp only [List.getElem?_toArray, List.getElem?_cons_succ, List.getElem?_cons_zero]; rfl) (by kernel_rfl) (by kernel_rfl) (by kernel_rfl) (by exact fun _ _ _ h => h) (Or.inl ⟨by rfl, fun w9 hS9 => ?hy61⟩) hHeld ?rest61
          case hy61 =>
            dsimp only at hS9
            obtain ⟨hs0, hs1⟩ := hS9
            go_simp
            try with_reducible rfl
          try simp only [Act.put, List.setIfInBounds_toArray, List.set_cons_zero, List.set_cons_succ]
          refine wpAnyH_take (i := 3) (v := ?v62) (by simp only [List.getElem?_toArray, List.getElem?_cons_succ, List.getElem?_cons_zero]; rfl) (by kernel_rfl) (by kernel_rfl) (by kernel_rfl) (by exact fun _ _ _ h => h) (Or.inl ⟨by rfl, fun w9 hS9 => ?hy62⟩) hHeld ?rest62
          case hy62 =>
            dsimp only at hS9
            obtain ⟨hs0, hs1⟩ := hS9
            go_simp
            try with_reducible rfl
          try simp only [Act.put, List.setIfInBounds_toArray, List.set_cons_zero, List.set_cons_succ]
          refine wpAnyH_take (i := 4) (v := ?v63) (by simp only [List.getElem?_toArray, List.getElem?_cons_succ, List.getElem?_cons_zero]; rfl) (by kernel_rfl) (by kernel_rfl) (by kernel_rfl) (by exact fun _ _ _ h => h) (Or.inl ⟨by rfl, fun w9 hS9 => ?hy63⟩) hHeld ?rest63
          case hy63 =>
            dsimp only at hS9
            obtain ⟨hs0, hs1⟩ := hS9
            go_simp
            try with_reducible rfl
          try simp only [Act.put, List.setIfInBounds_toArray, List.set_cons_zero, List.set_cons_succ]
          refine wpAnyH_take (i := 5) (v := ?v64) (by simp only [List.getElem?_toArray, List.getElem?_cons_succ, List.getElem?_cons_zero]; rfl) (by kernel_rfl) (by kernel_rfl) (by kernel_rfl) (by exact fun _ _ _ h => h) (Or.inl ⟨by rfl, fun w9 hS9 => ?hy64⟩) hHeld ?rest64
          case hy64 =>
            dsimp only at hS9
            obtain ⟨hs0, hs1⟩ := hS9
            go_simp
            try with_reducible rfl
          try simp only [Act.put, List.setIfInBounds_toArray, List.set_cons_zero, List.set_cons_succ]
          refine wpAnyH_take (i := 8) (v := ?v65) (by simp only [List.getElem?_toArray, List.getElem?_cons_succ, List.getElem?_cons_zero]; rfl) (by kernel_rfl) (by kernel_rfl) (by kernel_rfl) (by exact fun _ _ _ h => h) (Or.inl ⟨by rfl, fun w9 hS9 => ?hy65⟩) hHeld ?rest65
          case hy65 =>
            dsimp only at hS9
            obtain ⟨hs0, hs1⟩ := hS9
            go_simp
            try with_reducible rfl
          try simp only [Act.put, List.setIfInBounds_toArray, List.set_cons_zero, List.set_cons_succ]
          refine wpAnyH_take (i := 9) (v := ?v66) (by simp only [List.getElem?_toArray, List.getElem?_cons_succ, List.getElem?_cons_zero]; rfl) (by kernel_rfl) (by kernel_rfl) (by kernel_rfl) (by exact fun _ _ _ h => h) (Or.inl ⟨by rfl, fun w9 hS9 => ?hy66⟩) hHeld ?rest66
          case hy66 =>
            dsimp only at hS9
            obtain ⟨hs0, hs1⟩ := hS9
            go_simp
            try with_reducible rfl
          try simp only [Act.put, List.setIfInBounds_toArray, List.set_cons_zero, List.set_cons_succ]
          refine wpAnyH_take (i := 10) (v := ?v67) (by simp only [List.getElem?_toArray, List.getElem?_cons_succ, List.getElem?_cons_zero]; rfl) (by kernel_rfl) (by kernel_rfl) (by kernel_rfl) (by exact fun _ _ _ h => h) (Or.inl ⟨by rfl, fun w9 hS9 => ?hy67⟩) hHeld ?rest67
          case hy67 =>
            dsimp only at hS9
            obtain ⟨hs0, hs1⟩ := hS9
            go_simp
            try with_reducible rfl
          try simp only [Act.put, List.setIfInBounds_toArray, List.set_cons_zero, List.set_cons_succ]
          refine wpAnyH_take (i := 11) (v := ?v68) (by simp only [List.getElem?_toArray, List.getElem?_cons_succ, List.getElem?_cons_zero]; rfl) (by kernel_rfl) (by kernel_rfl) (by kernel_rfl) (by exact fun _ _ _ h => h) (Or.inl ⟨by rfl, fun w9 hS9 => ?hy68⟩) hHeld ?rest68
          case hy68 =>
            dsimp only at hS9
            obtain ⟨hs0, hs1⟩ := hS9
            go_simp
            try with_reducible rfl
          try simp only [Act.put, List.setIfInBounds_toArray, List.set_cons_zero, List.set_cons_succ]
          refine wpAnyH_take (i := 12) (v := ?v69) (by simp only [List.getElem?_toArray, List.getElem?_cons_succ, List.getElem?_cons_zero]; rfl) (by kernel_rfl) (by kernel_rfl) (by kernel_rfl) (by exact fun _ _ _ h => h) (Or.inl ⟨by rfl, fun w9 hS9 => ?hy69⟩) hHeld ?rest69
          case hy69 =>
            dsimp only at hS9
            obtain ⟨hs0, hs1⟩ := hS9
            go_simp
            try with_reducible rfl
          try simp only [Act.put, List.setIfInBounds_toArray, List.set_cons_zero, List.set_cons_succ]
          refine wpAnyH_ready (rs := [6]) (by kernel_rfl) (by simp) (AllReadyH.cons (by simp only [List.getElem?_toArray, List.getElem?_cons_succ, List.getElem?_cons_zero]; rfl) (fun K hK => ?_) AllReadyH.nil)
          go_simp
          refine (K1.out _).mono ?_
          rintro e w2 ⟨rfl, hb2⟩
          have HB2 : Hid (Below w1.heap.size w1 w2) := Lib.hid (HBd.out.trans (hb2.mono HBd.out.size))
          clear hb2
          go_wp2_with fail
          refine hK.out _ _ ⟨cell_kept D0.out HB2.out, cell_kept D1.out HB2.out⟩ (fun hHeld => ?_)
          clear hK K
          try simp only [Act.put, List.setIfInBounds_toArray, List.set_cons_zero, List.set_cons_succ]
          refine wpAnyH_take (i := 7) (v := ?v70) (by simp only [List.getElem?_toArray, List.getElem?_cons_succ, List.getElem?_cons_zero]; rfl) (by kernel_rfl) (by kernel_rfl) (by kernel_rfl) (by exact fun _ _ _ h => h) (Or.inl ⟨by rfl, fun w9 hS9 => ?hy70⟩) hHeld ?rest70
          case hy70 =>
            dsimp only at hS9
            obtain ⟨hs0, hs1⟩ := hS9
            go_simp
            try with_reducible rfl
          try simp only [Act.put, List.setIfInBounds_toArray, List.set_cons_zero, List.set_cons_succ]
          refine wpAnyH_ready (rs := [13]) (by kernel_rfl) (by simp) (AllReadyH.cons (by simp only [List.getElem?_toArray, List.getElem?_cons_succ, List.getElem?_cons_zero]; rfl) (fun K hK => ?_) AllReadyH.nil)
          go_simp
          refine (K2.out _).mono ?_
          rintro e w3 ⟨rfl, hb3⟩
          have HB3 : Hid (Below w1.heap.size w1 w3) := Lib.hid (HB2.out.trans (hb3.mono HB2.out.size))
          clear hb3
          go_wp2_with fail
          refine hK.out _ _ ⟨cell_kept D0.out HB3.out, cell_kept D1.out HB3.out⟩ (fun hHeld => ?_)
          clear hK K
          try simp only [Act.put, List.setIfInBounds_toArray, List.set_cons_zero, List.set_cons_succ]
          refine wpAnyH_take (i := 14) (v := ?v71) (by simp only [List.getElem?_toArray, List.getElem?_cons_succ, List.getElem?_cons_zero]; rfl) (by kernel_rfl) (by kernel_rfl) (by kernel_rfl) (by exact fun _ _ _ h => h) (Or.inl ⟨by rfl, fun w9 hS9 => ?hy71⟩) hHeld ?rest71
          case hy71 =>
            dsimp only at hS9
            obtain ⟨hs0, hs1⟩ := hS9
            go_simp
            try with_reducible rfl
          try simp only [Act.put, List.setIfInBounds_toArray, List.set_cons_zero, List.set_cons_succ]
          refine wpAnyH_take (i := 15) (v := ?v72) (by simp only [List.getElem?_toArray, List.getElem?_cons_succ, List.getElem?_cons_zero]; rfl) (by kernel_rfl) (by kernel_rfl) (by kernel_rfl) (by exact fun _ _ _ h => h) (Or.inl ⟨by rfl, fun w9 hS9 => ?hy72⟩) hHeld ?rest72
          case hy72 =>
            dsimp only at hS9
            obtain ⟨hs0, hs1⟩ := hS9
            go_simp
            try with_reducible rfl
          try simp only [Act.put, List.setIfInBounds_toArray, List.set_cons_zero, List.set_cons_succ]
          refine wpAnyH_done (by kernel_rfl) ?_ _
          have f2 := cell_kept D2.out HB3.out
          have HBX : Hid (Below w.heap.size w w3) := Lib.hid (HB1.out.trans (HB3.out.mono HB1.out.size))
          have E2 := Lib.hid f2
          have E3 := Lib.hid (cell_kept D3.out HB3.out)
          go_wp2_with fail
          clear f2
          have HBe : Hid (Below w3.heap.size w3 w3.drew) := Lib.hid (Below.refl _ _).drew
          refine wp_region_held_drew (S := (fun w' => w'.cell? ⟨b, o + j * 4 + 2, none⟩ = some (.int .i64 xt) ∧ w'.cell? ⟨b, o + j * 4 + 3, none⟩ = some (.int .i64 xi))) (by kernel_rfl) ⟨cell_kept E2.out HBe.out, cell_kept E3.out HBe.out⟩ (fun hHeld => ?_)
          refine wpAnyH_take (i := 0) (v := ?v73) (by simp only [List.getElem?_toArray, List.getElem?_cons_succ, List.getElem?_cons_zero]; rfl) (by kernel_rfl) (by kernel_rfl) (by kernel_rfl) (by exact fun _ _ _ h => h) (Or.inl ⟨by rfl, fun w9 hS9 => ?hy73⟩) hHeld ?rest73
          case hy73 =>
            dsimp only at hS9
            obtain ⟨hs0, hs1⟩ := hS9
            go_simp
            try with_reducible rfl
          try simp only [Act.put, List.setIfInBounds_toArray, List.set_cons_zero, List.set_cons_succ]
          refine wpAnyH_take (i := 1) (v := ?v74) (by simp only [List.getElem?_toArray, List.getElem?_cons_succ, List.getElem?_cons_zero]; rfl) (by kernel_rfl) (by kernel_rfl) (by kernel_rfl) (by exact fun _ _ _ h => h) (Or.inl ⟨by rfl, fun w9 hS9 => ?hy74⟩) hHeld ?rest74
          case hy74 =>
            dsimp only at hS9
            obtain ⟨hs0, hs1⟩ := hS9
            go_simp
            try with_reducible rfl
          try simp only [Act.put, List.setIfInBounds_toArray, List.set_cons_zero, List.set_cons_succ]
          refine wpAnyH_take (i := 2) (v := ?v75) (by simp only [List.getElem?_toArray, List.getElem?_cons_succ, List.getElem?_cons_zero]; rfl) (by kernel_rfl) (by kernel_rfl) (by kernel_rfl) (by exact fun _ _ _ h => h) (Or.inl ⟨by rfl, fun w9 hS9 => ?hy75⟩) hHeld ?rest75
          case hy75 =>
            dsimp only at hS9
            obtain ⟨hs0, hs1⟩ := hS9
            go_simp
            try with_reducible rfl
          try simp only [Act.put, List.setIfInBounds_toArray, List.set_cons_zero, List.set_cons_succ]
          refine wpAnyH_take (i := 3) (v := ?v76) (by simp only [List.getElem?_toArray, List.getElem?_cons_succ, List.getElem?_cons_zero]; rfl) (by kernel_rfl) (by kernel_rfl) (by kernel_rfl) (by exact fun _ _ _ h => h) (Or.inl ⟨by rfl, fun w9 hS9 => ?hy76⟩) hHeld ?rest76
          case hy76 =>
            dsimp only at hS9
            obtain ⟨hs0, hs1⟩ := hS9
            go_simp
            try with_reducible rfl
          try simp only [Act.put, List.setIfInBounds_toArray, List.set_cons_zero, List.set_cons_succ]
          refine wpAnyH_take (i := 4) (v := ?v77) (by simp only [List.getElem?_toArray, List.getElem?_cons_succ, List.getElem?_cons_zero]; rfl) (by kernel_rfl) (by kernel_rfl) (by kernel_rfl) (by exact fun _ _ _ h => h) (Or.inl ⟨by rfl, fun w9 hS9 => ?hy77⟩) hHeld ?rest77
          case hy77 =>
            dsimp only at hS9
            obtain ⟨hs0, hs1⟩ := hS9
            go_simp
            try with_reducible rfl
          try simp only [Act.put, List.setIfInBounds_toArray, List.set_cons_zero, List.set_cons_succ]
          refine wpAnyH_take (i := 5) (v := ?v78) (by simp only [List.getElem?_toArray, List.getElem?_cons_succ, List.getElem?_cons_zero]; rfl) (by kernel_rfl) (by kernel_rfl) (by kernel_rfl) (by exact fun _ _ _ h => h) (Or.inl ⟨by rfl, fun w9 hS9 => ?hy78⟩) hHeld ?rest78
          case hy78 =>
            dsimp only at hS9
            obtain ⟨hs0, hs1⟩ := hS9
            go_simp
            try with_reducible rfl
          try simp only [Act.put, List.setIfInBounds_toArray, List.set_cons_zero, List.set_cons_succ]
          refine wpAnyH_take (i := 6) (v := ?v79) (by simp only [List.getElem?_toArray, List.getElem?_cons_succ, List.getElem?_cons_zero]; rfl) (by kernel_rfl) (by kernel_rfl) (by kernel_rfl) (by exact fun _ _ _ h => h) (Or.inl ⟨by rfl, fun w9 hS9 => ?hy79⟩) hHeld ?rest79
          case hy79 =>
            dsimp only at hS9
            obtain ⟨hs0, hs1⟩ := hS9
            go_simp
            try with_reducible rfl
          try simp only [Act.put, List.setIfInBounds_toArray, List.set_cons_zero, List.set_cons_succ]
          refine wpAnyH_take (i := 10) (v := ?v80) (by simp only [List.getElem?_toArray, List.getElem?_cons_succ, List.getElem?_cons_zero]; rfl) (by kernel_rfl) (by kernel_rfl) (by kernel_rfl) (by exact fun _ _ _ h => h) (Or.inl ⟨by rfl, fun w9 hS9 => ?hy80⟩) hHeld ?rest80
          case hy80 =>
            dsimp only at hS9
            obtain ⟨hs0, hs1⟩ := hS9
            go_simp
            try with_reducible rfl
          try simp only [Act.put, List.setIfInBounds_toArray, List.set_cons_zero, List.set_cons_succ]
          refine wpAnyH_take (i := 11) (v := ?v81) (by simp only [List.getElem?_toArray, List.getElem?_cons_succ, List.getElem?_cons_zero]; rfl) (by kernel_rfl) (by kernel_rfl) (by kernel_rfl) (by exact fun _ _ _ h => h) (Or.inl ⟨by rfl, fun w9 hS9 => ?hy81⟩) hHeld ?rest81
          case hy81 =>
            dsimp only at hS9
            obtain ⟨hs0, hs1⟩ := hS9
            go_simp
            try with_reducible rfl
          try simp only [Act.put, List.setIfInBounds_toArray, List.set_cons_zero, List.set_cons_succ]
          refine wpAnyH_take (i := 12) (v := ?v82) (by simp only [List.getElem?_toArray, List.getElem?_cons_succ, List.getElem?_cons_zero]; rfl) (by kernel_rfl) (by kernel_rfl) (by kernel_rfl) (by exact fun _ _ _ h => h) (Or.inl ⟨by rfl, fun w9 hS9 => ?hy82⟩) hHeld ?rest82
          case hy82 =>
            dsimp only at hS9
            obtain ⟨hs0, hs1⟩ := hS9
            go_simp
            try with_reducible rfl
          try simp only [Act.put, List.setIfInBounds_toArray, List.set_cons_zero, List.set_cons_succ]
          refine wpAnyH_take (i := 13) (v := ?v83) (by simp only [List.getElem?_toArray, List.getElem?_cons_succ, List.getElem?_cons_zero]; rfl) (by kernel_rfl) (by kernel_rfl) (by kernel_rfl) (by exact fun _ _ _ h => h) (Or.inl ⟨by rfl, fun w9 hS9 => ?hy83⟩) hHeld ?rest83
          case hy83 =>
            dsimp only at hS9
            obtain ⟨hs0, hs1⟩ := hS9
            go_simp
            try with_reducible rfl
          try simp only [Act.put, List.setIfInBounds_toArray, List.set_cons_zero, List.set_cons_succ]
          refine wpAnyH_take (i := 14) (v := ?v84) (by simp only [List.getElem?_toArray, List.getElem?_cons_succ, List.getElem?_cons_zero]; rfl) (by kernel_rfl) (by kernel_rfl) (by kernel_rfl) (by exact fun _ _ _ h => h) (Or.inl ⟨by rfl, fun w9 hS9 => ?hy84⟩) hHeld ?rest84
          case hy84 =>
            dsimp only at hS9
            obtain ⟨hs0, hs1⟩ := hS9
            go_simp
            try with_reducible rfl
          try simp only [Act.put, List.setIfInBounds_toArray, List.set_cons_zero, List.set_cons_succ]
          refine wpAnyH_ready (rs := [7]) (by kernel_rfl) (by simp) (AllReadyH.cons (by simp only [List.getElem?_toArray, List.getElem?_cons_succ, List.getElem?_cons_zero]; rfl) (fun K hK => ?_) AllReadyH.nil)
          go_simp
          refine (K3.out _).mono ?_
          rintro e w4 ⟨rfl, hb4⟩
          have HB4 : Hid (Below w3.heap.size w3 w4) := Lib.hid (HBe.out.trans (hb4.mono HBe.out.size))
          clear hb4
          go_wp2_with fail
          refine hK.out _ _ ⟨cell_kept E2.out HB4.out, cell_kept E3.out HB4.out⟩ (fun hHeld => ?_)
          clear hK K
          try simp only [Act.put, List.setIfInBounds_toArray, List.set_cons_zero, List.set_cons_succ]
          refine wpAnyH_take (i := 8) (v := ?v85) (by simp only [List.getElem?_toArray, List.getElem?_cons_succ, List.getElem?_cons_zero]; rfl) (by kernel_rfl) (by kernel_rfl) (by kernel_rfl) (by exact fun _ _ _ h => h) (Or.inl ⟨by rfl, fun w9 hS9 => ?hy85⟩) hHeld ?rest85
          case hy85 =>
            dsimp only at hS9
            obtain ⟨hs0, hs1⟩ := hS9
            go_simp
            try with_reducible rfl
          try simp only [Act.put, List.setIfInBounds_toArray, List.set_cons_zero, List.set_cons_succ]
          refine wpAnyH_take (i := 9) (v := ?v86) (by simp only [List.getElem?_toArray, List.getElem?_cons_succ, List.getElem?_cons_zero]; rfl) (by kernel_rfl) (by kernel_rfl) (by kernel_rfl) (by exact fun _ _ _ h => h) (Or.inl ⟨by rfl, fun w9 hS9 => ?hy86⟩) hHeld ?rest86
          case hy86 =>
            dsimp only at hS9
            obtain ⟨hs0, hs1⟩ := hS9
            go_simp
            try with_reducible rfl
          try simp only [Act.put, List.setIfInBounds_toArray, List.set_cons_zero, List.set_cons_succ]
          refine wpAnyH_ready (rs := [15]) (by kernel_rfl) (by simp) (AllReadyH.cons (by simp only [List.getElem?_toArray, List.getElem?_cons_succ, List.getElem?_cons_zero]; rfl) (fun K hK => ?_) AllReadyH.nil)
          go_simp
          refine (K4.out _).mono ?_
          rintro e w5 ⟨rfl, hb5⟩
          have HB5 : Hid (Below w3.heap.size w3 w5) := Lib.hid (HB4.out.trans (hb5.mono HB4.out.size))
          clear hb5
          go_wp2_with fail
          refine hK.out _ _ ⟨cell_kept E2.out HB5.out, cell_kept E3.out HB5.out⟩ (fun hHeld => ?_)
          clear hK K
          try simp only [Act.put, List.setIfInBounds_toArray, List.set_cons_zero, List.set_cons_succ]
          refine wpAnyH_take (i := 16) (v := ?v87) (by simp only [List.getElem?_toArray, List.getElem?_cons_succ, List.getElem?_cons_zero]; rfl) (by kernel_rfl) (by kernel_rfl) (by kernel_rfl) (by exact fun _ _ _ h => h) (Or.inl ⟨by rfl, fun w9 hS9 => ?hy87⟩) hHeld ?rest87
          case hy87 =>
            dsimp only at hS9
            obtain ⟨hs0, hs1⟩ := hS9
            go_simp
            try with_reducible rfl
          try simp only [Act.put, List.setIfInBounds_toArray, List.set_cons_zero, List.set_cons_succ]
          refine wpAnyH_take (i := 17) (v := ?v88) (by simp only [List.getElem?_toArray, List.getElem?_cons_succ, List.getElem?_cons_zero]; rfl) (by kernel_rfl) (by kernel_rfl) (by kernel_rfl) (by exact fun _ _ _ h => h) (Or.inl ⟨by rfl, fun w9 hS9 => ?hy88⟩) hHeld ?rest88
          case hy88 =>
            dsimp only at hS9
            obtain ⟨hs0, hs1⟩ := hS9
            go_simp
            try with_reducible rfl
          try simp only [Act.put, List.setIfInBounds_toArray, List.set_cons_zero, List.set_cons_succ]
          refine wpAnyH_done (by kernel_rfl) ?_ _
          have HB6 : Hid (Below w.heap.size w w5) := Lib.hid (HBX.out.trans (HB5.out.mono HBX.out.size))
          go_wp2_with fail
          go_roundw
          case rel => exact ⟨j + 1, by omega, by go_num, by rw [HR.out], HB6.out⟩
          case measure => simp [intOf]; omega
    · obtain rfl : j = n := by omega
      go_wp2
      go_ret
      rw [List.take_of_length_le (by have := hl.out; omega)]
      exact ⟨rfl, HB.out⟩
set_option maxRecDepth 100000 in
theorem specFormatText_any (a : Option Addr) (n c : Nat) (l : List Fd) (w : World) (h : Fds w a n l) (hn : n ≤ 1000000000) :
    Calls Tryd.prog 23 #[.slice a n c] w (Told (.string ⟨(fmtText l).toArray⟩) w) := by
  cases hf : isFmt l with
  | true =>
    rw [show fmtText l = textTo l by unfold fmtText; rw [if_pos hf]]
    exact specFormatText_yes a n c l w h hf
  | false =>
    rw [show fmtText l = [] by unfold fmtText; rw [if_neg (by rw [hf]; decide)]]
    have hisf := specIsFormat_any a n c l w h hn
    rw [hf] at hisf
    have HIS := Lib.hid hisf
    clear h hf hisf
    by_cases h0 : n = 0
    · subst h0
      go_enter Tryd.func23, Tryd.ntmps23
      go_wp2_with fail
      go_loop [3, 4] (fun s i => s = .string ⟨#[]⟩ ∧ i = .int .i64 0) (fun _ _ => 0)
      case atStart => exact ⟨rfl, rfl⟩
      case round =>
        obtain ⟨rfl, rfl⟩ := hrel
        go_wp2_with fail
        go_ret
        exact ⟨rfl, Below.refl _ _⟩
    · have hltI : (0 : Int) < (n : Int) := by omega
      go_enter Tryd.func23, Tryd.ntmps23
      go_wp2_with fail
      go_loop [3, 4] (fun s i => s = .string ⟨#[]⟩ ∧ i = .int .i64 0) (fun _ _ => 0)
      case atStart => exact ⟨rfl, rfl⟩
      case round =>
        obtain ⟨rfl, rfl⟩ := hrel
        go_wp2_with fail
        refine HIS.out.mono ?_
        rintro e w1 ⟨rfl, hb1⟩
        have HB1 := Lib.hid hb1
        clear hb1
        go_wp2_with fail
        go_ret
        exact ⟨rfl, HB1.out⟩
end Go.Proofs.YtdeecjbebkideaaDoor
