/- The tags of a list of extensions, the fields of the parts, whether an extension and a list of them are valid, where a tag stands: by the program. Whether a list of extensions is valid, and where a tag stands: by the program. The helpers of the exact laws at lists of values: measured, copied, compared. The helpers of the exact laws at lists of extensions: measured, copied, compared. -/
import Derived.Test.YtcmjadfpifpknaaGreatG6
import Derived.Test.YtcmjadfpifpknaaGreatG7
import Derived.Test.YtcmjadfpifpknaaGreatG3
import Derived.Test.YtcmjadfpifpknaaGreatG8
import Derived.Deep.QuietTactic
import Derived.BigQuiet
import Derived.RegionTactic
import Derived.Deep.RegionHeld3
import Derived.Test.YtcmjadfpifpknaaGreatG2
import Derived.Test.YtcmjadfpifpknaaGreatG1
import Derived.Test.YtcmjadfpifpknaaGreatG5
import Derived.StillTailTactics
import Derived.Handy
namespace Go.Proofs.YtcmjadfpifpknaaGreat
open Go.ChangeShapes Go.WideShapes Go.ChangeAt Go.RowKit
set_option linter.unusedVariables false
set_option linter.unusedSimpArgs false

set_option maxHeartbeats 2000000 in
set_option maxRecDepth 100000 in
theorem tagsOf_any {a : Option Addr} {n c : Nat} {l : List Vl} {w : World} (h : Vals w a n l) (hn : n ≤ 1048576000) :
    Calls Tryz.prog 94 #[.slice a n c] w (Made .i64 3 w.heap.size (tagsX l) w) := by
  have H := Lib.hid h
  have hln := Lib.hid h.len
  clear h
  obtain ⟨i0, hi, hz0, hz1, hz2⟩ := info_parts infoIntS
  have HI := Lib.hid (And.intro hi (And.intro hz0 (And.intro hz1 hz2)))
  clear hi hz0 hz1 hz2
  go_enter Tryz.func94, Tryz.ntmps94
  go_wp2_with (with_reducible refine wpList_make_own _ rfl (.const (.int .i64 0)) (.tmp 7) 24 rfl w.heap.size 3 i0 (.int .i64 0) 1 Tryz.underlying24 HI.out.1 HI.out.2.1 HI.out.2.2.1 .i64 .i64 _ n rfl rfl rfl ?c1 ?c2 ?c3 ?_)
  case c1 => rw [HI.out.2.2.2]; omega
  case c2 => unfold maxLen; omega
  case c3 => exact Nat.le_refl _
  intro w1 hown hgrow
  have hb1 : Below w.heap.size w w1 := (Below.refl _ w).grown hgrow (Nat.le_refl _) (fun _ e => by cases e)
  have HO : Hid (Own .i64 3 w1 w.heap.size (some ⟨w.heap.size, 0, none⟩) 0 n (tagsX (l.take 0))) := Lib.hid ⟨by simp [tagsX], hown⟩
  have HB := Lib.hid hb1
  clear hown hgrow hb1
  go_wp2_with fail
  go_loopw [3, 11] (fun v i wr => ∃ (j : Nat) (q : Option Addr) (d : Nat), j ≤ n ∧ i = .int .i64 j ∧ v = .slice q j d ∧ Own .i64 3 wr w.heap.size q j d (tagsX (l.take j)) ∧ Below w.heap.size w wr) (fun _ i _ => n - (intOf i).toNat)
  case atStart => exact ⟨0, _, _, Nat.zero_le _, rfl, rfl, HO.out, HB.out⟩
  case round =>
    obtain ⟨j, q, d, hj, rfl, rfl, hown, hb⟩ := hrel
    have HO2 := Lib.hid hown
    have HB2 := Lib.hid hb
    clear hown hb
    by_cases hlt : j < n
    · obtain ⟨b, o, p, m, e, k, y, rfl, hx, hc0, hc1, hN, hr⟩ := (H.out.same HB2.out).at_ hlt
      have HX : Hid (tagsX (l.take (j + 1)) = tagsX (l.take j) ++ [k]) := Lib.hid (tags_take hx)
      have hsz := HB2.out.size
      clear hx hN
      go_wp2_with (at_builtin; refine wpl_app _ rfl (.tmp 15) (.tmp 18) 24 rfl .i64 3 i0 (.int .i64 0) 8 Tryz.underlying24 HI.out.1 HI.out.2.1 HI.out.2.2.1 HI.out.2.2.2 rfl rfl ((HO2.out.alloc _).alloc _) rfl (nums_new2 _ _ _ _ _) (by omega) ?c1 ?c2 ?_)
      case c1 => omega
      case c2 => simp; omega
      intro a3 c3 w3 ho3 hb3
      have HO3 : Hid (Own .i64 3 w3 w.heap.size a3 (j + 1) c3 (tagsX (l.take (j + 1)))) := Lib.hid (by rw [HX.out]; exact ho3)
      have HB3 : Hid (Below w.heap.size w w3) := Lib.hid (HB2.out.trans (((alloc_same wr _).mono hsz).trans (((alloc_same _ _).mono (by simp; omega)).trans hb3)))
      clear ho3 hb3 hc0 hc1
      go_wp2_with fail
      go_roundw
      case rel => exact ⟨j + 1, a3, c3, by omega, by go_num, rfl, HO3.out, HB3.out⟩
      case measure => simp [intOf]; omega
    · obtain rfl : j = n := by omega
      go_wp2
      go_ret
      have h1 := HO2.out
      rw [List.take_of_length_le (by rw [hln.out]; omega)] at h1
      exact ⟨_, _, _, rfl, h1, HB2.out⟩

set_option maxRecDepth 100000 in
theorem partCount (w : World) : Calls Tryz.prog 141 #[.int .i32 110] w (Told fdN.val w) := by
  unfold fdN Fd.val
  go_enter Tryz.func141, Tryz.ntmps141
  go_wp2_with fail
  refine bodyPost_ret (by simp [results, Tryz.results141, go_sem]; try rfl) rfl ?_
  exact ⟨rfl, alloc_same _ _⟩
set_option maxRecDepth 100000 in
theorem partTag (w : World) : Calls Tryz.prog 141 #[.int .i32 116] w (Told fdT.val w) := by
  unfold fdT Fd.val
  go_enter Tryz.func141, Tryz.ntmps141
  go_wp2_with fail
  refine bodyPost_ret (by simp [results, Tryz.results141, go_sem]; try rfl) rfl ?_
  exact ⟨rfl, alloc_same _ _⟩
set_option maxRecDepth 100000 in
theorem partBody (w : World) : Calls Tryz.prog 141 #[.int .i32 98] w (Told fdB.val w) := by
  unfold fdB Fd.val
  go_enter Tryz.func141, Tryz.ntmps141
  go_wp2_with fail
  refine bodyPost_ret (by simp [results, Tryz.results141, go_sem]; try rfl) rfl ?_
  exact ⟨rfl, alloc_same _ _⟩
theorem fits_t {x : Fd} {k : Int} {p : Option Addr} {m c : Nat} {y : List Int} {v : Bool} (e : fitsField x k y = v) (w : World) (h : Nums .i64 w p m y) :
    Calls Tryz.prog 140 #[x.val, .agg #[.int .i64 k, .slice p m c]] w (Told (.bool v) w) := by rw [← e]; exact fitsField_any x k p m c y w h
set_option maxHeartbeats 4000000 in
set_option maxRecDepth 100000 in
theorem isExt_any (k : Int) (p : Option Addr) (m c : Nat) (y : List Int) (w : World) (h : Nums .i64 w p m y) :
    Calls Tryz.prog 100 #[.agg #[.int .i64 k, .slice p m c]] w (Told (.bool (okX ⟨k, y⟩)) w) := by
  have hl := h.len
  have hb0 := alloc_same w (.cells #[.int .i64 k, .slice p m c] 125)
  have HN := Lib.hid (h.same hb0)
  have HB0 := Lib.hid hb0
  have hw0 := heap_alloc_new w (.cells #[.int .i64 k, .slice p m c] 125)
  have C0 := Lib.hid ((block_cell hw0 0).trans rfl)
  have C1 := Lib.hid ((block_cell hw0 1).trans rfl)
  clear h hb0 hw0
  by_cases hk : 0 ≤ k ∧ k ≤ 255
  · have e1 : okX ⟨k, y⟩ = fitIts y 4 255 := by unfold okX; dsimp only; rw [decide_eq_true hk]; rfl
    have KT := Lib.hid (fun w0 => fits_t (c := 0) ((fitsT k).trans (decide_eq_true hk)) w0 (Nums.none (a := none)))
    rw [e1]
    clear e1 hk
    go_enter Tryz.func100, Tryz.ntmps100
    go_wp2_with fail
    generalize w.alloc (.cells #[.int .i64 k, .slice p m c] 125) = W0 at *
    have KB := Lib.hid (fun (w0 : World) (hb : Below W0.heap.size W0 w0) => fits_t (c := c) (fitsB y) w0 (HN.out.same hb))
    have HBd : Hid (Below W0.heap.size W0 W0.drew) := Lib.hid (Below.refl _ _).drew
    refine wp_region_held_drew (S := fun w9 => w9.cell? ⟨w.heap.size, 0, none⟩ = some (.int .i64 k) ∧ w9.cell? ⟨w.heap.size, 1, none⟩ = some (.slice p m c)) (by kernel_rfl) ⟨cell_stay C0.out HBd.out, cell_stay C1.out HBd.out⟩ (fun hHeld => ?_)
    refine wpAnyH_take (i := 1) (v := ?v1) (by simp only [List.getElem?_toArray, List.getElem?_cons_succ, List.getElem?_cons_zero]; rfl) (by kernel_rfl) (by kernel_rfl) (by kernel_rfl) (by exact fun _ _ _ h => h) (Or.inl ⟨by rfl, fun w9 hS9 => ?hy1⟩) hHeld ?rest1
    case hy1 =>
      dsimp only at hS9
      obtain ⟨hs0, hs1⟩ := hS9
      go_simp
      try with_reducible rfl
    try simp only [Act.put, List.setIfInBounds_toArray, List.set_cons_zero, List.set_cons_succ]
    refine wpAnyH_take (i := 2) (v := ?v2) (by simp only [List.getElem?_toArray, List.getElem?_cons_succ, List.getElem?_cons_zero]; rfl) (by kernel_rfl) (by kernel_rfl) (by kernel_rfl) (by exact fun _ _ _ h => h) (Or.inl ⟨by rfl, fun w9 hS9 => ?hy2⟩) hHeld ?rest2
    case hy2 =>
      dsimp only at hS9
      obtain ⟨hs0, hs1⟩ := hS9
      go_simp
      try with_reducible rfl
    try simp only [Act.put, List.setIfInBounds_toArray, List.set_cons_zero, List.set_cons_succ]
    refine wpAnyH_take (i := 3) (v := ?v3) (by simp only [List.getElem?_toArray, List.getElem?_cons_succ, List.getElem?_cons_zero]; rfl) (by kernel_rfl) (by kernel_rfl) (by kernel_rfl) (by exact fun _ _ _ h => h) (Or.inl ⟨by rfl, fun w9 hS9 => ?hy3⟩) hHeld ?rest3
    case hy3 =>
      dsimp only at hS9
      obtain ⟨hs0, hs1⟩ := hS9
      go_simp
      try with_reducible rfl
    try simp only [Act.put, List.setIfInBounds_toArray, List.set_cons_zero, List.set_cons_succ]
    refine wpAnyH_ready (rs := [0]) (by kernel_rfl) (by simp) (AllReadyH.cons (by simp only [List.getElem?_toArray, List.getElem?_cons_succ, List.getElem?_cons_zero]; rfl) (fun K hK => ?_) AllReadyH.nil)
    go_simp
    refine (partTag _).mono ?_
    rintro e w1 ⟨rfl, hb1⟩
    have HB1 : Hid (Below W0.heap.size W0 w1) := Lib.hid (HBd.out.trans (hb1.mono HBd.out.size))
    clear hb1
    go_wp2_with fail
    refine hK.out _ _ ⟨cell_stay C0.out HB1.out, cell_stay C1.out HB1.out⟩ (fun hHeld => ?_)
    clear hK K
    try simp only [Act.put, List.setIfInBounds_toArray, List.set_cons_zero, List.set_cons_succ]
    refine wpAnyH_ready (rs := [4]) (by kernel_rfl) (by simp) (AllReadyH.cons (by simp only [List.getElem?_toArray, List.getElem?_cons_succ, List.getElem?_cons_zero]; rfl) (fun K hK => ?_) AllReadyH.nil)
    go_simp
    refine (KT.out _).mono ?_
    rintro e w2 ⟨rfl, hb2⟩
    have HB2 : Hid (Below W0.heap.size W0 w2) := Lib.hid (HB1.out.trans (hb2.mono HB1.out.size))
    clear hb2
    go_wp2_with fail
    refine hK.out _ _ ⟨cell_stay C0.out HB2.out, cell_stay C1.out HB2.out⟩ (fun hHeld => ?_)
    clear hK K
    try simp only [Act.put, List.setIfInBounds_toArray, List.set_cons_zero, List.set_cons_succ]
    refine wpAnyH_take (i := 5) (v := ?v4) (by simp only [List.getElem?_toArray, List.getElem?_cons_succ, List.getElem?_cons_zero]; rfl) (by kernel_rfl) (by kernel_rfl) (by kernel_rfl) (by exact fun _ _ _ h => h) (Or.inl ⟨by rfl, fun w9 hS9 => ?hy4⟩) hHeld ?rest4
    case hy4 =>
      dsimp only at hS9
      obtain ⟨hs0, hs1⟩ := hS9
      go_simp
      try with_reducible rfl
    try simp only [Act.put, List.setIfInBounds_toArray, List.set_cons_zero, List.set_cons_succ]
    refine wpAnyH_take (i := 7) (v := ?v5) (by simp only [List.getElem?_toArray, List.getElem?_cons_succ, List.getElem?_cons_zero]; rfl) (by kernel_rfl) (by kernel_rfl) (by kernel_rfl) (by exact fun _ _ _ h => h) (Or.inl ⟨by rfl, fun w9 hS9 => ?hy5⟩) hHeld ?rest5
    case hy5 =>
      dsimp only at hS9
      obtain ⟨hs0, hs1⟩ := hS9
      go_simp
      try with_reducible rfl
    try simp only [Act.put, List.setIfInBounds_toArray, List.set_cons_zero, List.set_cons_succ]
    refine wpAnyH_take (i := 8) (v := ?v6) (by simp only [List.getElem?_toArray, List.getElem?_cons_succ, List.getElem?_cons_zero]; rfl) (by kernel_rfl) (by kernel_rfl) (by kernel_rfl) (by exact fun _ _ _ h => h) (Or.inl ⟨by rfl, fun w9 hS9 => ?hy6⟩) hHeld ?rest6
    case hy6 =>
      dsimp only at hS9
      obtain ⟨hs0, hs1⟩ := hS9
      go_simp
      try with_reducible rfl
    try simp only [Act.put, List.setIfInBounds_toArray, List.set_cons_zero, List.set_cons_succ]
    refine wpAnyH_take (i := 9) (v := ?v7) (by simp only [List.getElem?_toArray, List.getElem?_cons_succ, List.getElem?_cons_zero]; rfl) (by kernel_rfl) (by kernel_rfl) (by kernel_rfl) (by exact fun _ _ _ h => h) (Or.inl ⟨by rfl, fun w9 hS9 => ?hy7⟩) hHeld ?rest7
    case hy7 =>
      dsimp only at hS9
      obtain ⟨hs0, hs1⟩ := hS9
      go_simp
      try with_reducible rfl
    try simp only [Act.put, List.setIfInBounds_toArray, List.set_cons_zero, List.set_cons_succ]
    refine wpAnyH_ready (rs := [6]) (by kernel_rfl) (by simp) (AllReadyH.cons (by simp only [List.getElem?_toArray, List.getElem?_cons_succ, List.getElem?_cons_zero]; rfl) (fun K hK => ?_) AllReadyH.nil)
    go_simp
    refine (partBody _).mono ?_
    rintro e w3 ⟨rfl, hb3⟩
    have HB3 : Hid (Below W0.heap.size W0 w3) := Lib.hid (HB2.out.trans (hb3.mono HB2.out.size))
    clear hb3
    go_wp2_with fail
    refine hK.out _ _ ⟨cell_stay C0.out HB3.out, cell_stay C1.out HB3.out⟩ (fun hHeld => ?_)
    clear hK K
    try simp only [Act.put, List.setIfInBounds_toArray, List.set_cons_zero, List.set_cons_succ]
    refine wpAnyH_ready (rs := [10]) (by kernel_rfl) (by simp) (AllReadyH.cons (by simp only [List.getElem?_toArray, List.getElem?_cons_succ, List.getElem?_cons_zero]; rfl) (fun K hK => ?_) AllReadyH.nil)
    go_simp
    refine (KB.out _ HB3.out).mono ?_
    rintro e w4 ⟨rfl, hb4⟩
    have HB4 : Hid (Below W0.heap.size W0 w4) := Lib.hid (HB3.out.trans (hb4.mono HB3.out.size))
    clear hb4
    go_wp2_with fail
    refine hK.out _ _ ⟨cell_stay C0.out HB4.out, cell_stay C1.out HB4.out⟩ (fun hHeld => ?_)
    clear hK K
    try simp only [Act.put, List.setIfInBounds_toArray, List.set_cons_zero, List.set_cons_succ]
    refine wpAnyH_take (i := 11) (v := ?v8) (by simp only [List.getElem?_toArray, List.getElem?_cons_succ, List.getElem?_cons_zero]; rfl) (by kernel_rfl) (by kernel_rfl) (by kernel_rfl) (by exact fun _ _ _ h => h) (Or.inl ⟨by rfl, fun w9 hS9 => ?hy8⟩) hHeld ?rest8
    case hy8 =>
      dsimp only at hS9
      obtain ⟨hs0, hs1⟩ := hS9
      go_simp
      try with_reducible rfl
    try simp only [Act.put, List.setIfInBounds_toArray, List.set_cons_zero, List.set_cons_succ]
    refine wpAnyH_take (i := 12) (v := ?v9) (by simp only [List.getElem?_toArray, List.getElem?_cons_succ, List.getElem?_cons_zero]; rfl) (by kernel_rfl) (by kernel_rfl) (by kernel_rfl) (by exact fun _ _ _ h => h) (Or.inl ⟨by rfl, fun w9 hS9 => ?hy9⟩) hHeld ?rest9
    case hy9 =>
      dsimp only at hS9
      obtain ⟨hs0, hs1⟩ := hS9
      go_simp
      try with_reducible rfl
    try simp only [Act.put, List.setIfInBounds_toArray, List.set_cons_zero, List.set_cons_succ]
    refine wpAnyH_done (by kernel_rfl) ?_ _
    go_wp2_with fail
    go_ret
    exact ⟨rfl, HB0.out.trans (HB4.out.mono HB0.out.size)⟩
  · have e1 : okX ⟨k, y⟩ = false := by unfold okX; dsimp only; rw [decide_eq_false hk]; rfl
    have KT := Lib.hid (fun w0 => fits_t (c := 0) ((fitsT k).trans (decide_eq_false hk)) w0 (Nums.none (a := none)))
    rw [e1]
    clear e1 hk
    go_enter Tryz.func100, Tryz.ntmps100
    go_wp2_with fail
    generalize w.alloc (.cells #[.int .i64 k, .slice p m c] 125) = W0 at *
    have HBd : Hid (Below W0.heap.size W0 W0.drew) := Lib.hid (Below.refl _ _).drew
    refine wp_region_held_drew (S := fun w9 => w9.cell? ⟨w.heap.size, 0, none⟩ = some (.int .i64 k) ∧ w9.cell? ⟨w.heap.size, 1, none⟩ = some (.slice p m c)) (by kernel_rfl) ⟨cell_stay C0.out HBd.out, cell_stay C1.out HBd.out⟩ (fun hHeld => ?_)
    refine wpAnyH_take (i := 1) (v := ?v10) (by simp only [List.getElem?_toArray, List.getElem?_cons_succ, List.getElem?_cons_zero]; rfl) (by kernel_rfl) (by kernel_rfl) (by kernel_rfl) (by exact fun _ _ _ h => h) (Or.inl ⟨by rfl, fun w9 hS9 => ?hy10⟩) hHeld ?rest10
    case hy10 =>
      dsimp only at hS9
      obtain ⟨hs0, hs1⟩ := hS9
      go_simp
      try with_reducible rfl
    try simp only [Act.put, List.setIfInBounds_toArray, List.set_cons_zero, List.set_cons_succ]
    refine wpAnyH_take (i := 2) (v := ?v11) (by simp only [List.getElem?_toArray, List.getElem?_cons_succ, List.getElem?_cons_zero]; rfl) (by kernel_rfl) (by kernel_rfl) (by kernel_rfl) (by exact fun _ _ _ h => h) (Or.inl ⟨by rfl, fun w9 hS9 => ?hy11⟩) hHeld ?rest11
    case hy11 =>
      dsimp only at hS9
      obtain ⟨hs0, hs1⟩ := hS9
      go_simp
      try with_reducible rfl
    try simp only [Act.put, List.setIfInBounds_toArray, List.set_cons_zero, List.set_cons_succ]
    refine wpAnyH_take (i := 3) (v := ?v12) (by simp only [List.getElem?_toArray, List.getElem?_cons_succ, List.getElem?_cons_zero]; rfl) (by kernel_rfl) (by kernel_rfl) (by kernel_rfl) (by exact fun _ _ _ h => h) (Or.inl ⟨by rfl, fun w9 hS9 => ?hy12⟩) hHeld ?rest12
    case hy12 =>
      dsimp only at hS9
      obtain ⟨hs0, hs1⟩ := hS9
      go_simp
      try with_reducible rfl
    try simp only [Act.put, List.setIfInBounds_toArray, List.set_cons_zero, List.set_cons_succ]
    refine wpAnyH_ready (rs := [0]) (by kernel_rfl) (by simp) (AllReadyH.cons (by simp only [List.getElem?_toArray, List.getElem?_cons_succ, List.getElem?_cons_zero]; rfl) (fun K hK => ?_) AllReadyH.nil)
    go_simp
    refine (partTag _).mono ?_
    rintro e w1 ⟨rfl, hb1⟩
    have HB1 : Hid (Below W0.heap.size W0 w1) := Lib.hid (HBd.out.trans (hb1.mono HBd.out.size))
    clear hb1
    go_wp2_with fail
    refine hK.out _ _ ⟨cell_stay C0.out HB1.out, cell_stay C1.out HB1.out⟩ (fun hHeld => ?_)
    clear hK K
    try simp only [Act.put, List.setIfInBounds_toArray, List.set_cons_zero, List.set_cons_succ]
    refine wpAnyH_ready (rs := [4]) (by kernel_rfl) (by simp) (AllReadyH.cons (by simp only [List.getElem?_toArray, List.getElem?_cons_succ, List.getElem?_cons_zero]; rfl) (fun K hK => ?_) AllReadyH.nil)
    go_simp
    refine (KT.out _).mono ?_
    rintro e w2 ⟨rfl, hb2⟩
    have HB2 : Hid (Below W0.heap.size W0 w2) := Lib.hid (HB1.out.trans (hb2.mono HB1.out.size))
    clear hb2
    go_wp2_with fail
    refine hK.out _ _ ⟨cell_stay C0.out HB2.out, cell_stay C1.out HB2.out⟩ (fun hHeld => ?_)
    clear hK K
    try simp only [Act.put, List.setIfInBounds_toArray, List.set_cons_zero, List.set_cons_succ]
    refine wpAnyH_take (i := 5) (v := ?v13) (by simp only [List.getElem?_toArray, List.getElem?_cons_succ, List.getElem?_cons_zero]; rfl) (by kernel_rfl) (by kernel_rfl) (by kernel_rfl) (by exact fun _ _ _ h => h) (Or.inl ⟨by rfl, fun w9 hS9 => ?hy13⟩) hHeld ?rest13
    case hy13 =>
      dsimp only at hS9
      obtain ⟨hs0, hs1⟩ := hS9
      go_simp
      try with_reducible rfl
    try simp only [Act.put, List.setIfInBounds_toArray, List.set_cons_zero, List.set_cons_succ]
    refine wpAnyH_take (i := 6) (v := undef) (by simp only [List.getElem?_toArray, List.getElem?_cons_succ, List.getElem?_cons_zero]; rfl) (by kernel_rfl) (by kernel_rfl) (by kernel_rfl) (by exact fun _ _ _ h => h) (Or.inr ⟨by rfl, rfl⟩) hHeld ?_
    try simp only [Act.put, List.setIfInBounds_toArray, List.set_cons_zero, List.set_cons_succ]
    refine wpAnyH_take (i := 7) (v := undef) (by simp only [List.getElem?_toArray, List.getElem?_cons_succ, List.getElem?_cons_zero]; rfl) (by kernel_rfl) (by kernel_rfl) (by kernel_rfl) (by exact fun _ _ _ h => h) (Or.inr ⟨by rfl, rfl⟩) hHeld ?_
    try simp only [Act.put, List.setIfInBounds_toArray, List.set_cons_zero, List.set_cons_succ]
    refine wpAnyH_take (i := 8) (v := undef) (by simp only [List.getElem?_toArray, List.getElem?_cons_succ, List.getElem?_cons_zero]; rfl) (by kernel_rfl) (by kernel_rfl) (by kernel_rfl) (by exact fun _ _ _ h => h) (Or.inr ⟨by rfl, rfl⟩) hHeld ?_
    try simp only [Act.put, List.setIfInBounds_toArray, List.set_cons_zero, List.set_cons_succ]
    refine wpAnyH_take (i := 9) (v := undef) (by simp only [List.getElem?_toArray, List.getElem?_cons_succ, List.getElem?_cons_zero]; rfl) (by kernel_rfl) (by kernel_rfl) (by kernel_rfl) (by exact fun _ _ _ h => h) (Or.inr ⟨by rfl, rfl⟩) hHeld ?_
    try simp only [Act.put, List.setIfInBounds_toArray, List.set_cons_zero, List.set_cons_succ]
    refine wpAnyH_take (i := 10) (v := undef) (by simp only [List.getElem?_toArray, List.getElem?_cons_succ, List.getElem?_cons_zero]; rfl) (by kernel_rfl) (by kernel_rfl) (by kernel_rfl) (by exact fun _ _ _ h => h) (Or.inr ⟨by rfl, rfl⟩) hHeld ?_
    try simp only [Act.put, List.setIfInBounds_toArray, List.set_cons_zero, List.set_cons_succ]
    refine wpAnyH_take (i := 11) (v := ?v19) (by simp only [List.getElem?_toArray, List.getElem?_cons_succ, List.getElem?_cons_zero]; rfl) (by kernel_rfl) (by kernel_rfl) (by kernel_rfl) (by exact fun _ _ _ h => h) (Or.inl ⟨by rfl, fun w9 hS9 => ?hy19⟩) hHeld ?rest19
    case hy19 =>
      dsimp only at hS9
      obtain ⟨hs0, hs1⟩ := hS9
      go_simp
      try with_reducible rfl
    try simp only [Act.put, List.setIfInBounds_toArray, List.set_cons_zero, List.set_cons_succ]
    refine wpAnyH_take (i := 12) (v := ?v20) (by simp only [List.getElem?_toArray, List.getElem?_cons_succ, List.getElem?_cons_zero]; rfl) (by kernel_rfl) (by kernel_rfl) (by kernel_rfl) (by exact fun _ _ _ h => h) (Or.inl ⟨by rfl, fun w9 hS9 => ?hy20⟩) hHeld ?rest20
    case hy20 =>
      dsimp only at hS9
      obtain ⟨hs0, hs1⟩ := hS9
      go_simp
      try with_reducible rfl
    try simp only [Act.put, List.setIfInBounds_toArray, List.set_cons_zero, List.set_cons_succ]
    refine wpAnyH_done (by kernel_rfl) ?_ _
    go_wp2_with fail
    go_ret
    exact ⟨rfl, HB0.out.trans (HB2.out.mono HB0.out.size)⟩
end Go.Proofs.YtcmjadfpifpknaaGreat
namespace Go.Proofs.YtcmjadfpifpknaaGreat
open Go.ChangeShapes Go.WideShapes Go.ChangeAt Go.RowKit
set_option linter.unusedVariables false

theorem okX_stop {l : List Vl} {j : Nat} {x : Vl} (hx : l[j]? = some x) (h : okX x = false) : areX l = false := by
  cases e : areX l with
  | false => rfl
  | true =>
    have := (areX_parts.1 e).2.1 x (List.mem_of_getElem? hx)
    rw [h] at this
    cases this
theorem areX_long {l : List Vl} (h : 6 < l.length) : areX l = false := by
  cases e : areX l with
  | false => rfl
  | true =>
    have := (areX_parts.1 e).1
    omega
theorem areX_all {l : List Vl} (h1 : l.length ≤ 6) (h2 : ∀ x ∈ l, okX x = true) : areX l = decide (tagsX l).Nodup := by
  by_cases h : (tagsX l).Nodup
  · rw [decide_eq_true h, areX_parts]; exact ⟨h1, h2, h⟩
  · rw [decide_eq_false h]
    cases e : areX l with
    | false => rfl
    | true => exact absurd (areX_parts.1 e).2.2 h
theorem tags_wf {l : List Vl} (h : ∀ x ∈ l, okX x = true) : ∀ z ∈ tagsX l, (Lit.int .i64 z).wf = true := by
  intro z hz
  obtain ⟨x, hx, rfl⟩ := List.mem_map.1 hz
  have := okX_tag (h x hx)
  exact WalkArith.wf_i64 (by omega)
theorem size_nodup (zs : List Int) : ((Maps.size (pl 0 zs) : Int) == (zs.length : Int)) = decide zs.Nodup := by
  have := pl_size 0 zs
  by_cases h : zs.Nodup
  · rw [decide_eq_true h, this.2 h]; simp
  · rw [decide_eq_false h]
    have h2 : ¬ Maps.size (pl 0 zs) = zs.length := fun e => h (this.1 e)
    simp
    omega
set_option maxHeartbeats 2000000 in
set_option maxRecDepth 100000 in
theorem areExts_any {a : Option Addr} {n c : Nat} {l : List Vl} {w : World} (h : Vals w a n l) :
    Calls Tryz.prog 54 #[.slice a n c] w (Told (.bool (areX l)) w) := by
  have H := Lib.hid h
  have hln := Lib.hid h.len
  have hfit := h.fits
  have hl := h.len
  clear h
  by_cases h6 : 6 < n
  · rw [areX_long (by omega)]
    clear hl
    go_enter Tryz.func54, Tryz.ntmps54
    go_wp2
    go_ret
    exact ⟨rfl, Below.refl _ _⟩
  · clear hl
    go_enter Tryz.func54, Tryz.ntmps54
    go_wp2_with fail
    go_loopw [10] (fun i wr => ∃ j : Nat, j ≤ n ∧ i = .int .i64 j ∧ (∀ x ∈ l.take j, okX x = true) ∧ Below w.heap.size w wr) (fun i _ => n - (intOf i).toNat)
    case atStart => exact ⟨0, Nat.zero_le _, rfl, by simp, Below.refl _ _⟩
    case round =>
      obtain ⟨j, hj, rfl, hok, hb⟩ := hrel
      have HB := Lib.hid hb
      have HK := Lib.hid hok
      clear hb hok
      by_cases hlt : j < n
      · obtain ⟨b, o, p, m, e, k, y, rfl, hx, hc0, hc1, hN, hr⟩ := (H.out.same HB.out).at_ hlt
        have HX := Lib.hid hx
        have HW : Hid (Below wr.heap.size wr (wr.alloc (.cells #[.int .i64 k, .slice p m e] 125))) := Lib.hid (alloc_same _ _)
        have KX := Lib.hid (isExt_any k p m e y _ (hN.same HW.out))
        clear hx hN
        cases hv : okX ⟨k, y⟩ with
        | true =>
          rw [hv] at KX
          have HV := Lib.hid hv
          clear hv
          go_wp2_with fail
          refine KX.out.mono ?_
          rintro e w3 ⟨rfl, hb3⟩
          have HB3 := Lib.hid ((HB.out.trans (HW.out.mono HB.out.size)).trans (hb3.mono (Nat.le_trans HB.out.size HW.out.size)))
          clear hb3 hc0 hc1 KX
          go_wp2_with fail
          go_roundw
          case rel =>
            refine ⟨j + 1, by omega, by go_num, fun x hx => ?_, HB3.out⟩
            rw [List.take_add_one, HX.out] at hx
            rcases List.mem_append.1 hx with q | q
            · exact HK.out x q
            · have : x = ⟨k, y⟩ := by simpa using q
              rw [this]; exact HV.out
          case measure => simp [intOf]; omega
        | false =>
          rw [hv] at KX
          rw [okX_stop HX.out hv]
          clear hv
          go_wp2_with fail
          refine KX.out.mono ?_
          rintro e w3 ⟨rfl, hb3⟩
          have HB3 := Lib.hid ((HB.out.trans (HW.out.mono HB.out.size)).trans (hb3.mono (Nat.le_trans HB.out.size HW.out.size)))
          clear hb3 hc0 hc1 KX
          go_wp2_with fail
          go_ret
          exact ⟨rfl, HB3.out⟩
      · obtain rfl : j = n := by omega
        have hall : ∀ x ∈ l, okX x = true := by
          have := HK.out
          rwa [List.take_of_length_le (by rw [hln.out]; omega)] at this
        have HE : Hid (areX l = ((Maps.size (pl 0 (tagsX l)) : Int) == (j : Int))) := Lib.hid (by rw [areX_all (by rw [hln.out]; omega) hall, ← size_nodup, tagsX_len, hln.out])
        have HT := Lib.hid (tagsOf_any (c := c) (H.out.same HB.out) (by omega))
        have HZ := Lib.hid (tags_wf hall)
        have HTL : Hid ((tagsX l).length = j) := Lib.hid (by rw [tagsX_len]; exact hln.out)
        clear hall
        unfold Made at HT
        go_wp2_with fail
        refine HT.out.mono ?_
        rintro e w3 ⟨q, qn, d, rfl, ho, hb3⟩
        have hq : qn = j := by rw [← ho.len]; exact HTL.out
        subst hq
        have HB3 := Lib.hid (HB.out.trans (hb3.mono HB.out.size))
        have HP := Lib.hid (placesOf_any q qn d (tagsX l) w3 ho.nums HZ.out (by omega))
        clear ho hb3 HT
        go_wp2_with fail
        refine HP.out.mono ?_
        rintro e w4 ⟨rfl, hown, hb4⟩
        have HB4 := Lib.hid (HB3.out.trans (hb4.mono HB3.out.size))
        clear hb4 HP
        go_wp2_with (at_len; refine wpList_len_own _ rfl _ 127 rfl 3 3 Tryz.underlying127 _ w3.heap.size qn (pl 0 (tagsX l)) rfl hown ?_)
        go_ret
        exact ⟨by rw [HE.out]; rfl, HB4.out⟩
end Go.Proofs.YtcmjadfpifpknaaGreat
namespace Go.Proofs.YtcmjadfpifpknaaGreat
open Go.ChangeShapes Go.WideShapes Go.ChangeAt Go.RowKit
set_option linter.unusedVariables false

theorem infoValueS : (Tryz.prog.info? 160).map (fun i => (i.zero, i.size, i.bytes)) = some (some (.agg #[.int .i64 0, .slice none 0 0]), 2, 32) := by kernel_rfl

/-- What is left of a bound. -/
def leftOf (left : Int) (n : Nat) : Int := if (n : Int) ≤ left then left - n else -1
set_option maxRecDepth 100000 in
theorem szIntS_any (a : Option Addr) (n c : Nat) (left : Int) (w : World) (hn : (n : Int) ≤ 9223372036854775807) (h0 : 0 ≤ left) (hl : left ≤ 1048576) :
    Calls Tryz.prog 65 #[.slice a n c, .int .i64 left] w fun e w' => e = .returned (.int .i64 (leftOf left n)) ∧ w = w' := by
  by_cases h : (n : Int) ≤ left
  · have e : leftOf left n = left - n := if_pos h
    rw [e]
    go_enter Tryz.func65, Tryz.ntmps65
    go_wp2
    go_ret
    exact ⟨rfl, rfl⟩
  · have e : leftOf left n = -1 := if_neg h
    rw [e]
    go_enter Tryz.func65, Tryz.ntmps65
    go_wp2
    go_ret
    exact ⟨rfl, rfl⟩
theorem put_step {l : List Vl} {j n : Nat} {x : Vl} (hj : l[j]? = some x) (hn : l.length = n) : (l.take j ++ List.replicate (n - j) (⟨0, []⟩ : Vl)).set j x = l.take (j + 1) ++ List.replicate (n - (j + 1)) (⟨0, []⟩ : Vl) := by
  have hlt : j < l.length := lt_of_some hj
  have hl : (l.take j).length = j := by rw [List.length_take]; omega
  rw [List.set_append_right _ _ (by omega), hl, Nat.sub_self, show n - j = (n - (j + 1)) + 1 by omega, List.replicate_succ, List.set_cons_zero, List.take_add_one, hj]
  simp
end Go.Proofs.YtcmjadfpifpknaaGreat
namespace Go.Proofs.YtcmjadfpifpknaaGreat
open Go.ChangeShapes Go.WideShapes Go.ChangeAt Go.RowKit
set_option linter.unusedVariables false

theorem infoExtS : (Tryz.prog.info? 125).map (fun i => (i.zero, i.size, i.bytes)) = some (some (.agg #[.int .i64 0, .slice none 0 0]), 2, 32) := by kernel_rfl
set_option maxRecDepth 100000 in
theorem szExt_any (k : Int) (a : Option Addr) (n c : Nat) (left : Int) (w : World) (hn : (n : Int) ≤ 9223372036854775807) (h0 : 0 ≤ left) (hl : left ≤ 1048576) :
    Calls Tryz.prog 109 #[.agg #[.int .i64 k, .slice a n c], .int .i64 left] w (Told (.int .i64 (leftOf left n)) w) := by
  by_cases h : (n : Int) ≤ left
  · have e : leftOf left n = left - n := if_pos h
    have K := Lib.hid (fun w' => szIntS_any a n c left w' hn h0 hl)
    rw [e] at K ⊢
    clear e
    go_enter Tryz.func109, Tryz.ntmps109
    go_wp2_with fail
    refine (K.out _).mono ?_
    rintro e w1 ⟨rfl, rfl⟩
    go_wp2_with fail
    go_ret
    exact ⟨rfl, (Below.refl _ w).alloc (Nat.le_refl _) _⟩
  · have e : leftOf left n = -1 := if_neg h
    have K := Lib.hid (fun w' => szIntS_any a n c left w' hn h0 hl)
    rw [e] at K ⊢
    clear e
    go_enter Tryz.func109, Tryz.ntmps109
    go_wp2_with fail
    refine (K.out _).mono ?_
    rintro e w1 ⟨rfl, rfl⟩
    go_wp2_with fail
    go_ret
    exact ⟨rfl, (Below.refl _ w).alloc (Nat.le_refl _) _⟩
set_option maxRecDepth 100000 in
theorem szExtS_yes (a : Option Addr) (n c : Nat) (l : List Vl) (left : Int) (w : World) (h : Vals w a n l) (hl : left ≤ 1048576) (hs : (n : Int) + itemsOf l ≤ left) :
    Calls Tryz.prog 66 #[.slice a n c, .int .i64 left] w (Told (.int .i64 (left - n - itemsOf l)) w) := by
  have H := Lib.hid h
  have hln := Lib.hid h.len
  clear h
  go_enter Tryz.func66, Tryz.ntmps66
  go_wp2_with fail
  go_loopw [1, 5] (fun q i wr => ∃ j : Nat, j ≤ n ∧ i = .int .i64 j ∧ q = .int .i64 (left - n - itemsOf (l.take j)) ∧ Below w.heap.size w wr) (fun _ i _ => n - (intOf i).toNat)
  case atStart => exact ⟨0, Nat.zero_le _, rfl, by simp [itemsOf], Below.refl _ _⟩
  case round =>
    obtain ⟨j, hj, rfl, rfl, hb⟩ := hrel
    have HB := Lib.hid hb
    clear hb
    by_cases hlt : j < n
    · obtain ⟨b, o, p, m, d, k, y, rfl, hx, hc0, hc1, hN, hr⟩ := (H.out.same HB.out).at_ hlt
      have hst := itemsOf_at hx
      have hle := itemsOf_le l (j + 1)
      have hym := hN.len
      dsimp only at hst
      have hlo : leftOf (left - n - itemsOf (l.take j)) m = left - n - itemsOf (l.take (j + 1)) := by
        unfold leftOf
        rw [if_pos (by omega)]
        omega
      have HL := Lib.hid hlo
      clear hx hN hlo
      go_wp2_with fail
      refine (szExt_any k p m d _ _ (by omega) (by omega) (by omega)).mono ?_
      rw [HL.out]
      rintro e w2 ⟨rfl, hb2⟩
      have HB2 := Lib.hid (HB.out.trans (hb2.mono HB.out.size))
      clear hb2 hc0 hc1
      go_wp2_with fail
      go_roundw
      case rel => exact ⟨j + 1, by omega, by go_num, by congr 1; omega, HB2.out⟩
      case measure => simp [intOf]; omega
    · obtain rfl : j = n := by omega
      go_wp2_with fail
      go_ret
      rw [List.take_of_length_le (by rw [hln.out]; omega)]
      exact ⟨rfl, HB.out⟩
set_option maxRecDepth 100000 in
theorem szExtS_no (a : Option Addr) (n c : Nat) (l : List Vl) (left : Int) (w : World) (h : Vals w a n l) (h0 : 0 ≤ left) (hl : left ≤ 1048576) (hs : left < (n : Int) + itemsOf l) :
    Calls Tryz.prog 66 #[.slice a n c, .int .i64 left] w (Told (.int .i64 (-1)) w) := by
  have H := Lib.hid h
  have hln := Lib.hid h.len
  have hfit := h.fits
  clear h
  by_cases hn : (n : Int) ≤ left
  · go_enter Tryz.func66, Tryz.ntmps66
    go_wp2_with fail
    go_loopw [1, 5] (fun q i wr => ∃ j : Nat, j ≤ n ∧ i = .int .i64 j ∧ q = .int .i64 (left - n - itemsOf (l.take j)) ∧ (n : Int) + itemsOf (l.take j) ≤ left ∧ Below w.heap.size w wr) (fun _ i _ => n - (intOf i).toNat)
    case atStart => exact ⟨0, Nat.zero_le _, rfl, by simp [itemsOf], by simp [itemsOf]; omega, Below.refl _ _⟩
    case round =>
      obtain ⟨j, hj, rfl, rfl, hin, hb⟩ := hrel
      have HB := Lib.hid hb
      clear hb
      by_cases hlt : j < n
      · obtain ⟨b, o, p, m, d, k, y, rfl, hx, hc0, hc1, hN, hr⟩ := (H.out.same HB.out).at_ hlt
        have hst := itemsOf_at hx
        have hym := hN.len
        dsimp only at hst
        clear hx hN
        by_cases hm : (m : Int) ≤ left - n - itemsOf (l.take j)
        · have hlo : leftOf (left - n - itemsOf (l.take j)) m = left - n - itemsOf (l.take (j + 1)) := by
            unfold leftOf
            rw [if_pos (by omega)]
            omega
          have HL := Lib.hid hlo
          clear hlo
          go_wp2_with fail
          refine (szExt_any k p m d _ _ (by omega) (by omega) (by omega)).mono ?_
          rw [HL.out]
          rintro e w2 ⟨rfl, hb2⟩
          have HB2 := Lib.hid (HB.out.trans (hb2.mono HB.out.size))
          clear hb2 hc0 hc1
          go_wp2_with fail
          go_roundw
          case rel => exact ⟨j + 1, by omega, by go_num, by congr 1; omega, by omega, HB2.out⟩
          case measure => simp [intOf]; omega
        · have hlo : leftOf (left - n - itemsOf (l.take j)) m = -1 := if_neg hm
          have HL := Lib.hid hlo
          clear hlo
          go_wp2_with fail
          refine (szExt_any k p m d _ _ (by omega) (by omega) (by omega)).mono ?_
          rw [HL.out]
          rintro e w2 ⟨rfl, hb2⟩
          have HB2 := Lib.hid (HB.out.trans (hb2.mono HB.out.size))
          clear hb2 hc0 hc1
          go_wp2_with fail
          go_ret
          exact ⟨rfl, HB2.out⟩
      · exfalso
        obtain rfl : j = n := by omega
        rw [List.take_of_length_le (by rw [hln.out]; omega)] at hin
        omega
  · go_enter Tryz.func66, Tryz.ntmps66
    go_wp2_with fail
    go_ret
    exact ⟨rfl, Below.refl _ _⟩
set_option maxRecDepth 100000 in
theorem toExt_any (k : Int) (a : Option Addr) (n c : Nat) (y : List Int) (w : World) (h : Nums .i64 w a n y) (hn : n ≤ 1048576000) :
    Calls Tryz.prog 125 #[.agg #[.int .i64 k, .slice a n c]] w fun e w' => ∃ q m d, e = .returned (.agg #[.int .i64 k, .slice q m d]) ∧ Own .i64 3 w' w.heap.size q m d y ∧ Below w.heap.size w w' := by
  have H := Lib.hid h
  clear h
  go_enter Tryz.func125, Tryz.ntmps125
  go_wp2_with fail
  have HW0 : Hid (Below w.heap.size w (((w.alloc (.cells #[.int .i64 k, .slice a n c] 137)).alloc (.cells #[.int .i64 0, .slice none 0 0] 125)).alloc (.cells #[.int .i64 k, .slice none 0 0] 125))) := Lib.hid ((((Below.refl _ w).alloc (Nat.le_refl _) _).alloc (by simp) _).alloc (by simp; omega) _)
  have hL : (((w.alloc (.cells #[.int .i64 k, .slice a n c] 137)).alloc (.cells #[.int .i64 0, .slice none 0 0] 125)).alloc (.cells #[.int .i64 k, .slice none 0 0] 125)).heap[w.heap.size + 1 + 1]? = some (.cells #[.int .i64 k, .slice none 0 0] 125 (0, 0)) := by
    have := heap_alloc_new ((w.alloc (.cells #[.int .i64 k, .slice a n c] 137)).alloc (.cells #[.int .i64 0, .slice none 0 0] 125)) (.cells #[.int .i64 k, .slice none 0 0] 125 (0, 0))
    simpa using this
  have hM : (((w.alloc (.cells #[.int .i64 k, .slice a n c] 137)).alloc (.cells #[.int .i64 0, .slice none 0 0] 125)).alloc (.cells #[.int .i64 k, .slice none 0 0] 125)).heap[w.heap.size + 1]? = some (.cells #[.int .i64 0, .slice none 0 0] 125 (0, 0)) := by
    rw [Below.heap_alloc _ _ _ (by simp)]
    have := heap_alloc_new (w.alloc (.cells #[.int .i64 k, .slice a n c] 137)) (.cells #[.int .i64 0, .slice none 0 0] 125 (0, 0))
    simpa using this
  have hsz : w.heap.size + 3 = (((w.alloc (.cells #[.int .i64 k, .slice a n c] 137)).alloc (.cells #[.int .i64 0, .slice none 0 0] 125)).alloc (.cells #[.int .i64 k, .slice none 0 0] 125)).heap.size := by simp
  generalize (((w.alloc (.cells #[.int .i64 k, .slice a n c] 137)).alloc (.cells #[.int .i64 0, .slice none 0 0] 125)).alloc (.cells #[.int .i64 k, .slice none 0 0] 125)) = W0 at *
  refine (toIntS_any a n c y _ (H.out.same HW0.out) hn).mono ?_
  rintro e w1 ⟨q, m, d, rfl, ho, hb⟩
  have hL1 : w1.heap[w.heap.size + 1 + 1]? = some (.cells #[.int .i64 k, .slice none 0 0] 125 (0, 0)) := by rw [hb.block _ (by omega)]; exact hL
  have hM1 : w1.heap[w.heap.size + 1]? = some (.cells #[.int .i64 0, .slice none 0 0] 125 (0, 0)) := by rw [hb.block _ (by omega)]; exact hM
  have hL2 := heap_setCell_same w1 (w.heap.size + 1 + 1) 1 _ _ (.slice q m d) hL1
  have c0 := (block_cell hL1 0).trans rfl
  have c1 := (block_cell hL1 1).trans rfl
  have f1 := block_frozen hL1 1
  have d0 := (block_cell hL2 0).trans rfl
  have d1 := (block_cell hL2 1).trans rfl
  have g0 := block_frozen hM1 0
  have g1 := block_frozen hM1 1
  have m0 := (block_cell hM1 0).trans rfl
  have m1 := (block_cell hM1 1).trans rfl
  have HB1 := Lib.hid (HW0.out.trans (hb.mono HW0.out.size))
  have HO := Lib.hid (ho.lower HW0.out.size)
  have HSP := Lib.hid ho.span
  have hM2 : (w1.setCell ⟨w.heap.size + 1 + 1, 1, none⟩ (.slice q m d)).heap[w.heap.size + 1]? = some (.cells #[.int .i64 0, .slice none 0 0] 125 (0, 0)) := by rw [Below.heap_setCell _ _ _ _ (by dsimp only; omega)]; exact hM1
  have hM3 := heap_setCell_same _ (w.heap.size + 1) 0 _ _ (.int .i64 k) hM2
  have hM4 := heap_setCell_same _ (w.heap.size + 1) 1 _ _ (.slice q m d) hM3
  have z0 : ((w1.setCell ⟨w.heap.size + 1 + 1, 1, none⟩ (.slice q m d)).setCell ⟨w.heap.size + 1, 0, none⟩ (.int .i64 k)).cell? ⟨w.heap.size + 1, 0, none⟩ = some (.int .i64 k) := (block_cell hM3 0).trans rfl
  have z1 : (((w1.setCell ⟨w.heap.size + 1 + 1, 1, none⟩ (.slice q m d)).setCell ⟨w.heap.size + 1, 0, none⟩ (.int .i64 k)).setCell ⟨w.heap.size + 1, 1, none⟩ (.slice q m d)).cell? ⟨w.heap.size + 1, 1, none⟩ = some (.slice q m d) := (block_cell hM4 1).trans rfl
  clear ho hb hL hM hL1 hM1 hL2 hM2 hM3 hM4
  go_wp2_with fail
  (try simp only [Exit.inBlock, Exit.then])
  refine bodyPost_ret (by simp [results, Tryz.results125, go_sem, z0, z1]; try rfl) rfl ?_
  have hd : ∀ x, x < w.heap.size + 3 → ∀ ad, q = some ad → ad.block ≠ x := fun x hx ad e => by
    have := (HSP.out ad e).1
    omega
  refine ⟨_, _, _, rfl, ((HO.out.set (hd _ (by omega)) _ _).set (hd _ (by omega)) _ _).set (hd _ (by omega)) _ _, ((HB1.out.setCell (by dsimp only; omega) _).setCell (by dsimp only; omega) _).setCell (by dsimp only; omega) _⟩
set_option maxRecDepth 100000 in
theorem eqExt_yes (k : Int) (a b : Option Addr) (n m c d : Nat) (y : List Int) (w : World) (h : Nums .i64 w a n y) (h' : Nums .i64 w b m y) :
    Calls Tryz.prog 126 #[.agg #[.int .i64 k, .slice a n c], .agg #[.int .i64 k, .slice b m d]] w (Told (.bool true) w) := by
  have H := Lib.hid h
  have H' := Lib.hid h'
  clear h h'
  go_enter Tryz.func126, Tryz.ntmps126
  go_wp2_with fail
  have HB : Hid (Below w.heap.size w ((w.alloc (.cells #[.int .i64 k, .slice a n c] 125)).alloc (.cells #[.int .i64 k, .slice b m d] 125))) := Lib.hid (((Below.refl _ w).alloc (Nat.le_refl _) _).alloc (by simp) _)
  refine (eqIntS_yes a b n m c d y _ (H.out.same HB.out) (H'.out.same HB.out)).mono ?_
  rintro e w1 ⟨rfl, hb⟩
  have HB1 := Lib.hid (HB.out.trans (hb.mono HB.out.size))
  clear hb
  go_wp2_with fail
  go_ret
  exact ⟨rfl, HB1.out⟩
set_option maxRecDepth 100000 in
theorem eqExtS_yes (a b : Option Addr) (n m c d : Nat) (l : List Vl) (w : World) (h : Vals w a n l) (h' : Vals w b m l) :
    Calls Tryz.prog 79 #[.slice a n c, .slice b m d] w (Told (.bool true) w) := by
  obtain rfl : n = m := by rw [← h.len, ← h'.len]
  have hn := h.fits
  have H := Lib.hid h
  have H' := Lib.hid h'
  clear h h'
  go_enter Tryz.func79, Tryz.ntmps79
  go_wp2_with fail
  go_loopw [5] (fun i wr => ∃ j : Nat, j ≤ n ∧ i = .int .i64 j ∧ Below w.heap.size w wr) (fun i _ => n - (intOf i).toNat)
  case atStart => exact ⟨0, Nat.zero_le _, rfl, Below.refl _ _⟩
  case round =>
    obtain ⟨j, hj, rfl, hb⟩ := hrel
    have HB := Lib.hid hb
    clear hb
    by_cases hlt : j < n
    · obtain ⟨b1, o1, p1, m1, d1, k1, y1, rfl, hx, hc0, hc1, hN1, hr1⟩ := (H.out.same HB.out).at_ hlt
      obtain ⟨b2, o2, p2, m2, d2, k2, y2, rfl, hy, hd0, hd1, hN2, hr2⟩ := (H'.out.same HB.out).at_ hlt
      rw [hx] at hy
      cases hy
      have HN1 := Lib.hid hN1
      have HN2 := Lib.hid hN2
      clear hx hN1 hN2
      go_wp2_with fail
      go_still_tail 8, (by kernel_rfl)
      have H2 : Hid (Below wr.heap.size wr wr.drew) := Lib.hid (Below.refl _ _).drew
      change wpList _ _ _ _ _ wr.drew
      generalize wr.drew = w2 at H2 ⊢
      go_wp2_with fail
      refine (eqExt_yes k1 p1 p2 m1 m2 d1 d2 y1 w2 (HN1.out.same H2.out) (HN2.out.same H2.out)).mono ?_
      rintro e w3 ⟨rfl, hb3⟩
      have HB3 := Lib.hid ((HB.out.trans (H2.out.mono HB.out.size)).trans (hb3.mono (Nat.le_trans HB.out.size H2.out.size)))
      clear hb3
      go_wp2
      go_roundw
      case rel => exact ⟨j + 1, by omega, by go_num, HB3.out⟩
      case measure => simp [intOf]; omega
    · go_wp2
      go_ret
      exact ⟨rfl, HB.out⟩
set_option maxRecDepth 100000 in
theorem toExtS_any (a : Option Addr) (n c : Nat) (l : List Vl) (w : World) (h : Vals w a n l) (hn : n + itemsOf l ≤ 1048576000) :
    Calls Tryz.prog 77 #[.slice a n c] w (MadeV 125 3 w.heap.size l w) := by
  have H := Lib.hid h
  have hl := Lib.hid h.len
  clear h
  obtain ⟨i0, hi, hz0, hz1, hz2⟩ := info_parts infoExtS
  go_enter Tryz.func77, Tryz.ntmps77
  go_wp2_with (with_reducible refine wpList_make_full _ rfl (.tmp 6) (.tmp 6) 25 rfl w.heap.size 125 i0 (.agg #[.int .i64 0, .slice none 0 0]) 2 Tryz.underlying25 hi hz0 hz1 .i64 .i64 _ _ n rfl rfl (by omega) (by omega) ?c1 ?c2 ?c3 ?_)
  case c1 => rw [hz2]; omega
  case c2 => unfold maxLen; omega
  case c3 => omega
  intro w1 hown hgrow
  have hb1 : Below w.heap.size w w1 := (Below.refl _ w).grown hgrow (Nat.le_refl _) (fun _ e => by cases e)
  have HO : Hid (OwnV 125 3 w1 w.heap.size (some ⟨w.heap.size, 0, none⟩) n n (l.take 0 ++ List.replicate (n - 0) ⟨0, []⟩)) := by
    have hm : (madeCells #[.int .i64 0, .slice none 0 0] (n * 2)).toList = flatOf Vh.enc (List.replicate n ⟨0, none, 0, 0⟩) := made2 n
    rw [hm] at hown
    exact Lib.hid (by simpa using OwnV.zeros hown)
  have HB := Lib.hid hb1
  clear hown hgrow hb1 hi hz0 hz1 hz2
  go_wp2_with fail
  go_loopw [4] (fun i wr => ∃ j : Nat, j ≤ n ∧ i = .int .i64 j ∧ OwnV 125 3 wr w.heap.size (some ⟨w.heap.size, 0, none⟩) n n (l.take j ++ List.replicate (n - j) ⟨0, []⟩) ∧ Below w.heap.size w wr) (fun i _ => n - (intOf i).toNat)
  case atStart => exact ⟨0, Nat.zero_le _, rfl, HO.out, HB.out⟩
  case round =>
    obtain ⟨j, hj, rfl, hown, hb⟩ := hrel
    have HO2 := Lib.hid hown
    have HB2 := Lib.hid hb
    clear hown hb
    by_cases hlt : j < n
    · obtain ⟨b, o, p, m, d, k, y, rfl, hx, hc0, hc1, hN, hr⟩ := (H.out.same HB2.out).at_ hlt
      have HX := Lib.hid hx
      have HN := Lib.hid hN
      have hm1 := hN.len
      have hm2 := itemsOf_mem hx
      dsimp only at hm2
      clear hx hN
      go_wp2_with fail
      refine (toExt_any k p m d y wr HN.out (by omega)).mono ?_
      rintro e w2 ⟨q, m2, d2, rfl, ho, hb2⟩
      obtain ⟨hs, hI, hRV⟩ := HO2.out
      have hrow := (hI.same hb2).2
      have hf0 := hrow.frozenAt (j * 2)
      have hf1 := hrow.frozenAt (j * 2 + 1)
      obtain ⟨u0, hu0⟩ := row_cell hrow (k := j * 2) (by omega)
      obtain ⟨u1, hu1⟩ := row_cell hrow (k := j * 2 + 1) (by omega)
      have hput := OwnV.put HO2.out hb2 hlt k q m2 d2 y (ho.lower HB2.out.size) (fun ad e => (ho.span ad e).1)
      rw [put_step HX.out hl.out] at hput
      have HP := Lib.hid hput
      have HB3 := Lib.hid (HB2.out.trans (hb2.mono HB2.out.size))
      clear hrow hb2 hc0 hc1 hI hRV ho hput
      go_wp2_with fail
      go_roundw
      case rel =>
        exact ⟨j + 1, by omega, by go_num, HP.out.1, grown_to (b := some ⟨w.heap.size, 0, none⟩) (m := n) (d := n) HP.out.2 HB3.out (lo := w.heap.size) (hi := w.heap.size + 1) (fun ad e => by cases e; exact ⟨Nat.le_refl _, Nat.lt_succ_self _⟩) (Nat.le_refl _) HB3.out.size⟩
      case measure => simp [intOf]; omega
    · obtain rfl : j = n := by omega
      go_wp2
      go_ret
      have h1 := HO2.out
      rw [List.take_of_length_le (by rw [hl.out]; omega), Nat.sub_self, List.replicate_zero, List.append_nil] at h1
      exact ⟨_, _, _, rfl, h1, HB2.out⟩
end Go.Proofs.YtcmjadfpifpknaaGreat
