/- Edits of hellos and of answers: by the model. What is left behind a region that draws its order, calls ChooseAnswer and puts its answer into a variable: told once for all orders. Edits of answers: by the model. The extensions whose tag is in a list: by the model. -/
import Derived.Test.YtcmjadfpifpknaaGreatG24
import Derived.Test.YtcmjadfpifpknaaGreatG16
import Derived.Test.YtcmjadfpifpknaaGreatG26
import Derived.Test.YtcmjadfpifpknaaGreatG7
import Derived.Deep.RegionHeld3
import Derived.Test.YtcmjadfpifpknaaGreatG14
import Derived.Test.YtcmjadfpifpknaaGreatG10
import Derived.Tactics
import Derived.Test.YtcmjadfpifpknaaGreatG11
import Derived.Test.YtcmjadfpifpknaaGreatG25
namespace Go.Proofs.YtcmjadfpifpknaaGreat
open Go.ChangeShapes Go.WideShapes Go.ChangeAt Go.RowKit
set_option linter.unusedVariables false
set_option linter.unusedSimpArgs false

set_option maxHeartbeats 4000000 in
set_option maxRecDepth 100000 in
theorem specDrop_any {a : Option Addr} {n c : Nat} {l : List Vl} (t : Int) {w : World} (h : Vals w a n l) (hn : n ≤ 1048576) (hit : itemsOf l ≤ 1048576) :
    Calls Tryz.prog 114 #[.slice a n c, .int .i64 t] w (MadeV 125 3 w.heap.size (dropX t l) w) := by
  have H := Lib.hid h
  have hln := Lib.hid h.len
  obtain ⟨i0, hi, hz0, hz1, hz2⟩ := info_parts infoExtS
  have HI := Lib.hid (And.intro hi (And.intro hz0 (And.intro hz1 hz2)))
  obtain ⟨i1, ki, kz0, kz1, kz2⟩ := info_parts infoIntS
  have HJ := Lib.hid (And.intro ki (And.intro kz0 (And.intro kz1 kz2)))
  clear h hi hz0 hz1 hz2 ki kz0 kz1 kz2
  have HO : Hid (OwnV 125 3 (w.alloc (.cells #[] 125)) w.heap.size (some ⟨w.heap.size, 0, none⟩) 0 0 (dropX t (l.take 0))) := Lib.hid (OwnV.empty (Nat.le_refl _))
  go_enter Tryz.func114, Tryz.ntmps114
  go_wp2_with fail
  go_loopw [5, 6] (fun v i wr => ∃ (j : Nat) (q : Option Addr) (r e : Nat), j ≤ n ∧ i = .int .i64 j ∧ v = .slice q r e ∧ OwnV 125 3 wr w.heap.size q r e (dropX t (l.take j)) ∧ Below w.heap.size w wr) (fun _ i _ => n - (intOf i).toNat)
  case atStart => exact ⟨0, _, _, _, Nat.zero_le _, rfl, rfl, HO.out, alloc_same _ _⟩
  case round =>
    obtain ⟨j, q, r, e, hj, rfl, rfl, hown, hb⟩ := hrel
    have HO2 := Lib.hid hown
    have HB2 := Lib.hid hb
    clear hown hb
    by_cases hlt : j < n
    · obtain ⟨bb, o, p, pm, pd, k, y, rfl, hx, hd0, hd1, hN, hr⟩ := H.out.at_ hlt
      have hsz := HB2.out.size
      have hym := hN.len
      have hyi := itemsOf_mem hx
      dsimp only at hyi
      have hrl : r ≤ 1048576 := by
        have h1 := HO2.out.len
        have h2 := dropX_few t (l.take j)
        rw [List.length_take] at h2
        omega
      have hpm : pm ≤ 1048576 := by omega
      have HSK : Hid (∀ w9, Below w.heap.size w w9 → w9.cell? ⟨bb, o + j * 2, none⟩ = some (.int .i64 k) ∧ w9.cell? ⟨bb, o + j * 2 + 1, none⟩ = some (.slice p pm pd)) := Lib.hid (fun w9 h9 => ⟨cell_stay hd0 h9, cell_stay hd1 h9⟩)
      obtain ⟨hc0, hc1⟩ := HSK.out wr HB2.out
      have HN := Lib.hid (fun w9 (h9 : Below w.heap.size w w9) => hN.same h9)
      by_cases hk : ¬ k = t
      · have HK : Hid (dropX t (l.take (j + 1)) = dropX t (l.take j) ++ [⟨k, y⟩]) := Lib.hid (wh_yes hx (decide_eq_true hk))
        have hkn : (k != t) = true := by simpa using hk
        clear hx hN hk hd0 hd1 hym hyi
        have HBd : Hid (Below w.heap.size w wr.drew) := Lib.hid HB2.out.drew
        have HQ : Hid (Below wr.heap.size wr (wr.alloc (.cells #[] 3)).drew) := Lib.hid (alloc_same _ _).drew
        have HBQ : Hid (Below w.heap.size w (wr.alloc (.cells #[] 3)).drew) := Lib.hid (HB2.out.trans (HQ.out.mono hsz))
        have HOQ : Hid (Own .i64 3 (wr.alloc (.cells #[] 3)).drew wr.heap.size (some ⟨wr.heap.size, 0, none⟩) 0 0 []) := Lib.hid ((Own.empty (Nat.le_refl _)).same (Below.refl _ _).drew)
        have hs2 : wr.heap.size ≤ (wr.alloc (.cells #[] 3)).drew.heap.size := HQ.out.size
        go_wp2_with fail
        go_region_held3 (fun w9 => w9.cell? ⟨bb, o + j * 2, none⟩ = some (.int .i64 k) ∧ w9.cell? ⟨bb, o + j * 2 + 1, none⟩ = some (.slice p pm pd)) (first | exact HSK.out _ HBd.out | exact HSK.out _ HBQ.out | exact HSK.out _ HB3.out | exact HSK.out _ HB4.out | exact HSK.out _ HB5.out) ((first | (refine step_app_g _ (by rfl) (.tmp 27) (.tmp 32) 24 (by rfl) .i64 3 i1 (.int .i64 0) 8 Tryz.underlying24 HJ.out.1 HJ.out.2.1 HJ.out.2.2.1 HJ.out.2.2.2 rfl (by rfl) HOQ.out (by rfl) (HN.out _ HBQ.out) (by omega) (by omega) hs2 ?_; intro a3 c3 w3 ho3 hg3 hl3; have HO3 := Lib.hid ho3; have HQ3 : Hid (Below wr.heap.size wr w3) := Lib.hid (grown_to hg3 HQ.out HOQ.out.span (Nat.le_refl _) hs2); have HB3 : Hid (Below w.heap.size w w3) := Lib.hid (HB2.out.trans (HQ3.out.mono hsz)); have hs3 := HQ3.out.size; have HB4 : Hid (Below w.heap.size w (w3.alloc (.cells #[.int .i64 k, .slice a3 pm c3] 125))) := Lib.hid (HB3.out.alloc HB3.out.size _); have HNN : Hid (Items Vh.enc 2 (w3.alloc (.cells #[.int .i64 k, .slice a3 pm c3] 125)) (some ⟨w3.heap.size, 0, none⟩) 1 [⟨k, a3, pm, c3⟩]) := Lib.hid (items_new Vh.enc_len w3 ⟨k, a3, pm, c3⟩ 125); have HO4 : Hid (Own .i64 3 (w3.alloc (.cells #[.int .i64 k, .slice a3 pm c3] 125)) w.heap.size a3 pm c3 y) := Lib.hid (by have h9 := (ho3.lower hsz).alloc (.cells #[.int .i64 k, .slice a3 pm c3] 125); rw [Nat.zero_add] at h9; exact h9); clear ho3 hg3 hl3) | (refine step_appV (S := wr.heap.size) (B := w.heap.size) _ (by rfl) (.tmp 21) (.tmp 35) 25 (by rfl) 125 3 i0 (.agg #[.int .i64 0, .slice none 0 0]) 32 Tryz.underlying25 HI.out.1 HI.out.2.1 HI.out.2.2.1 HI.out.2.2.2 rfl (by rfl) ((HO2.out.lim.same HQ3.out).same (alloc_same _ _)) (by rfl) HNN.out HO4.out (fun ad e => (HO3.out.span ad e).1) (by omega) (by omega) (by simp; omega) ?_; intro a5 c5 w5 ho5 hb5; have HO5 := Lib.hid ho5; have HB5 : Hid (Below w.heap.size w w5) := Lib.hid (HB4.out.trans hb5); clear ho5 hb5)))
        go_wp2_with fail
        go_roundw
        case rel => exact ⟨j + 1, a5, _, c5, by omega, by go_num, rfl, by rw [HK.out]; exact HO5.out, HB5.out⟩
        case measure => simp [intOf]; omega
      · have HK : Hid (dropX t (l.take (j + 1)) = dropX t (l.take j)) := Lib.hid (wh_no hx (decide_eq_false hk))
        have hkn : (k != t) = false := by simpa using hk
        clear hx hN hk hd0 hd1 hym hyi
        go_wp2_with fail
        go_roundw
        case rel => exact ⟨j + 1, q, r, e, by omega, by go_num, rfl, by rw [HK.out]; exact HO2.out, HB2.out⟩
        case measure => simp [intOf]; omega
    · obtain rfl : j = n := by omega
      go_wp2
      go_ret
      have h1 := HO2.out
      rw [List.take_of_length_le (by rw [hln.out]; omega)] at h1
      exact ⟨_, _, _, rfl, h1, HB2.out⟩
set_option maxHeartbeats 4000000 in
set_option maxRecDepth 100000 in
theorem specHello18_any {w : World} {v : Value} {x : Hel} (h : HelW w v x) (hn : x.vers.length ≤ 1048576) (hm : x.exts.length ≤ 1048576) (hit : itemsOf x.exts ≤ 1048576) :
    Calls Tryz.prog 68 #[v] w (fun e w' => ∃ v', e = .returned v' ∧ FreeH w.heap.size w' v' x ∧ Below w.heap.size w w') := by
  obtain ⟨a, n, c, b, m, d, rfl, ⟨h1, hc1⟩, h2, hc2⟩ := h.parts
  obtain ⟨hsz, hX, hR, hB0⟩ := two w #[.slice a n c, .slice b m d] #[.slice none 0 0, .slice none 0 0] 27 27
  have hlm := h2.len
  have hln := h1.len
  obtain ⟨i1, ki, kz0, kz1, kz2⟩ := info_parts infoIntS
  have HJ := Lib.hid (And.intro ki (And.intro kz0 (And.intro kz1 kz2)))
  have H1 := Lib.hid (h1.same hB0)
  have H2 := Lib.hid (h2.same hB0)
  have CX := Lib.hid (two_cells hX)
  have HR := Lib.hid hR
  have HB := Lib.hid hB0
  clear h1 h2 hX hR hB0 ki kz0 kz1 kz2
  go_enter Tryz.func68, Tryz.ntmps68
  go_wp2_with fail
  generalize ((w.alloc (.cells #[.slice a n c, .slice b m d] 27)).alloc (.cells #[.slice none 0 0, .slice none 0 0] 27)) = W0 at *
  have hd0 : W0.heap.size ≤ W0.drew.heap.size := Nat.le_refl _
  have HBd : Hid (Below W0.heap.size W0 W0.drew) := Lib.hid (Below.refl _ _).drew
  have HQ : Hid (Below W0.heap.size W0 (W0.alloc (.cells #[] 3)).drew) := Lib.hid (alloc_same _ _).drew
  have HOQ : Hid (Own .i64 3 (W0.alloc (.cells #[] 3)).drew W0.heap.size (some ⟨W0.heap.size, 0, none⟩) 0 0 []) := Lib.hid ((Own.empty (Nat.le_refl _)).same (Below.refl _ _).drew)
  have hs2 : W0.heap.size ≤ (W0.alloc (.cells #[] 3)).drew.heap.size := HQ.out.size
  refine wp_region_held_drew (S := fun w9 => w9.cell? ⟨w.heap.size, 0, none⟩ = some (.slice a n c) ∧ w9.cell? ⟨w.heap.size, 1, none⟩ = some (.slice b m d)) (by kernel_rfl) ⟨(cell_stay CX.out.1 HBd.out), (cell_stay CX.out.2.1 HBd.out)⟩ (fun hHeld => ?_)
  refine wpAnyH_take (i := 1) (v := ?v1) (by simp only [List.getElem?_toArray, List.getElem?_cons_succ, List.getElem?_cons_zero]; rfl) (by kernel_rfl) (by kernel_rfl) (by kernel_rfl) (by exact fun _ _ _ h => h) (Or.inl ⟨by rfl, fun w9 hS9 => ?hy1⟩) hHeld ?rest1
  case hy1 =>
    dsimp only at hS9
    obtain ⟨y0, y1⟩ := hS9
    go_simp
    try with_reducible rfl
  try simp only [Act.put, List.setIfInBounds_toArray, List.set_cons_zero, List.set_cons_succ]
  refine wpAnyH_take (i := 2) (v := ?v2) (by simp only [List.getElem?_toArray, List.getElem?_cons_succ, List.getElem?_cons_zero]; rfl) (by kernel_rfl) (by kernel_rfl) (by kernel_rfl) (by exact fun _ _ _ h => h) (Or.inl ⟨by rfl, fun w9 hS9 => ?hy2⟩) hHeld ?rest2
  case hy2 =>
    dsimp only at hS9
    obtain ⟨y0, y1⟩ := hS9
    go_simp
    try with_reducible rfl
  try simp only [Act.put, List.setIfInBounds_toArray, List.set_cons_zero, List.set_cons_succ]
  refine wpAnyH_take (i := 4) (v := ?v3) (by simp only [List.getElem?_toArray, List.getElem?_cons_succ, List.getElem?_cons_zero]; rfl) (by kernel_rfl) (by kernel_rfl) (by kernel_rfl) (by exact fun _ _ _ h => h) (Or.inl ⟨by rfl, fun w9 hS9 => ?hy3⟩) hHeld ?rest3
  case hy3 =>
    dsimp only at hS9
    obtain ⟨y0, y1⟩ := hS9
    go_simp
    try with_reducible rfl
  try simp only [Act.put, List.setIfInBounds_toArray, List.set_cons_zero, List.set_cons_succ]
  refine wpAnyH_take (i := 5) (v := ?v4) (by simp only [List.getElem?_toArray, List.getElem?_cons_succ, List.getElem?_cons_zero]; rfl) (by kernel_rfl) (by kernel_rfl) (by kernel_rfl) (by exact fun _ _ _ h => h) (Or.inl ⟨by rfl, fun w9 hS9 => ?hy4⟩) hHeld ?rest4
  case hy4 =>
    dsimp only at hS9
    obtain ⟨y0, y1⟩ := hS9
    go_simp
    try with_reducible rfl
  try simp only [Act.put, List.setIfInBounds_toArray, List.set_cons_zero, List.set_cons_succ]
  refine wpAnyH_ready (rs := [0]) (by kernel_rfl) (by simp) (AllReadyH.cons (by simp only [List.getElem?_toArray, List.getElem?_cons_succ, List.getElem?_cons_zero]; rfl) (fun K hK => ?_) AllReadyH.nil)
  go_simp
  refine hK.out _ _ ⟨(cell_stay CX.out.1 HQ.out), (cell_stay CX.out.2.1 HQ.out)⟩ (fun hHeld => ?_)
  clear hK K
  try simp only [Act.put, List.setIfInBounds_toArray, List.set_cons_zero, List.set_cons_succ]
  refine wpAnyH_ready (rs := [3]) (by kernel_rfl) (by simp) (AllReadyH.cons (by simp only [List.getElem?_toArray, List.getElem?_cons_succ, List.getElem?_cons_zero]; rfl) (fun K hK => ?_) AllReadyH.nil)
  refine step_app_g _ (by rfl) (.tmp 3) (.tmp 5) 24 (by rfl) .i64 3 i1 (.int .i64 0) 8 Tryz.underlying24 HJ.out.1 HJ.out.2.1 HJ.out.2.2.1 HJ.out.2.2.2 (by rfl) (by rfl) HOQ.out (by rfl) (H1.out.same HQ.out) (by omega) ?c1 ?c2 ?_
  case c1 => omega
  case c2 => omega
  intro a3 c3 w3 ho3 hb3 hlo3
  have HB3 : Hid (Below W0.heap.size W0 w3) := Lib.hid (HQ.out.grown hb3 hs2 (fun r e => by simp only [Value.ownBlock, Option.some.injEq] at e; omega))
  clear hlo3
  have HO3 := Lib.hid ho3
  have HS3 := Lib.hid ho3.span
  have hs3 : W0.heap.size ≤ w3.heap.size := HB3.out.size
  clear ho3 hb3
  refine hK.out _ _ ⟨(cell_stay CX.out.1 HB3.out), (cell_stay CX.out.2.1 HB3.out)⟩ (fun hHeld => ?_)
  clear hK K
  try simp only [Act.put, List.setIfInBounds_toArray, List.set_cons_zero, List.set_cons_succ]
  refine wpAnyH_ready (rs := [6]) (by kernel_rfl) (by simp) (AllReadyH.cons (by simp only [List.getElem?_toArray, List.getElem?_cons_succ, List.getElem?_cons_zero]; rfl) (fun K hK => ?_) AllReadyH.nil)
  go_simp
  refine (specCopy_any (c := d) (H2.out.same HB3.out) (by omega) hit).mono ?_
  rintro e6 w6 ⟨g6, d6, rfl, ho6, hb6⟩
  have HB6 : Hid (Below W0.heap.size W0 w6) := Lib.hid (HB3.out.trans (hb6.mono hs3))
  have hs6 : w3.heap.size ≤ w6.heap.size := hb6.size
  replace HO3 := Lib.hid (HO3.out.same hb6)
  have HO6 := Lib.hid ho6.lim
  clear hb6 ho6
  go_wp2_with fail
  refine hK.out _ _ ⟨(cell_stay CX.out.1 HB6.out), (cell_stay CX.out.2.1 HB6.out)⟩ (fun hHeld => ?_)
  clear hK K
  try simp only [Act.put, List.setIfInBounds_toArray, List.set_cons_zero, List.set_cons_succ]
  refine wpAnyH_take (i := 7) (v := ?v5) (by simp only [List.getElem?_toArray, List.getElem?_cons_succ, List.getElem?_cons_zero]; rfl) (by kernel_rfl) (by kernel_rfl) (by kernel_rfl) (by exact fun _ _ _ h => h) (Or.inl ⟨by rfl, fun w9 hS9 => ?hy5⟩) hHeld ?rest5
  case hy5 =>
    dsimp only at hS9
    obtain ⟨y0, y1⟩ := hS9
    go_simp
    try with_reducible rfl
  try simp only [Act.put, List.setIfInBounds_toArray, List.set_cons_zero, List.set_cons_succ]
  refine wpAnyH_ready (rs := [8]) (by kernel_rfl) (by simp) (AllReadyH.cons (by simp only [List.getElem?_toArray, List.getElem?_cons_succ, List.getElem?_cons_zero]; rfl) (fun K hK => ?_) AllReadyH.nil)
  have hzn : 0 + n = n := Nat.zero_add n
  have HR9 := Lib.hid ((HB6.out.block (w.heap.size + 1) (by omega)).trans HR.out)
  obtain ⟨m0, m1, q0, q1⟩ := two_cells HR9.out
  obtain ⟨z0, z1, -⟩ := two_put HR9.out (.slice a3 (0 + n) c3) (.slice (some ⟨g6, 0, none⟩) m d6)
  have hgr := set2_grown w6 (w.heap.size + 1) (.slice a3 (0 + n) c3) (.slice (some ⟨g6, 0, none⟩) m d6)
  rw [hzn] at HO3 z0 z1 hgr
  go_simp
  refine hK.out _ _ ⟨(cell_off (cell_stay CX.out.1 HB6.out) hgr (by simp)), (cell_off (cell_stay CX.out.2.1 HB6.out) hgr (by simp))⟩ (fun hHeld => ?_)
  clear hK K
  try simp only [Act.put, List.setIfInBounds_toArray, List.set_cons_zero, List.set_cons_succ]
  refine wpAnyH_done (by kernel_rfl) ?_ _
  go_wp2_with fail
  (try simp only [Exit.inBlock, Exit.then])
  refine bodyPost_ret (by simp [results, Tryz.results68, go_sem, z0, z1]; try rfl) rfl ?_
  have h9 := one_inside hgr
  have hs9 := h9.size
  exact ⟨_, rfl, ⟨a3, n, c3, _, m, d6, W0.heap.size, w3.heap.size, w3.heap.size, w6.heap.size, rfl, HO3.out.aside h9 HS3.out (by omega), HO6.out.aside h9 (by omega), HS3.out, by omega, Nat.le_refl _, hs9, by omega, by omega, by omega⟩, (HB.out.trans (HB6.out.mono (by omega))).grown hgr (by omega) (fun r e => by cases e; omega)⟩
set_option maxHeartbeats 4000000 in
set_option maxRecDepth 100000 in
theorem specEditH_1 {S B : Nat} {w : World} {v : Value} {x : Hel} {e : Et} (h : OwnHel S w B v x) (hw : (Lit.int .i64 e.kind).wf = true) (hn : x.vers.length ≤ 1048576) (hm : x.exts.length ≤ 1048576) (hit : itemsOf x.exts ≤ 1048576) (hk : e.kind = 1) :
    Calls Tryz.prog 69 #[v, .agg #[.int .i64 e.kind, .int .i64 e.n]] w (MadeHel w.heap.size (edH x e) w) := by
  have hed : edH x e = (⟨dropV x.vers e.n, x.exts⟩ : Hel) := by
    unfold edH
    rw [hk]
    rw [if_pos rfl]
  rw [hed]
  obtain ⟨a, n, c, b, m, d, l0, u0, l0', u0', rfl, h1, h2, -⟩ := id h
  obtain ⟨hsz, hX, hE, hR, hB0⟩ := thrice w #[.slice a n c, .slice b m d] #[.int .i64 e.kind, .int .i64 e.n] #[.slice none 0 0, .slice none 0 0] 27 40 27
  have hlm := h2.len
  have hln := h1.len
  have KH := Lib.hid (specHello18_any (h.hel.same hB0) hn hm hit)
  have H1 := Lib.hid (h1.same hB0)
  have H2 := Lib.hid (h2.vals.same hB0)
  have HX := Lib.hid hX
  have HE := Lib.hid hE
  have HR := Lib.hid hR
  have HB := Lib.hid hB0
  have hk1 : (e.kind == 1) = true := by rw [hk]; rfl
  clear h1 h2 h hed hk
  obtain ⟨x0, x1, -⟩ := two_cells hX
  unfold MadeHel
  go_enter Tryz.func69, Tryz.ntmps69
  go_wp2_with fail
  clear x0 x1 hX hE hR hB0
  generalize (((w.alloc (.cells #[.slice a n c, .slice b m d] 27)).alloc (.cells #[.int .i64 e.kind, .int .i64 e.n] 40)).alloc (.cells #[.slice none 0 0, .slice none 0 0] 27)) = W0 at *
  refine KH.out.mono ?_
  rintro e1 w1 ⟨v1, rfl, ⟨a1, n1, c1, b1, m1, d1, lo, hi, lo', hi', rfl, o1, o2, o3, l1, l2, l3, l4, l5, l6⟩, hb1⟩
  have hs1 := hb1.size
  have hA1 := alloc_same w1 (.cells #[.slice a1 n1 c1, .slice b1 m1 d1] 27)
  have HG0 : (w1.alloc (.cells #[.slice a1 n1 c1, .slice b1 m1 d1] 27)).heap[w1.heap.size]? = some (.cells #[.slice a1 n1 c1, .slice b1 m1 d1] 27 (0, 0)) := heap_alloc_new w1 _
  have HG := Lib.hid HG0
  have hbW : Below W0.heap.size W0 (w1.alloc (.cells #[.slice a1 n1 c1, .slice b1 m1 d1] 27)) := hb1.trans (hA1.mono hs1)
  have HBW := Lib.hid hbW
  have O1 := Lib.hid (o1.same hA1)
  have O2 := Lib.hid (o2.same hA1)
  have hsW : w1.heap.size < (w1.alloc (.cells #[.slice a1 n1 c1, .slice b1 m1 d1] 27)).heap.size := by simp
  have HXW := Lib.hid ((hbW.block w.heap.size (by omega)).trans HX.out)
  have HEW := Lib.hid ((hbW.block (w.heap.size + 1) (by omega)).trans HE.out)
  have HRW := Lib.hid ((hbW.block (w.heap.size + 2) (by omega)).trans HR.out)
  have HH := Lib.hid (H1.out.same hbW)
  have HV := Lib.hid (H2.out.same hbW)
  clear hb1 hA1 HG0 hbW o1 o2 KH HX HE HR H1 H2
  obtain ⟨x0, x1, -⟩ := two_cells HXW.out
  obtain ⟨y0, y1, -⟩ := two_cells HEW.out
  have KD := Lib.hid (specDropVersion_any (c := c) e.n HH.out.nums (by omega))
  unfold MadeB at KD
  go_wp2_with fail
  generalize hgen : w1.alloc (.cells #[.slice a1 n1 c1, .slice b1 m1 d1] 27) = W1 at *
  clear hgen
  refine KD.out.mono ?_
  rintro e2 w2 ⟨p, k, r, rfl, ho, hb2⟩
  have hs2 := hb2.size
  have HO := Lib.hid ho
  have HS := Lib.hid ho.span
  have HB2 : Hid (Below W0.heap.size W0 w2) := Lib.hid (HBW.out.trans (hb2.mono HBW.out.size))
  have HG2 := Lib.hid ((hb2.block w1.heap.size hsW).trans HG.out)
  have O22 := Lib.hid (O2.out.same hb2)
  have hrb : w2.heap[w.heap.size + 2]? = _ := (hb2.block (w.heap.size + 2) (by omega)).trans HRW.out
  clear ho hb2 x0 x1 y0 y1 KD
  obtain ⟨x0, x1, f0, f1⟩ := two_cells HG2.out
  have HG3 := Lib.hid (put_first HG2.out (.slice p k r))
  have hin := set_inside w2 w1.heap.size 0 (.slice p k r)
  have hrc := (hin.block (w.heap.size + 2) (by omega) (Or.inl (by omega))).trans hrb
  obtain ⟨x2, x3, -⟩ := two_cells HG3.out
  have HR9 := Lib.hid (hrc)
  obtain ⟨rm0, rm1, rq0, rq1⟩ := two_cells HR9.out
  obtain ⟨z0, z1, -⟩ := two_put HR9.out (.slice p k r) (.slice b1 m1 d1)
  have hgr := set2_grown (w2.setCell ⟨w1.heap.size, 0, none⟩ (.slice p k r)) (w.heap.size + 2) (.slice p k r) (.slice b1 m1 d1)
  go_wp2_with fail
  (try simp only [Exit.inBlock, Exit.then])
  refine bodyPost_ret (by simp [results, Tryz.results69, go_sem, z0, z1]; try rfl) rfl ?_
  have hfin : OwnHel (w2.setCell ⟨w1.heap.size, 0, none⟩ (.slice p k r)).heap.size (w2.setCell ⟨w1.heap.size, 0, none⟩ (.slice p k r)) W0.heap.size (.agg #[.slice p k r, .slice b1 m1 d1]) _ := own_hel (lo := W1.heap.size) (hi := w2.heap.size) (lo' := lo') (hi' := hi') (HO.out.aside hin HS.out (by omega)) (O22.out.aside hin (by omega)) HS.out (by omega) l4 (by simp) (by simp; omega) (Or.inr (by omega)) (Nat.le_refl _)
  exact ⟨_, rfl, ((hfin.aside (one_inside hgr) (Or.inl (by omega))).lower (by omega)).top (by simp) (Nat.le_refl _), (HB.out.trans ((hin.to HB2.out (by omega) (by omega)).mono (by omega))).grown hgr (by first | omega | (simp; omega)) (fun r e => by cases e; omega)⟩
set_option maxHeartbeats 4000000 in
set_option maxRecDepth 100000 in
theorem specEditH_2 {S B : Nat} {w : World} {v : Value} {x : Hel} {e : Et} (h : OwnHel S w B v x) (hw : (Lit.int .i64 e.kind).wf = true) (hn : x.vers.length ≤ 1048576) (hm : x.exts.length ≤ 1048576) (hit : itemsOf x.exts ≤ 1048576) (hk : e.kind = 2) :
    Calls Tryz.prog 69 #[v, .agg #[.int .i64 e.kind, .int .i64 e.n]] w (MadeHel w.heap.size (edH x e) w) := by
  have hed : edH x e = (⟨addV x.vers e.n, x.exts⟩ : Hel) := by
    unfold edH
    rw [hk]
    rw [if_neg (show ¬ (2 : Int) = 1 by decide), if_pos rfl]
  rw [hed]
  obtain ⟨a, n, c, b, m, d, l0, u0, l0', u0', rfl, h1, h2, -⟩ := id h
  obtain ⟨hsz, hX, hE, hR, hB0⟩ := thrice w #[.slice a n c, .slice b m d] #[.int .i64 e.kind, .int .i64 e.n] #[.slice none 0 0, .slice none 0 0] 27 40 27
  have hlm := h2.len
  have hln := h1.len
  have KH := Lib.hid (specHello18_any (h.hel.same hB0) hn hm hit)
  have H1 := Lib.hid (h1.same hB0)
  have H2 := Lib.hid (h2.vals.same hB0)
  have HX := Lib.hid hX
  have HE := Lib.hid hE
  have HR := Lib.hid hR
  have HB := Lib.hid hB0
  have hk1 : (e.kind == 1) = false := by rw [hk]; rfl
  have hk2 : (e.kind == 2) = true := by rw [hk]; rfl
  clear h1 h2 h hed hk
  obtain ⟨x0, x1, -⟩ := two_cells hX
  unfold MadeHel
  go_enter Tryz.func69, Tryz.ntmps69
  go_wp2_with fail
  clear x0 x1 hX hE hR hB0
  generalize (((w.alloc (.cells #[.slice a n c, .slice b m d] 27)).alloc (.cells #[.int .i64 e.kind, .int .i64 e.n] 40)).alloc (.cells #[.slice none 0 0, .slice none 0 0] 27)) = W0 at *
  refine KH.out.mono ?_
  rintro e1 w1 ⟨v1, rfl, ⟨a1, n1, c1, b1, m1, d1, lo, hi, lo', hi', rfl, o1, o2, o3, l1, l2, l3, l4, l5, l6⟩, hb1⟩
  have hs1 := hb1.size
  have hA1 := alloc_same w1 (.cells #[.slice a1 n1 c1, .slice b1 m1 d1] 27)
  have HG0 : (w1.alloc (.cells #[.slice a1 n1 c1, .slice b1 m1 d1] 27)).heap[w1.heap.size]? = some (.cells #[.slice a1 n1 c1, .slice b1 m1 d1] 27 (0, 0)) := heap_alloc_new w1 _
  have HG := Lib.hid HG0
  have hbW : Below W0.heap.size W0 (w1.alloc (.cells #[.slice a1 n1 c1, .slice b1 m1 d1] 27)) := hb1.trans (hA1.mono hs1)
  have HBW := Lib.hid hbW
  have O1 := Lib.hid (o1.same hA1)
  have O2 := Lib.hid (o2.same hA1)
  have hsW : w1.heap.size < (w1.alloc (.cells #[.slice a1 n1 c1, .slice b1 m1 d1] 27)).heap.size := by simp
  have HXW := Lib.hid ((hbW.block w.heap.size (by omega)).trans HX.out)
  have HEW := Lib.hid ((hbW.block (w.heap.size + 1) (by omega)).trans HE.out)
  have HRW := Lib.hid ((hbW.block (w.heap.size + 2) (by omega)).trans HR.out)
  have HH := Lib.hid (H1.out.same hbW)
  have HV := Lib.hid (H2.out.same hbW)
  clear hb1 hA1 HG0 hbW o1 o2 KH HX HE HR H1 H2
  obtain ⟨x0, x1, -⟩ := two_cells HXW.out
  obtain ⟨y0, y1, -⟩ := two_cells HEW.out
  have KD := Lib.hid (specAddVersion_any (c := c) e.n HH.out.nums (fun h0 => by obtain ⟨q, e9, _⟩ := HH.out.head h0; exact ⟨q, e9⟩) HH.out.room (by omega))
  unfold MadeB at KD
  go_wp2_with fail
  generalize hgen : w1.alloc (.cells #[.slice a1 n1 c1, .slice b1 m1 d1] 27) = W1 at *
  clear hgen
  refine KD.out.mono ?_
  rintro e2 w2 ⟨p, k, r, rfl, ho, hb2⟩
  have hs2 := hb2.size
  have HO := Lib.hid ho
  have HS := Lib.hid ho.span
  have HB2 : Hid (Below W0.heap.size W0 w2) := Lib.hid (HBW.out.trans (hb2.mono HBW.out.size))
  have HG2 := Lib.hid ((hb2.block w1.heap.size hsW).trans HG.out)
  have O22 := Lib.hid (O2.out.same hb2)
  have hrb : w2.heap[w.heap.size + 2]? = _ := (hb2.block (w.heap.size + 2) (by omega)).trans HRW.out
  clear ho hb2 x0 x1 y0 y1 KD
  obtain ⟨x0, x1, f0, f1⟩ := two_cells HG2.out
  have HG3 := Lib.hid (put_first HG2.out (.slice p k r))
  have hin := set_inside w2 w1.heap.size 0 (.slice p k r)
  have hrc := (hin.block (w.heap.size + 2) (by omega) (Or.inl (by omega))).trans hrb
  obtain ⟨x2, x3, -⟩ := two_cells HG3.out
  have HR9 := Lib.hid (hrc)
  obtain ⟨rm0, rm1, rq0, rq1⟩ := two_cells HR9.out
  obtain ⟨z0, z1, -⟩ := two_put HR9.out (.slice p k r) (.slice b1 m1 d1)
  have hgr := set2_grown (w2.setCell ⟨w1.heap.size, 0, none⟩ (.slice p k r)) (w.heap.size + 2) (.slice p k r) (.slice b1 m1 d1)
  go_wp2_with fail
  (try simp only [Exit.inBlock, Exit.then])
  refine bodyPost_ret (by simp [results, Tryz.results69, go_sem, z0, z1]; try rfl) rfl ?_
  have hfin : OwnHel (w2.setCell ⟨w1.heap.size, 0, none⟩ (.slice p k r)).heap.size (w2.setCell ⟨w1.heap.size, 0, none⟩ (.slice p k r)) W0.heap.size (.agg #[.slice p k r, .slice b1 m1 d1]) _ := own_hel (lo := W1.heap.size) (hi := w2.heap.size) (lo' := lo') (hi' := hi') (HO.out.aside hin HS.out (by omega)) (O22.out.aside hin (by omega)) HS.out (by omega) l4 (by simp) (by simp; omega) (Or.inr (by omega)) (Nat.le_refl _)
  exact ⟨_, rfl, ((hfin.aside (one_inside hgr) (Or.inl (by omega))).lower (by omega)).top (by simp) (Nat.le_refl _), (HB.out.trans ((hin.to HB2.out (by omega) (by omega)).mono (by omega))).grown hgr (by first | omega | (simp; omega)) (fun r e => by cases e; omega)⟩
set_option maxHeartbeats 4000000 in
set_option maxRecDepth 100000 in
theorem specEditH_3 {S B : Nat} {w : World} {v : Value} {x : Hel} {e : Et} (h : OwnHel S w B v x) (hw : (Lit.int .i64 e.kind).wf = true) (hn : x.vers.length ≤ 1048576) (hm : x.exts.length ≤ 1048576) (hit : itemsOf x.exts ≤ 1048576) (hk : e.kind = 3) :
    Calls Tryz.prog 69 #[v, .agg #[.int .i64 e.kind, .int .i64 e.n]] w (MadeHel w.heap.size (edH x e) w) := by
  have hed : edH x e = (⟨x.vers, dropX e.n x.exts⟩ : Hel) := by
    unfold edH
    rw [hk]
    rw [if_neg (show ¬ (3 : Int) = 1 by decide), if_neg (show ¬ (3 : Int) = 2 by decide), if_pos rfl]
  rw [hed]
  obtain ⟨a, n, c, b, m, d, l0, u0, l0', u0', rfl, h1, h2, -⟩ := id h
  obtain ⟨hsz, hX, hE, hR, hB0⟩ := thrice w #[.slice a n c, .slice b m d] #[.int .i64 e.kind, .int .i64 e.n] #[.slice none 0 0, .slice none 0 0] 27 40 27
  have hlm := h2.len
  have hln := h1.len
  have KH := Lib.hid (specHello18_any (h.hel.same hB0) hn hm hit)
  have H1 := Lib.hid (h1.same hB0)
  have H2 := Lib.hid (h2.vals.same hB0)
  have HX := Lib.hid hX
  have HE := Lib.hid hE
  have HR := Lib.hid hR
  have HB := Lib.hid hB0
  have hk1 : (e.kind == 1) = false := by rw [hk]; rfl
  have hk2 : (e.kind == 2) = false := by rw [hk]; rfl
  have hk3 : (e.kind == 3) = true := by rw [hk]; rfl
  clear h1 h2 h hed hk
  obtain ⟨x0, x1, -⟩ := two_cells hX
  unfold MadeHel
  go_enter Tryz.func69, Tryz.ntmps69
  go_wp2_with fail
  clear x0 x1 hX hE hR hB0
  generalize (((w.alloc (.cells #[.slice a n c, .slice b m d] 27)).alloc (.cells #[.int .i64 e.kind, .int .i64 e.n] 40)).alloc (.cells #[.slice none 0 0, .slice none 0 0] 27)) = W0 at *
  refine KH.out.mono ?_
  rintro e1 w1 ⟨v1, rfl, ⟨a1, n1, c1, b1, m1, d1, lo, hi, lo', hi', rfl, o1, o2, o3, l1, l2, l3, l4, l5, l6⟩, hb1⟩
  have hs1 := hb1.size
  have hA1 := alloc_same w1 (.cells #[.slice a1 n1 c1, .slice b1 m1 d1] 27)
  have HG0 : (w1.alloc (.cells #[.slice a1 n1 c1, .slice b1 m1 d1] 27)).heap[w1.heap.size]? = some (.cells #[.slice a1 n1 c1, .slice b1 m1 d1] 27 (0, 0)) := heap_alloc_new w1 _
  have HG := Lib.hid HG0
  have hbW : Below W0.heap.size W0 (w1.alloc (.cells #[.slice a1 n1 c1, .slice b1 m1 d1] 27)) := hb1.trans (hA1.mono hs1)
  have HBW := Lib.hid hbW
  have O1 := Lib.hid (o1.same hA1)
  have O2 := Lib.hid (o2.same hA1)
  have hsW : w1.heap.size < (w1.alloc (.cells #[.slice a1 n1 c1, .slice b1 m1 d1] 27)).heap.size := by simp
  have HXW := Lib.hid ((hbW.block w.heap.size (by omega)).trans HX.out)
  have HEW := Lib.hid ((hbW.block (w.heap.size + 1) (by omega)).trans HE.out)
  have HRW := Lib.hid ((hbW.block (w.heap.size + 2) (by omega)).trans HR.out)
  have HH := Lib.hid (H1.out.same hbW)
  have HV := Lib.hid (H2.out.same hbW)
  clear hb1 hA1 HG0 hbW o1 o2 KH HX HE HR H1 H2
  obtain ⟨x0, x1, -⟩ := two_cells HXW.out
  obtain ⟨y0, y1, -⟩ := two_cells HEW.out
  have KD := Lib.hid (specDrop_any (c := d) e.n HV.out (by omega) hit)
  unfold MadeV at KD
  go_wp2_with fail
  generalize hgen : w1.alloc (.cells #[.slice a1 n1 c1, .slice b1 m1 d1] 27) = W1 at *
  clear hgen
  refine KD.out.mono ?_
  rintro e2 w2 ⟨p, k, r, rfl, ho, hb2⟩
  have hs2 := hb2.size
  have HO := Lib.hid ho
  have HB2 : Hid (Below W0.heap.size W0 w2) := Lib.hid (HBW.out.trans (hb2.mono HBW.out.size))
  have HG2 := Lib.hid ((hb2.block w1.heap.size hsW).trans HG.out)
  have O12 := Lib.hid (O1.out.same hb2)
  have hrb : w2.heap[w.heap.size + 2]? = _ := (hb2.block (w.heap.size + 2) (by omega)).trans HRW.out
  clear ho hb2 x0 x1 y0 y1 KD
  obtain ⟨x0, x1, f0, f1⟩ := two_cells HG2.out
  have HG3 := Lib.hid (put_second HG2.out (.slice p k r))
  have hin := set_inside w2 w1.heap.size 1 (.slice p k r)
  have hrc := (hin.block (w.heap.size + 2) (by omega) (Or.inl (by omega))).trans hrb
  obtain ⟨x2, x3, -⟩ := two_cells HG3.out
  have HR9 := Lib.hid (hrc)
  obtain ⟨rm0, rm1, rq0, rq1⟩ := two_cells HR9.out
  obtain ⟨z0, z1, -⟩ := two_put HR9.out (.slice a1 n1 c1) (.slice p k r)
  have hgr := set2_grown (w2.setCell ⟨w1.heap.size, 1, none⟩ (.slice p k r)) (w.heap.size + 2) (.slice a1 n1 c1) (.slice p k r)
  go_wp2_with fail
  (try simp only [Exit.inBlock, Exit.then])
  refine bodyPost_ret (by simp [results, Tryz.results69, go_sem, z0, z1]; try rfl) rfl ?_
  have hfin : OwnHel (w2.setCell ⟨w1.heap.size, 1, none⟩ (.slice p k r)).heap.size (w2.setCell ⟨w1.heap.size, 1, none⟩ (.slice p k r)) W0.heap.size (.agg #[.slice a1 n1 c1, .slice p k r]) _ := own_hel (lo := lo) (hi := hi) (lo' := W1.heap.size) (hi' := w2.heap.size) (O12.out.aside hin o3 (by omega)) (HO.out.lim.aside hin (by omega)) o3 l1 (by omega) (by simp; omega) (by simp) (Or.inl (by omega)) (Nat.le_refl _)
  exact ⟨_, rfl, ((hfin.aside (one_inside hgr) (Or.inl (by omega))).lower (by omega)).top (by simp) (Nat.le_refl _), (HB.out.trans ((hin.to HB2.out (by omega) (by omega)).mono (by omega))).grown hgr (by first | omega | (simp; omega)) (fun r e => by cases e; omega)⟩
set_option maxHeartbeats 4000000 in
set_option maxRecDepth 100000 in
theorem specEditH_0 {S B : Nat} {w : World} {v : Value} {x : Hel} {e : Et} (h : OwnHel S w B v x) (hw : (Lit.int .i64 e.kind).wf = true) (hn : x.vers.length ≤ 1048576) (hm : x.exts.length ≤ 1048576) (hit : itemsOf x.exts ≤ 1048576) (hk : ¬ e.kind = 1 ∧ ¬ e.kind = 2 ∧ ¬ e.kind = 3 ∧ ¬ e.kind = 6) :
    Calls Tryz.prog 69 #[v, .agg #[.int .i64 e.kind, .int .i64 e.n]] w (MadeHel w.heap.size (edH x e) w) := by
  have hed : edH x e = x := by
    unfold edH
    rw [if_neg hk.1, if_neg hk.2.1, if_neg hk.2.2.1, if_neg hk.2.2.2]
  rw [hed]
  obtain ⟨a, n, c, b, m, d, l0, u0, l0', u0', rfl, h1, h2, -⟩ := id h
  obtain ⟨hsz, hX, hE, hR, hB0⟩ := thrice w #[.slice a n c, .slice b m d] #[.int .i64 e.kind, .int .i64 e.n] #[.slice none 0 0, .slice none 0 0] 27 40 27
  have hlm := h2.len
  have hln := h1.len
  have KH := Lib.hid (specHello18_any (h.hel.same hB0) hn hm hit)
  have H1 := Lib.hid (h1.same hB0)
  have H2 := Lib.hid (h2.vals.same hB0)
  have HX := Lib.hid hX
  have HE := Lib.hid hE
  have HR := Lib.hid hR
  have HB := Lib.hid hB0
  have hk1 : (e.kind == 1) = false := by simpa using hk.1
  have hk2 : (e.kind == 2) = false := by simpa using hk.2.1
  have hk3 : (e.kind == 3) = false := by simpa using hk.2.2.1
  have hk6 : (e.kind == 6) = false := by simpa using hk.2.2.2
  clear h1 h2 h hed hk
  obtain ⟨x0, x1, -⟩ := two_cells hX
  unfold MadeHel
  go_enter Tryz.func69, Tryz.ntmps69
  go_wp2_with fail
  clear x0 x1 hX hE hR hB0
  generalize (((w.alloc (.cells #[.slice a n c, .slice b m d] 27)).alloc (.cells #[.int .i64 e.kind, .int .i64 e.n] 40)).alloc (.cells #[.slice none 0 0, .slice none 0 0] 27)) = W0 at *
  refine KH.out.mono ?_
  rintro e1 w1 ⟨v1, rfl, ⟨a1, n1, c1, b1, m1, d1, lo, hi, lo', hi', rfl, o1, o2, o3, l1, l2, l3, l4, l5, l6⟩, hb1⟩
  have hs1 := hb1.size
  have hA1 := alloc_same w1 (.cells #[.slice a1 n1 c1, .slice b1 m1 d1] 27)
  have HG0 : (w1.alloc (.cells #[.slice a1 n1 c1, .slice b1 m1 d1] 27)).heap[w1.heap.size]? = some (.cells #[.slice a1 n1 c1, .slice b1 m1 d1] 27 (0, 0)) := heap_alloc_new w1 _
  have HG := Lib.hid HG0
  have hbW : Below W0.heap.size W0 (w1.alloc (.cells #[.slice a1 n1 c1, .slice b1 m1 d1] 27)) := hb1.trans (hA1.mono hs1)
  have HBW := Lib.hid hbW
  have O1 := Lib.hid (o1.same hA1)
  have O2 := Lib.hid (o2.same hA1)
  have hsW : w1.heap.size < (w1.alloc (.cells #[.slice a1 n1 c1, .slice b1 m1 d1] 27)).heap.size := by simp
  have HXW := Lib.hid ((hbW.block w.heap.size (by omega)).trans HX.out)
  have HEW := Lib.hid ((hbW.block (w.heap.size + 1) (by omega)).trans HE.out)
  have HRW := Lib.hid ((hbW.block (w.heap.size + 2) (by omega)).trans HR.out)
  have HH := Lib.hid (H1.out.same hbW)
  have HV := Lib.hid (H2.out.same hbW)
  clear hb1 hA1 HG0 hbW o1 o2 KH HX HE HR H1 H2
  obtain ⟨x0, x1, -⟩ := two_cells HXW.out
  obtain ⟨y0, y1, -⟩ := two_cells HEW.out
  obtain ⟨f0, f1, -⟩ := two_cells HG.out
  have HR9 := Lib.hid (HRW.out)
  obtain ⟨rm0, rm1, rq0, rq1⟩ := two_cells HR9.out
  obtain ⟨z0, z1, -⟩ := two_put HR9.out (.slice a1 n1 c1) (.slice b1 m1 d1)
  have hgr := set2_grown (w1.alloc (.cells #[.slice a1 n1 c1, .slice b1 m1 d1] 27)) (w.heap.size + 2) (.slice a1 n1 c1) (.slice b1 m1 d1)
  go_wp2_with fail
  generalize hgen : w1.alloc (.cells #[.slice a1 n1 c1, .slice b1 m1 d1] 27) = W1 at *
  clear hgen
  (try simp only [Exit.inBlock, Exit.then])
  refine bodyPost_ret (by simp [results, Tryz.results69, go_sem, z0, z1]; try rfl) rfl ?_
  have hfin : OwnHel W1.heap.size W1 W0.heap.size (.agg #[.slice a1 n1 c1, .slice b1 m1 d1]) _ := own_hel (lo := lo) (hi := hi) (lo' := lo') (hi' := hi') O1.out O2.out o3 l1 l4 (by omega) (by omega) (Or.inl l2) (Nat.le_refl _)
  exact ⟨_, rfl, ((hfin.aside (one_inside hgr) (Or.inl (by omega))).lower (by omega)).top (by simp) (Nat.le_refl _), (HB.out.trans (HBW.out.mono (by omega))).grown hgr (by first | omega | (simp; omega)) (fun r e => by cases e; omega)⟩
set_option maxHeartbeats 4000000 in
set_option maxRecDepth 100000 in
theorem specEditH_6 {S B : Nat} {w : World} {v : Value} {x : Hel} {e : Et} (h : OwnHel S w B v x) (hw : (Lit.int .i64 e.kind).wf = true) (hn : x.vers.length ≤ 1048576) (hm : x.exts.length ≤ 1048576) (hit : itemsOf x.exts ≤ 1048576) (hk : e.kind = 6) :
    Calls Tryz.prog 69 #[v, .agg #[.int .i64 e.kind, .int .i64 e.n]] w (MadeHel w.heap.size (edH x e) w) := by
  have hed : edH x e = (⟨x.vers, addE e.n x.exts⟩ : Hel) := by
    unfold edH
    rw [hk]
    rw [if_neg (show ¬ (6 : Int) = 1 by decide), if_neg (show ¬ (6 : Int) = 2 by decide), if_neg (show ¬ (6 : Int) = 3 by decide), if_pos rfl]
  rw [hed]
  obtain ⟨a, n, c, b, m, d, l0, u0, l0', u0', rfl, h1, h2, -⟩ := id h
  obtain ⟨hsz, hX, hE, hR, hB0⟩ := thrice w #[.slice a n c, .slice b m d] #[.int .i64 e.kind, .int .i64 e.n] #[.slice none 0 0, .slice none 0 0] 27 40 27
  have hlm := h2.len
  have hln := h1.len
  have KH := Lib.hid (specHello18_any (h.hel.same hB0) hn hm hit)
  have H1 := Lib.hid (h1.same hB0)
  have H2 := Lib.hid (h2.vals.same hB0)
  have HX := Lib.hid hX
  have HE := Lib.hid hE
  have HR := Lib.hid hR
  have HB := Lib.hid hB0
  have hk1 : (e.kind == 1) = false := by rw [hk]; rfl
  have hk2 : (e.kind == 2) = false := by rw [hk]; rfl
  have hk3 : (e.kind == 3) = false := by rw [hk]; rfl
  have hk6 : (e.kind == 6) = true := by rw [hk]; rfl
  clear h1 h2 h hed hk
  obtain ⟨x0, x1, -⟩ := two_cells hX
  unfold MadeHel
  go_enter Tryz.func69, Tryz.ntmps69
  go_wp2_with fail
  clear x0 x1 hX hE hR hB0
  generalize (((w.alloc (.cells #[.slice a n c, .slice b m d] 27)).alloc (.cells #[.int .i64 e.kind, .int .i64 e.n] 40)).alloc (.cells #[.slice none 0 0, .slice none 0 0] 27)) = W0 at *
  refine KH.out.mono ?_
  rintro e1 w1 ⟨v1, rfl, ⟨a1, n1, c1, b1, m1, d1, lo, hi, lo', hi', rfl, o1, o2, o3, l1, l2, l3, l4, l5, l6⟩, hb1⟩
  have hs1 := hb1.size
  have hA1 := alloc_same w1 (.cells #[.slice a1 n1 c1, .slice b1 m1 d1] 27)
  have HG0 : (w1.alloc (.cells #[.slice a1 n1 c1, .slice b1 m1 d1] 27)).heap[w1.heap.size]? = some (.cells #[.slice a1 n1 c1, .slice b1 m1 d1] 27 (0, 0)) := heap_alloc_new w1 _
  have HG := Lib.hid HG0
  have hbW : Below W0.heap.size W0 (w1.alloc (.cells #[.slice a1 n1 c1, .slice b1 m1 d1] 27)) := hb1.trans (hA1.mono hs1)
  have HBW := Lib.hid hbW
  have O1 := Lib.hid (o1.same hA1)
  have O2 := Lib.hid (o2.same hA1)
  have hsW : w1.heap.size < (w1.alloc (.cells #[.slice a1 n1 c1, .slice b1 m1 d1] 27)).heap.size := by simp
  have HXW := Lib.hid ((hbW.block w.heap.size (by omega)).trans HX.out)
  have HEW := Lib.hid ((hbW.block (w.heap.size + 1) (by omega)).trans HE.out)
  have HRW := Lib.hid ((hbW.block (w.heap.size + 2) (by omega)).trans HR.out)
  have HH := Lib.hid (H1.out.same hbW)
  have HV := Lib.hid (H2.out.same hbW)
  clear hb1 hA1 HG0 hbW o1 o2 KH HX HE HR H1 H2
  obtain ⟨x0, x1, -⟩ := two_cells HXW.out
  obtain ⟨y0, y1, -⟩ := two_cells HEW.out
  obtain ⟨i0, ki, kz0, kz1, kz2⟩ := info_parts infoExtS
  have HI := Lib.hid (And.intro ki (And.intro kz0 (And.intro kz1 kz2)))
  clear ki kz0 kz1 kz2
  go_wp2_with fail
  generalize hgen : w1.alloc (.cells #[.slice a1 n1 c1, .slice b1 m1 d1] 27) = W1 at *
  clear hgen
  have CX := Lib.hid (two_cells HXW.out)
  have CE := Lib.hid (two_cells HEW.out)
  clear x0 x1 y0 y1
  have HBd : Hid (Below W1.heap.size W1 W1.drew) := Lib.hid (Below.refl _ _).drew
  have hd0 : W1.heap.size ≤ W1.drew.heap.size := Nat.le_refl _
  refine wp_region_held_drew (S := fun w9 => (w9.cell? ⟨w.heap.size, 0, none⟩ = some (.slice a n c) ∧ w9.cell? ⟨w.heap.size, 1, none⟩ = some (.slice b m d)) ∧ w9.cell? ⟨w.heap.size + 1, 0, none⟩ = some (.int .i64 e.kind) ∧ w9.cell? ⟨w.heap.size + 1, 1, none⟩ = some (.int .i64 e.n)) (by kernel_rfl) ⟨⟨cell_stay CX.out.1 HBd.out, cell_stay CX.out.2.1 HBd.out⟩, cell_stay CE.out.1 HBd.out, cell_stay CE.out.2.1 HBd.out⟩ (fun hHeld => ?_)
  refine wpAnyH_take (i := 0) (v := ?v6) (by simp only [List.getElem?_toArray, List.getElem?_cons_succ, List.getElem?_cons_zero]; rfl) (by kernel_rfl) (by kernel_rfl) (by kernel_rfl) (by exact fun _ _ _ h => h) (Or.inl ⟨by rfl, fun w9 hS9 => ?hy6⟩) hHeld ?rest6
  case hy6 =>
    dsimp only at hS9
    obtain ⟨⟨y0, y1⟩, y2, y3⟩ := hS9
    go_simp
    try with_reducible rfl
  try simp only [Act.put, List.setIfInBounds_toArray, List.set_cons_zero, List.set_cons_succ]
  refine wpAnyH_take (i := 1) (v := ?v7) (by simp only [List.getElem?_toArray, List.getElem?_cons_succ, List.getElem?_cons_zero]; rfl) (by kernel_rfl) (by kernel_rfl) (by kernel_rfl) (by exact fun _ _ _ h => h) (Or.inl ⟨by rfl, fun w9 hS9 => ?hy7⟩) hHeld ?rest7
  case hy7 =>
    dsimp only at hS9
    obtain ⟨⟨y0, y1⟩, y2, y3⟩ := hS9
    go_simp
    try with_reducible rfl
  try simp only [Act.put, List.setIfInBounds_toArray, List.set_cons_zero, List.set_cons_succ]
  refine wpAnyH_take (i := 3) (v := ?v8) (by simp only [List.getElem?_toArray, List.getElem?_cons_succ, List.getElem?_cons_zero]; rfl) (by kernel_rfl) (by kernel_rfl) (by kernel_rfl) (by exact fun _ _ _ h => h) (Or.inl ⟨by rfl, fun w9 hS9 => ?hy8⟩) hHeld ?rest8
  case hy8 =>
    dsimp only at hS9
    obtain ⟨⟨y0, y1⟩, y2, y3⟩ := hS9
    go_simp
    try with_reducible rfl
  try simp only [Act.put, List.setIfInBounds_toArray, List.set_cons_zero, List.set_cons_succ]
  refine wpAnyH_take (i := 4) (v := ?v9) (by simp only [List.getElem?_toArray, List.getElem?_cons_succ, List.getElem?_cons_zero]; rfl) (by kernel_rfl) (by kernel_rfl) (by kernel_rfl) (by exact fun _ _ _ h => h) (Or.inl ⟨by rfl, fun w9 hS9 => ?hy9⟩) hHeld ?rest9
  case hy9 =>
    dsimp only at hS9
    obtain ⟨⟨y0, y1⟩, y2, y3⟩ := hS9
    go_simp
    try with_reducible rfl
  try simp only [Act.put, List.setIfInBounds_toArray, List.set_cons_zero, List.set_cons_succ]
  refine wpAnyH_take (i := 5) (v := ?v10) (by simp only [List.getElem?_toArray, List.getElem?_cons_succ, List.getElem?_cons_zero]; rfl) (by kernel_rfl) (by kernel_rfl) (by kernel_rfl) (by exact fun _ _ _ h => h) (Or.inl ⟨by rfl, fun w9 hS9 => ?hy10⟩) hHeld ?rest10
  case hy10 =>
    dsimp only at hS9
    obtain ⟨⟨y0, y1⟩, y2, y3⟩ := hS9
    go_simp
    try with_reducible rfl
  try simp only [Act.put, List.setIfInBounds_toArray, List.set_cons_zero, List.set_cons_succ]
  refine wpAnyH_ready (rs := [2, 6]) (by kernel_rfl) (by simp) (AllReadyH.cons (by simp only [List.getElem?_toArray, List.getElem?_cons_succ, List.getElem?_cons_zero]; rfl) (fun K hK => ?_) (AllReadyH.cons (by simp only [List.getElem?_toArray, List.getElem?_cons_succ, List.getElem?_cons_zero]; rfl) (fun K hK => ?_) AllReadyH.nil))
  · skip
    go_simp
    refine (specCopy_any (c := d) (HV.out.same HBd.out) (by omega) hit).mono ?_
    rintro e2 w2 ⟨g2, d2, rfl, ho2, hb2⟩
    have HB2 : Hid (Below W1.heap.size W1 w2) := Lib.hid (HBd.out.trans (hb2.mono HBd.out.size))
    have HO2 := Lib.hid (ho2.lower HBd.out.size)
    have hs2 : W1.heap.size ≤ w2.heap.size := HB2.out.size
    clear ho2 hb2
    go_wp2_with fail
    refine hK.out _ _ ⟨⟨cell_stay CX.out.1 HB2.out, cell_stay CX.out.2.1 HB2.out⟩, cell_stay CE.out.1 HB2.out, cell_stay CE.out.2.1 HB2.out⟩ (fun hHeld => ?_)
    clear hK K
    try simp only [Act.put, List.setIfInBounds_toArray, List.set_cons_zero, List.set_cons_succ]
    refine wpAnyH_ready (rs := [6]) (by kernel_rfl) (by simp) (AllReadyH.cons (by simp only [List.getElem?_toArray, List.getElem?_cons_succ, List.getElem?_cons_zero]; rfl) (fun K hK => ?_) AllReadyH.nil)
    have HBa : Hid (Below w2.heap.size w2 (World.alloc w2 (.cells #[.int .i64 e.n, .slice none 0 0] 125))) := Lib.hid (alloc_same w2 (.cells #[.int .i64 e.n, .slice none 0 0] 125))
    have HB4 : Hid (Below W1.heap.size W1 (World.alloc w2 (.cells #[.int .i64 e.n, .slice none 0 0] 125))) := Lib.hid (HB2.out.trans (HBa.out.mono HB2.out.size))
    have HN : Hid (Items Vh.enc 2 (World.alloc w2 (.cells #[.int .i64 e.n, .slice none 0 0] 125)) (some ⟨w2.heap.size, 0, none⟩) 1 [⟨e.n, none, 0, 0⟩]) := Lib.hid (items_new Vh.enc_len w2 ⟨e.n, none, 0, 0⟩ 125)
    replace HO2 := Lib.hid (HO2.out.same HBa.out)
    go_simp
    refine hK.out _ _ ⟨⟨cell_stay CX.out.1 HB4.out, cell_stay CX.out.2.1 HB4.out⟩, cell_stay CE.out.1 HB4.out, cell_stay CE.out.2.1 HB4.out⟩ (fun hHeld => ?_)
    clear hK K
    try simp only [Act.put, List.setIfInBounds_toArray, List.set_cons_zero, List.set_cons_succ]
    refine wpAnyH_ready (rs := [7]) (by kernel_rfl) (by simp) (AllReadyH.cons (by simp only [List.getElem?_toArray, List.getElem?_cons_succ, List.getElem?_cons_zero]; rfl) (fun K hK => ?_) AllReadyH.nil)
    refine step_appV (S := (World.alloc w2 (.cells #[.int .i64 e.n, .slice none 0 0] 125)).heap.size) (B := W1.heap.size) _ (by rfl) (.tmp 45) (.tmp 49) 25 (by rfl) 125 3 i0 (.agg #[.int .i64 0, .slice none 0 0]) 32 Tryz.underlying25 HI.out.1 HI.out.2.1 HI.out.2.2.1 HI.out.2.2.2 (by rfl) (by rfl) HO2.out.lim (by rfl) HN.out Own.nil (fun ad e => by cases e) (by omega) ?c4 ?c5 ?_
    case c4 => omega
    case c5 => exact HB4.out.size
    intro a4 c4 w4 ho4 hb4
    have HB5 : Hid (Below W1.heap.size W1 w4) := Lib.hid (HB4.out.trans hb4)
    have HO4 := Lib.hid ho4
    have hs5 : W1.heap.size ≤ w4.heap.size := HB5.out.size
    clear ho4 hb4
    refine hK.out _ _ ⟨⟨cell_stay CX.out.1 HB5.out, cell_stay CX.out.2.1 HB5.out⟩, cell_stay CE.out.1 HB5.out, cell_stay CE.out.2.1 HB5.out⟩ (fun hHeld => ?_)
    clear hK K
    try simp only [Act.put, List.setIfInBounds_toArray, List.set_cons_zero, List.set_cons_succ]
    refine wpAnyH_take (i := 8) (v := ?v11) (by simp only [List.getElem?_toArray, List.getElem?_cons_succ, List.getElem?_cons_zero]; rfl) (by kernel_rfl) (by kernel_rfl) (by kernel_rfl) (by exact fun _ _ _ h => h) (Or.inl ⟨by rfl, fun w9 hS9 => ?hy11⟩) hHeld ?rest11
    case hy11 =>
      dsimp only at hS9
      obtain ⟨⟨y0, y1⟩, y2, y3⟩ := hS9
      go_simp
      try with_reducible rfl
    try simp only [Act.put, List.setIfInBounds_toArray, List.set_cons_zero, List.set_cons_succ]
    refine wpAnyH_done (by kernel_rfl) ?_ _
    have HA := Lib.hid (specAreExts_any (c := c4) HO4.out.vals)
    have HG4 := Lib.hid ((HB5.out.block w1.heap.size hsW).trans HG.out)
    have O14 := Lib.hid (O1.out.same HB5.out)
    have O24 := Lib.hid (O2.out.same HB5.out)
    have hrb : w4.heap[w.heap.size + 2]? = _ := (HB5.out.block (w.heap.size + 2) (by omega)).trans HRW.out
    have HBF : Hid (Below W0.heap.size W0 w4) := Lib.hid (HBW.out.trans (HB5.out.mono HBW.out.size))
    have HOL := Lib.hid HO4.out.lim
    cases hA : areX (x.exts ++ [⟨e.n, []⟩]) with
    | true =>
      rw [hA] at HA
      have HE9 := Lib.hid (addE_yes hA)
      clear hA
      go_wp2_with fail
      refine HA.out.mono ?_
      rintro e5 w5 ⟨rfl, rfl⟩
      obtain ⟨x0, x1, f0, f1⟩ := two_cells HG4.out
      have HG3 := Lib.hid (put_second HG4.out (.slice a4 (m + 1) c4))
      have hin := set_inside w4 w1.heap.size 1 (.slice a4 (m + 1) c4)
      have hrc := (hin.block (w.heap.size + 2) (by omega) (Or.inl (by omega))).trans hrb
      obtain ⟨x2, x3, -⟩ := two_cells HG3.out
      have HR9 := Lib.hid (hrc)
      obtain ⟨rm0, rm1, rq0, rq1⟩ := two_cells HR9.out
      obtain ⟨z0, z1, -⟩ := two_put HR9.out (.slice a1 n1 c1) (.slice a4 (m + 1) c4)
      have hgr := set2_grown (w4.setCell ⟨w1.heap.size, 1, none⟩ (.slice a4 (m + 1) c4)) (w.heap.size + 2) (.slice a1 n1 c1) (.slice a4 (m + 1) c4)
      go_wp2_with fail
      rw [HE9.out]
      (try simp only [Exit.inBlock, Exit.then])
      refine bodyPost_ret (by simp [results, Tryz.results69, go_sem, z0, z1]; try rfl) rfl ?_
      have hfin : OwnHel (w4.setCell ⟨w1.heap.size, 1, none⟩ (.slice a4 (m + 1) c4)).heap.size (w4.setCell ⟨w1.heap.size, 1, none⟩ (.slice a4 (m + 1) c4)) W0.heap.size (.agg #[.slice a1 n1 c1, .slice a4 (m + 1) c4]) _ := own_hel (lo := lo) (hi := hi) (lo' := W1.heap.size) (hi' := w4.heap.size) (O14.out.aside hin o3 (by omega)) (HOL.out.aside hin (by omega)) o3 l1 (by omega) (by simp; omega) (by simp) (Or.inl (by omega)) (Nat.le_refl _)
      exact ⟨_, rfl, ((hfin.aside (one_inside hgr) (Or.inl (by omega))).lower (by omega)).top (by simp) (Nat.le_refl _), (HB.out.trans ((hin.to HBF.out (by omega) (by omega)).mono (by omega))).grown hgr (by first | omega | (simp; omega)) (fun r e => by cases e; omega)⟩
    | false =>
      rw [hA] at HA
      have HE9 := Lib.hid (addE_no hA)
      clear hA
      go_wp2_with fail
      refine HA.out.mono ?_
      rintro e5 w5 ⟨rfl, rfl⟩
      obtain ⟨x0, x1, f0, f1⟩ := two_cells HG4.out
      have HR9 := Lib.hid (hrb)
      obtain ⟨rm0, rm1, rq0, rq1⟩ := two_cells HR9.out
      obtain ⟨z0, z1, -⟩ := two_put HR9.out (.slice a1 n1 c1) (.slice b1 m1 d1)
      have hgr := set2_grown w4 (w.heap.size + 2) (.slice a1 n1 c1) (.slice b1 m1 d1)
      go_wp2_with fail
      rw [HE9.out]
      (try simp only [Exit.inBlock, Exit.then])
      refine bodyPost_ret (by simp [results, Tryz.results69, go_sem, z0, z1]; try rfl) rfl ?_
      have hfin : OwnHel w4.heap.size w4 W0.heap.size (.agg #[.slice a1 n1 c1, .slice b1 m1 d1]) _ := own_hel (lo := lo) (hi := hi) (lo' := lo') (hi' := hi') O14.out O24.out o3 l1 l4 (by omega) (by omega) (Or.inl l2) (Nat.le_refl _)
      exact ⟨_, rfl, ((hfin.aside (one_inside hgr) (Or.inl (by omega))).lower (by omega)).top (by simp) (Nat.le_refl _), (HB.out.trans (HBF.out.mono (by omega))).grown hgr (by first | omega | (simp; omega)) (fun r e => by cases e; omega)⟩
  · skip
    have HBa : Hid (Below W1.heap.size W1 (World.alloc W1 (.cells #[.int .i64 e.n, .slice none 0 0] 125)).drew) := Lib.hid (alloc_same W1 (.cells #[.int .i64 e.n, .slice none 0 0] 125)).drew
    have HB4 : Hid (Below W1.heap.size W1 (World.alloc W1 (.cells #[.int .i64 e.n, .slice none 0 0] 125)).drew) := Lib.hid (HBa.out)
    have HN : Hid (Items Vh.enc 2 (World.alloc W1 (.cells #[.int .i64 e.n, .slice none 0 0] 125)).drew (some ⟨W1.heap.size, 0, none⟩) 1 [⟨e.n, none, 0, 0⟩]) := Lib.hid ((items_new Vh.enc_len W1 ⟨e.n, none, 0, 0⟩ 125).same (Below.refl _ _).drew)
    go_simp
    refine hK.out _ _ ⟨⟨cell_stay CX.out.1 HB4.out, cell_stay CX.out.2.1 HB4.out⟩, cell_stay CE.out.1 HB4.out, cell_stay CE.out.2.1 HB4.out⟩ (fun hHeld => ?_)
    clear hK K
    try simp only [Act.put, List.setIfInBounds_toArray, List.set_cons_zero, List.set_cons_succ]
    refine wpAnyH_ready (rs := [2]) (by kernel_rfl) (by simp) (AllReadyH.cons (by simp only [List.getElem?_toArray, List.getElem?_cons_succ, List.getElem?_cons_zero]; rfl) (fun K hK => ?_) AllReadyH.nil)
    go_simp
    refine (specCopy_any (c := d) (HV.out.same HB4.out) (by omega) hit).mono ?_
    rintro e2 w2 ⟨g2, d2, rfl, ho2, hb2⟩
    have HB2 : Hid (Below W1.heap.size W1 w2) := Lib.hid (HB4.out.trans (hb2.mono HB4.out.size))
    have HO2 := Lib.hid (ho2.lower HB4.out.size)
    have hs2 : W1.heap.size ≤ w2.heap.size := HB2.out.size
    replace HN := Lib.hid (HN.out.same hb2)
    clear ho2 hb2
    go_wp2_with fail
    refine hK.out _ _ ⟨⟨cell_stay CX.out.1 HB2.out, cell_stay CX.out.2.1 HB2.out⟩, cell_stay CE.out.1 HB2.out, cell_stay CE.out.2.1 HB2.out⟩ (fun hHeld => ?_)
    clear hK K
    try simp only [Act.put, List.setIfInBounds_toArray, List.set_cons_zero, List.set_cons_succ]
    refine wpAnyH_ready (rs := [7]) (by kernel_rfl) (by simp) (AllReadyH.cons (by simp only [List.getElem?_toArray, List.getElem?_cons_succ, List.getElem?_cons_zero]; rfl) (fun K hK => ?_) AllReadyH.nil)
    refine step_appV (S := w2.heap.size) (B := W1.heap.size) _ (by rfl) (.tmp 45) (.tmp 49) 25 (by rfl) 125 3 i0 (.agg #[.int .i64 0, .slice none 0 0]) 32 Tryz.underlying25 HI.out.1 HI.out.2.1 HI.out.2.2.1 HI.out.2.2.2 (by rfl) (by rfl) HO2.out.lim (by rfl) HN.out Own.nil (fun ad e => by cases e) (by omega) ?c4 ?c5 ?_
    case c4 => omega
    case c5 => exact HB2.out.size
    intro a4 c4 w4 ho4 hb4
    have HB5 : Hid (Below W1.heap.size W1 w4) := Lib.hid (HB2.out.trans hb4)
    have HO4 := Lib.hid ho4
    have hs5 : W1.heap.size ≤ w4.heap.size := HB5.out.size
    clear ho4 hb4
    refine hK.out _ _ ⟨⟨cell_stay CX.out.1 HB5.out, cell_stay CX.out.2.1 HB5.out⟩, cell_stay CE.out.1 HB5.out, cell_stay CE.out.2.1 HB5.out⟩ (fun hHeld => ?_)
    clear hK K
    try simp only [Act.put, List.setIfInBounds_toArray, List.set_cons_zero, List.set_cons_succ]
    refine wpAnyH_take (i := 8) (v := ?v12) (by simp only [List.getElem?_toArray, List.getElem?_cons_succ, List.getElem?_cons_zero]; rfl) (by kernel_rfl) (by kernel_rfl) (by kernel_rfl) (by exact fun _ _ _ h => h) (Or.inl ⟨by rfl, fun w9 hS9 => ?hy12⟩) hHeld ?rest12
    case hy12 =>
      dsimp only at hS9
      obtain ⟨⟨y0, y1⟩, y2, y3⟩ := hS9
      go_simp
      try with_reducible rfl
    try simp only [Act.put, List.setIfInBounds_toArray, List.set_cons_zero, List.set_cons_succ]
    refine wpAnyH_done (by kernel_rfl) ?_ _
    have HA := Lib.hid (specAreExts_any (c := c4) HO4.out.vals)
    have HG4 := Lib.hid ((HB5.out.block w1.heap.size hsW).trans HG.out)
    have O14 := Lib.hid (O1.out.same HB5.out)
    have O24 := Lib.hid (O2.out.same HB5.out)
    have hrb : w4.heap[w.heap.size + 2]? = _ := (HB5.out.block (w.heap.size + 2) (by omega)).trans HRW.out
    have HBF : Hid (Below W0.heap.size W0 w4) := Lib.hid (HBW.out.trans (HB5.out.mono HBW.out.size))
    have HOL := Lib.hid HO4.out.lim
    cases hA : areX (x.exts ++ [⟨e.n, []⟩]) with
    | true =>
      rw [hA] at HA
      have HE9 := Lib.hid (addE_yes hA)
      clear hA
      go_wp2_with fail
      refine HA.out.mono ?_
      rintro e5 w5 ⟨rfl, rfl⟩
      obtain ⟨x0, x1, f0, f1⟩ := two_cells HG4.out
      have HG3 := Lib.hid (put_second HG4.out (.slice a4 (m + 1) c4))
      have hin := set_inside w4 w1.heap.size 1 (.slice a4 (m + 1) c4)
      have hrc := (hin.block (w.heap.size + 2) (by omega) (Or.inl (by omega))).trans hrb
      obtain ⟨x2, x3, -⟩ := two_cells HG3.out
      have HR9 := Lib.hid (hrc)
      obtain ⟨rm0, rm1, rq0, rq1⟩ := two_cells HR9.out
      obtain ⟨z0, z1, -⟩ := two_put HR9.out (.slice a1 n1 c1) (.slice a4 (m + 1) c4)
      have hgr := set2_grown (w4.setCell ⟨w1.heap.size, 1, none⟩ (.slice a4 (m + 1) c4)) (w.heap.size + 2) (.slice a1 n1 c1) (.slice a4 (m + 1) c4)
      go_wp2_with fail
      rw [HE9.out]
      (try simp only [Exit.inBlock, Exit.then])
      refine bodyPost_ret (by simp [results, Tryz.results69, go_sem, z0, z1]; try rfl) rfl ?_
      have hfin : OwnHel (w4.setCell ⟨w1.heap.size, 1, none⟩ (.slice a4 (m + 1) c4)).heap.size (w4.setCell ⟨w1.heap.size, 1, none⟩ (.slice a4 (m + 1) c4)) W0.heap.size (.agg #[.slice a1 n1 c1, .slice a4 (m + 1) c4]) _ := own_hel (lo := lo) (hi := hi) (lo' := W1.heap.size) (hi' := w4.heap.size) (O14.out.aside hin o3 (by omega)) (HOL.out.aside hin (by omega)) o3 l1 (by omega) (by simp; omega) (by simp) (Or.inl (by omega)) (Nat.le_refl _)
      exact ⟨_, rfl, ((hfin.aside (one_inside hgr) (Or.inl (by omega))).lower (by omega)).top (by simp) (Nat.le_refl _), (HB.out.trans ((hin.to HBF.out (by omega) (by omega)).mono (by omega))).grown hgr (by first | omega | (simp; omega)) (fun r e => by cases e; omega)⟩
    | false =>
      rw [hA] at HA
      have HE9 := Lib.hid (addE_no hA)
      clear hA
      go_wp2_with fail
      refine HA.out.mono ?_
      rintro e5 w5 ⟨rfl, rfl⟩
      obtain ⟨x0, x1, f0, f1⟩ := two_cells HG4.out
      have HR9 := Lib.hid (hrb)
      obtain ⟨rm0, rm1, rq0, rq1⟩ := two_cells HR9.out
      obtain ⟨z0, z1, -⟩ := two_put HR9.out (.slice a1 n1 c1) (.slice b1 m1 d1)
      have hgr := set2_grown w4 (w.heap.size + 2) (.slice a1 n1 c1) (.slice b1 m1 d1)
      go_wp2_with fail
      rw [HE9.out]
      (try simp only [Exit.inBlock, Exit.then])
      refine bodyPost_ret (by simp [results, Tryz.results69, go_sem, z0, z1]; try rfl) rfl ?_
      have hfin : OwnHel w4.heap.size w4 W0.heap.size (.agg #[.slice a1 n1 c1, .slice b1 m1 d1]) _ := own_hel (lo := lo) (hi := hi) (lo' := lo') (hi' := hi') O14.out O24.out o3 l1 l4 (by omega) (by omega) (Or.inl l2) (Nat.le_refl _)
      exact ⟨_, rfl, ((hfin.aside (one_inside hgr) (Or.inl (by omega))).lower (by omega)).top (by simp) (Nat.le_refl _), (HB.out.trans (HBF.out.mono (by omega))).grown hgr (by first | omega | (simp; omega)) (fun r e => by cases e; omega)⟩
theorem specEditHello_any {S B : Nat} {w : World} {v : Value} {x : Hel} {e : Et} (h : OwnHel S w B v x) (hw : (Lit.int .i64 e.kind).wf = true) (hn : x.vers.length ≤ 1048576) (hm : x.exts.length ≤ 1048576) (hit : itemsOf x.exts ≤ 1048576) :
    Calls Tryz.prog 69 #[v, .agg #[.int .i64 e.kind, .int .i64 e.n]] w (MadeHel w.heap.size (edH x e) w) := by
  by_cases h1 : e.kind = 1
  · exact specEditH_1 h hw hn hm hit h1
  by_cases h2 : e.kind = 2
  · exact specEditH_2 h hw hn hm hit h2
  by_cases h3 : e.kind = 3
  · exact specEditH_3 h hw hn hm hit h3
  by_cases h6 : e.kind = 6
  · exact specEditH_6 h hw hn hm hit h6
  exact specEditH_0 h hw hn hm hit ⟨h1, h2, h3, h6⟩
end Go.Proofs.YtcmjadfpifpknaaGreat
namespace Go.Proofs.YtcmjadfpifpknaaGreat
open Go.ChangeShapes Go.WideShapes Go.ChangeAt Go.RowKit
set_option linter.unusedVariables false

def ChR (pw : World) (L : Ans) (g : Nat) (b : Option Addr) (m d : Nat) (W : World) : Prop :=
  Below pw.heap.size pw W ∧ W.heap[g]? = some (.cells #[.int .i64 L.ver, .slice b m d] 44 (0, 0)) ∧ (pw.heap.size ≤ g ∧ g < W.heap.size) ∧ ∃ lo S, OwnAns S W lo (.agg #[.int .i64 L.ver, .slice b m d]) L ∧ pw.heap.size ≤ lo ∧ S ≤ W.heap.size ∧ (g < lo ∨ S ≤ g)
def ChQ (R : Nat → Option Addr → Nat → Nat → World → Prop) (act : Nat → Value → Value → Value → Option Addr → Nat → Nat → Act) : Exit → Act → World → Prop
  | .normal, a, W => ∃ g u3 u5 u7 b m d, a = act g u3 u5 u7 b m d ∧ R g b m d W
  | _, _, _ => False
/-- One act and one condition for every order: the rest is walked once. -/
theorem ch_cut {P : Program} {c : Go.Code} {Q' : Exit → Act → World → Prop} {a : Act} {w : World} (R : Nat → Option Addr → Nat → Nat → World → Prop) (act : Nat → Value → Value → Value → Option Addr → Nat → Nat → Act)
    (h : c.wp P (ChQ R act) a w)
    (hr : ∀ g u3 u5 u7 b m d W', R g b m d W' → Q' .normal (act g u3 u5 u7 b m d) W') : c.wp P Q' a w :=
  Go.Code.wp_mono (fun e a' W' hq => by
    cases e with
    | normal =>
      obtain ⟨g, u3, u5, u7, b, m, d, ha, hR⟩ := hq
      subst ha
      exact hr g u3 u5 u7 b m d W' hR
    | _ => exact hq.elim) h
theorem chR_alloc {pw w : World} {L : Ans} {b : Option Addr} {m d : Nat} (hb : Below pw.heap.size pw w) (ho : OwnAns w.heap.size w pw.heap.size (.agg #[.int .i64 L.ver, .slice b m d]) L) : ChR pw L w.heap.size b m d (w.alloc (.cells #[.int .i64 L.ver, .slice b m d] 44)) :=
  ⟨hb.alloc hb.size _, heap_alloc_new w _, ⟨hb.size, by simp⟩, _, _, ho.same ((Below.refl _ w).alloc (Nat.le_refl _) _), Nat.le_refl _, by simp, Or.inr (Nat.le_refl _)⟩
theorem chR_store {pw w v : World} {L : Ans} {g : Nat} {b : Option Addr} {m d : Nat} (hb : Below pw.heap.size pw v) (hg : pw.heap.size ≤ g) (hz : v.heap[g]? = some (.cells #[.int .i64 0, .slice none 0 0] 44 (0, 0))) (hgw : g < w.heap.size) (hwv : w.heap.size ≤ v.heap.size)
    (ho : OwnAns v.heap.size v w.heap.size (.agg #[.int .i64 L.ver, .slice b m d]) L) : ChR pw L g b m d ((v.setCell ⟨g, 0, none⟩ (.int .i64 L.ver)).setCell ⟨g, 1, none⟩ (.slice b m d)) := by
  obtain ⟨z0, z1, hZ⟩ := two_put hz (.int .i64 L.ver) (.slice b m d)
  have hi : Inside g (g + 1) v ((v.setCell ⟨g, 0, none⟩ (.int .i64 L.ver)).setCell ⟨g, 1, none⟩ (.slice b m d)) :=
    Inside.row (lo := g) (hi := g + 1) ((set_grown v g 0 _).trans (set_grown _ g 1 _)) (fun r e => by cases e; exact ⟨Nat.le_refl _, Nat.lt_succ_self _⟩)
  exact ⟨(hb.setCell hg _).setCell hg _, hZ, ⟨hg, by simp; omega⟩, w.heap.size, v.heap.size, ho.aside hi (Or.inl (by omega)), by have := hb.size; omega, by simp, Or.inl hgw⟩
end Go.Proofs.YtcmjadfpifpknaaGreat
namespace Go.Proofs.YtcmjadfpifpknaaGreat
open Go.ChangeShapes Go.WideShapes Go.ChangeAt Go.RowKit
set_option linter.unusedVariables false
set_option linter.unusedSimpArgs false

theorem specCopy_len {a : Option Addr} {n c : Nat} {l : List Vl} {w : World} (h : Vals w a n l) (hn : n ≤ 1048576) (hit : itemsOf l ≤ 1048576) :
    Calls Tryz.prog 111 #[.slice a n c] w (fun e w' => ∃ p q d, e = .returned (.slice p q d) ∧ OwnV 125 3 w' w.heap.size p q d l ∧ Below w.heap.size w w') :=
  (specCopy_any h hn hit).mono fun _ _ ⟨_, _, h1, h2, h3⟩ => ⟨_, _, _, h1, h2, h3⟩
set_option maxHeartbeats 4000000 in
set_option maxRecDepth 100000 in
theorem specEditA_0 {w : World} {v : Value} {x : Ans} {e : Et} (h : AnsW w v x) (hw : (Lit.int .i64 e.kind).wf = true) (hm : x.exts.length ≤ 1048576) (hit : itemsOf x.exts ≤ 1048576) (hk : ¬ e.kind = 4 ∧ ¬ e.kind = 5) :
    Calls Tryz.prog 71 #[v, .agg #[.int .i64 e.kind, .int .i64 e.n]] w (MadeAns w.heap.size (edA x e) w) := by
  have hed : edA x e = x := by
    unfold edA
    rw [if_neg hk.1, if_neg hk.2]
  rw [hed]
  obtain ⟨b, m, d, rfl, h2, hc2⟩ := h
  obtain ⟨hsz, hX, hE, hR, hB0⟩ := thrice w #[.int .i64 x.ver, .slice b m d] #[.int .i64 e.kind, .int .i64 e.n] #[.int .i64 0, .slice none 0 0] 44 40 44
  have hlm := h2.len
  have HV := Lib.hid (h2.same hB0)
  have CX := Lib.hid (two_cells hX)
  have CE := Lib.hid (two_cells hE)
  have HX := Lib.hid hX
  have HE := Lib.hid hE
  have HR0 := Lib.hid hR
  have HB := Lib.hid hB0
  have hk4 : (e.kind == 4) = false := by simpa using hk.1
  have hk5 : (e.kind == 5) = false := by simpa using hk.2
  clear h2 hed hk hX hE hR hB0
  unfold MadeAns
  go_enter Tryz.func71, Tryz.ntmps71
  go_wp2_with fail
  generalize (((w.alloc (.cells #[.int .i64 x.ver, .slice b m d] 44)).alloc (.cells #[.int .i64 e.kind, .int .i64 e.n] 40)).alloc (.cells #[.int .i64 0, .slice none 0 0] 44)) = W0 at *
  have HBd : Hid (Below W0.heap.size W0 W0.drew) := Lib.hid (Below.refl _ _).drew
  have hd0 : W0.heap.size ≤ W0.drew.heap.size := Nat.le_refl _
  apply ch_cut (ChR W0 x)
  case h =>
    refine wp_region_held_drew (S := fun w9 => (w9.cell? ⟨w.heap.size, 0, none⟩ = some (.int .i64 x.ver) ∧ w9.cell? ⟨w.heap.size, 1, none⟩ = some (.slice b m d)) ∧ w9.cell? ⟨w.heap.size + 1, 0, none⟩ = some (.int .i64 e.kind) ∧ w9.cell? ⟨w.heap.size + 1, 1, none⟩ = some (.int .i64 e.n)) (by kernel_rfl) ⟨⟨(cell_stay CX.out.1 HBd.out), (cell_stay CX.out.2.1 HBd.out)⟩, (cell_stay CE.out.1 HBd.out), (cell_stay CE.out.2.1 HBd.out)⟩ (fun hHeld => ?_)
    refine wpAnyH_take (i := 0) (v := ?v1) (by simp only [List.getElem?_toArray, List.getElem?_cons_succ, List.getElem?_cons_zero]; rfl) (by kernel_rfl) (by kernel_rfl) (by kernel_rfl) (by exact fun _ _ _ h => h) (Or.inl ⟨by rfl, fun w9 hS9 => ?hy1⟩) hHeld ?rest1
    case hy1 =>
      dsimp only at hS9
      obtain ⟨⟨y0, y1⟩, y2, y3⟩ := hS9
      go_simp
      try with_reducible rfl
    try simp only [Act.put, List.setIfInBounds_toArray, List.set_cons_zero, List.set_cons_succ]
    refine wpAnyH_take (i := 1) (v := ?v2) (by simp only [List.getElem?_toArray, List.getElem?_cons_succ, List.getElem?_cons_zero]; rfl) (by kernel_rfl) (by kernel_rfl) (by kernel_rfl) (by exact fun _ _ _ h => h) (Or.inl ⟨by rfl, fun w9 hS9 => ?hy2⟩) hHeld ?rest2
    case hy2 =>
      dsimp only at hS9
      obtain ⟨⟨y0, y1⟩, y2, y3⟩ := hS9
      go_simp
      try with_reducible rfl
    try simp only [Act.put, List.setIfInBounds_toArray, List.set_cons_zero, List.set_cons_succ]
    refine wpAnyH_take (i := 2) (v := ?v3) (by simp only [List.getElem?_toArray, List.getElem?_cons_succ, List.getElem?_cons_zero]; rfl) (by kernel_rfl) (by kernel_rfl) (by kernel_rfl) (by exact fun _ _ _ h => h) (Or.inl ⟨by rfl, fun w9 hS9 => ?hy3⟩) hHeld ?rest3
    case hy3 =>
      dsimp only at hS9
      obtain ⟨⟨y0, y1⟩, y2, y3⟩ := hS9
      go_simp
      try with_reducible rfl
    try simp only [Act.put, List.setIfInBounds_toArray, List.set_cons_zero, List.set_cons_succ]
    refine wpAnyH_take (i := 3) (v := ?v4) (by simp only [List.getElem?_toArray, List.getElem?_cons_succ, List.getElem?_cons_zero]; rfl) (by kernel_rfl) (by kernel_rfl) (by kernel_rfl) (by exact fun _ _ _ h => h) (Or.inl ⟨by rfl, fun w9 hS9 => ?hy4⟩) hHeld ?rest4
    case hy4 =>
      dsimp only at hS9
      obtain ⟨⟨y0, y1⟩, y2, y3⟩ := hS9
      go_simp
      try with_reducible rfl
    try simp only [Act.put, List.setIfInBounds_toArray, List.set_cons_zero, List.set_cons_succ]
    refine wpAnyH_ready (rs := [4, 6]) (by kernel_rfl) (by simp) (AllReadyH.cons (by simp only [List.getElem?_toArray, List.getElem?_cons_succ, List.getElem?_cons_zero]; rfl) (fun K hK => ?_) (AllReadyH.cons (by simp only [List.getElem?_toArray, List.getElem?_cons_succ, List.getElem?_cons_zero]; rfl) (fun K hK => ?_) AllReadyH.nil))
    · skip
      go_simp
      refine (specCopy_len (c := d) (HV.out.same HBd.out) (by omega) hit).mono ?_
      rintro e2 w2 ⟨b2, m2, d2, rfl, ho2, hb2⟩
      have HB2 : Hid (Below W0.heap.size W0 w2) := Lib.hid (HBd.out.trans (hb2.mono HBd.out.size))
      have HO2 : Hid (OwnAns w2.heap.size w2 W0.drew.heap.size (.agg #[.int .i64 x.ver, .slice b2 m2 d2]) x) := Lib.hid (own_ans ho2.lim (Nat.le_refl _) (Nat.le_refl _) (Nat.le_refl _))
      have hs2 : W0.drew.heap.size ≤ w2.heap.size := hb2.size
      clear ho2 hb2
      go_wp2_with fail
      refine hK.out _ _ ⟨⟨(cell_stay CX.out.1 HB2.out), (cell_stay CX.out.2.1 HB2.out)⟩, (cell_stay CE.out.1 HB2.out), (cell_stay CE.out.2.1 HB2.out)⟩ (fun hHeld => ?_)
      clear hK K
      try simp only [Act.put, List.setIfInBounds_toArray, List.set_cons_zero, List.set_cons_succ]
      refine wpAnyH_take (i := 5) (v := ?v5) (by simp only [List.getElem?_toArray, List.getElem?_cons_succ, List.getElem?_cons_zero]; rfl) (by kernel_rfl) (by kernel_rfl) (by kernel_rfl) (by exact fun _ _ _ h => h) (Or.inl ⟨by rfl, fun w9 hS9 => ?hy5⟩) hHeld ?rest5
      case hy5 =>
        dsimp only at hS9
        obtain ⟨⟨y0, y1⟩, y2, y3⟩ := hS9
        go_simp
        try with_reducible rfl
      try simp only [Act.put, List.setIfInBounds_toArray, List.set_cons_zero, List.set_cons_succ]
      refine wpAnyH_ready (rs := [6]) (by kernel_rfl) (by simp) (AllReadyH.cons (by simp only [List.getElem?_toArray, List.getElem?_cons_succ, List.getElem?_cons_zero]; rfl) (fun K hK => ?_) AllReadyH.nil)
      have HB4 : Hid (Below W0.heap.size W0 (World.alloc w2 (.cells #[.int .i64 0, .slice none 0 0] 44))) := Lib.hid (HB2.out.trans ((alloc_same w2 (.cells #[.int .i64 0, .slice none 0 0] 44)).mono HB2.out.size))
      go_simp
      refine hK.out _ _ ⟨⟨(cell_stay CX.out.1 HB4.out), (cell_stay CX.out.2.1 HB4.out)⟩, (cell_stay CE.out.1 HB4.out), (cell_stay CE.out.2.1 HB4.out)⟩ (fun hHeld => ?_)
      clear hK K
      try simp only [Act.put, List.setIfInBounds_toArray, List.set_cons_zero, List.set_cons_succ]
      refine wpAnyH_ready (rs := [7]) (by kernel_rfl) (by simp) (AllReadyH.cons (by simp only [List.getElem?_toArray, List.getElem?_cons_succ, List.getElem?_cons_zero]; rfl) (fun K hK => ?_) AllReadyH.nil)
      have HR := Lib.hid (chR_alloc (L := x) HB2.out ((HO2.out.lower hd0)))
      have HB6 : Hid (Below W0.heap.size W0 (World.alloc w2 (.cells #[.int .i64 x.ver, .slice b2 m2 d2] 44))) := Lib.hid HR.out.1
      go_simp
      refine hK.out _ _ ⟨⟨(cell_stay CX.out.1 HB6.out), (cell_stay CX.out.2.1 HB6.out)⟩, (cell_stay CE.out.1 HB6.out), (cell_stay CE.out.2.1 HB6.out)⟩ (fun hHeld => ?_)
      clear hK K
      try simp only [Act.put, List.setIfInBounds_toArray, List.set_cons_zero, List.set_cons_succ]
      refine wpAnyH_done (by kernel_rfl) ?_ _
      have HR9 := HR
      have hfin : ChR W0 x w2.heap.size b2 m2 d2 _ := HR9.out
      generalize w2.heap.size = g at hfin ⊢
      obtain ⟨u3, -⟩ : ∃ u : Value, u = undef := ⟨_, rfl⟩
      obtain ⟨u5, -⟩ : ∃ u : Value, u = undef := ⟨_, rfl⟩
      obtain ⟨u7, -⟩ : ∃ u : Value, u = undef := ⟨_, rfl⟩
      exact ⟨g, u3, u5, u7, b2, m2, d2, rfl, hfin⟩
    · skip
      have HB4 : Hid (Below W0.heap.size W0 (World.alloc W0 (.cells #[.int .i64 0, .slice none 0 0] 44)).drew) := Lib.hid (alloc_same W0 (.cells #[.int .i64 0, .slice none 0 0] 44)).drew
      have HZ : Hid ((World.alloc W0 (.cells #[.int .i64 0, .slice none 0 0] 44)).drew.heap[W0.heap.size]? = some (.cells #[.int .i64 0, .slice none 0 0] 44 (0, 0))) := Lib.hid (heap_alloc_new W0 _)
      have HgZ : Hid (W0.heap.size < (World.alloc W0 (.cells #[.int .i64 0, .slice none 0 0] 44)).drew.heap.size) := Lib.hid (by simp)
      go_simp
      refine hK.out _ _ ⟨⟨(cell_stay CX.out.1 HB4.out), (cell_stay CX.out.2.1 HB4.out)⟩, (cell_stay CE.out.1 HB4.out), (cell_stay CE.out.2.1 HB4.out)⟩ (fun hHeld => ?_)
      clear hK K
      try simp only [Act.put, List.setIfInBounds_toArray, List.set_cons_zero, List.set_cons_succ]
      refine wpAnyH_ready (rs := [4]) (by kernel_rfl) (by simp) (AllReadyH.cons (by simp only [List.getElem?_toArray, List.getElem?_cons_succ, List.getElem?_cons_zero]; rfl) (fun K hK => ?_) AllReadyH.nil)
      go_simp
      refine (specCopy_len (c := d) (HV.out.same HB4.out) (by omega) hit).mono ?_
      rintro e2 w2 ⟨b2, m2, d2, rfl, ho2, hb2⟩
      have HB2 : Hid (Below W0.heap.size W0 w2) := Lib.hid (HB4.out.trans (hb2.mono HB4.out.size))
      have HO2 : Hid (OwnAns w2.heap.size w2 (World.alloc W0 (.cells #[.int .i64 0, .slice none 0 0] 44)).drew.heap.size (.agg #[.int .i64 x.ver, .slice b2 m2 d2]) x) := Lib.hid (own_ans ho2.lim (Nat.le_refl _) (Nat.le_refl _) (Nat.le_refl _))
      have hs2 : (World.alloc W0 (.cells #[.int .i64 0, .slice none 0 0] 44)).drew.heap.size ≤ w2.heap.size := hb2.size
      replace HZ := Lib.hid ((hb2.block _ HgZ.out).trans HZ.out)
      clear ho2 hb2
      go_wp2_with fail
      refine hK.out _ _ ⟨⟨(cell_stay CX.out.1 HB2.out), (cell_stay CX.out.2.1 HB2.out)⟩, (cell_stay CE.out.1 HB2.out), (cell_stay CE.out.2.1 HB2.out)⟩ (fun hHeld => ?_)
      clear hK K
      try simp only [Act.put, List.setIfInBounds_toArray, List.set_cons_zero, List.set_cons_succ]
      refine wpAnyH_take (i := 5) (v := ?v6) (by simp only [List.getElem?_toArray, List.getElem?_cons_succ, List.getElem?_cons_zero]; rfl) (by kernel_rfl) (by kernel_rfl) (by kernel_rfl) (by exact fun _ _ _ h => h) (Or.inl ⟨by rfl, fun w9 hS9 => ?hy6⟩) hHeld ?rest6
      case hy6 =>
        dsimp only at hS9
        obtain ⟨⟨y0, y1⟩, y2, y3⟩ := hS9
        go_simp
        try with_reducible rfl
      try simp only [Act.put, List.setIfInBounds_toArray, List.set_cons_zero, List.set_cons_succ]
      refine wpAnyH_ready (rs := [7]) (by kernel_rfl) (by simp) (AllReadyH.cons (by simp only [List.getElem?_toArray, List.getElem?_cons_succ, List.getElem?_cons_zero]; rfl) (fun K hK => ?_) AllReadyH.nil)
      have HR := Lib.hid (chR_store (pw := W0) (w := (World.alloc W0 (.cells #[.int .i64 0, .slice none 0 0] 44)).drew) (L := x) HB2.out (Nat.le_refl _) HZ.out HgZ.out hs2 HO2.out)
      have HB6 : Hid (Below W0.heap.size W0 ((w2.setCell ⟨W0.heap.size, 0, none⟩ (.int .i64 x.ver)).setCell ⟨W0.heap.size, 1, none⟩ (.slice b2 m2 d2))) := Lib.hid HR.out.1
      obtain ⟨rm0, rm1, rq0, rq1⟩ := two_cells HZ.out
      obtain ⟨rz0, rz1, -⟩ := two_put HZ.out (.int .i64 x.ver) (.slice b2 m2 d2)
      go_simp
      refine hK.out _ _ ⟨⟨(cell_stay CX.out.1 HB6.out), (cell_stay CX.out.2.1 HB6.out)⟩, (cell_stay CE.out.1 HB6.out), (cell_stay CE.out.2.1 HB6.out)⟩ (fun hHeld => ?_)
      clear hK K
      try simp only [Act.put, List.setIfInBounds_toArray, List.set_cons_zero, List.set_cons_succ]
      refine wpAnyH_done (by kernel_rfl) ?_ _
      have HR9 := HR
      have hfin : ChR W0 x W0.heap.size b2 m2 d2 _ := HR9.out
      generalize W0.heap.size = g at hfin ⊢
      obtain ⟨u3, -⟩ : ∃ u : Value, u = undef := ⟨_, rfl⟩
      obtain ⟨u5, -⟩ : ∃ u : Value, u = undef := ⟨_, rfl⟩
      obtain ⟨u7, -⟩ : ∃ u : Value, u = undef := ⟨_, rfl⟩
      exact ⟨g, u3, u5, u7, b2, m2, d2, rfl, hfin⟩
  intro g u3 u5 u7 b2 m2 d2 W1 hR
  obtain ⟨hb, hbox, hgp, lo, S, ho, hlo, hS, hgd⟩ := hR
  obtain ⟨b9, m9, d9, lo1, hi1, heq, hov, hl1, hl2, hl3⟩ := ho
  obtain ⟨rfl, rfl, rfl⟩ : b2 = b9 ∧ m2 = m9 ∧ d2 = d9 := by simpa using heq
  have HBW := Lib.hid hb
  have hsW := hb.size
  have HG := Lib.hid hbox
  have O2 := Lib.hid hov
  have HXW := Lib.hid ((hb.block w.heap.size (by omega)).trans HX.out)
  have HEW := Lib.hid ((hb.block (w.heap.size + 1) (by omega)).trans HE.out)
  have HRW := Lib.hid ((hb.block (w.heap.size + 2) (by omega)).trans HR0.out)
  replace HV := Lib.hid (HV.out.same hb)
  clear hb hbox hov heq CX CE HX HE HR0 HBd
  obtain ⟨x0, x1, -⟩ := two_cells HXW.out
  obtain ⟨y0, y1, -⟩ := two_cells HEW.out
  obtain ⟨f0, f1, f2, f3⟩ := two_cells HG.out
  have HR9 := Lib.hid (HRW.out)
  obtain ⟨rm0, rm1, rq0, rq1⟩ := two_cells HR9.out
  obtain ⟨z0, z1, -⟩ := two_put HR9.out (.int .i64 x.ver) (.slice b2 m2 d2)
  have hgr := set2_grown W1 (w.heap.size + 2) (.int .i64 x.ver) (.slice b2 m2 d2)
  go_wp2_with fail
  (try simp only [Exit.inBlock, Exit.then])
  refine bodyPost_ret (by simp [results, Tryz.results71, go_sem, z0, z1]; try rfl) rfl ?_
  have hfin : OwnAns W1.heap.size W1 W0.heap.size (.agg #[.int .i64 x.ver, .slice b2 m2 d2]) _ := own_ans (lo := lo1) (hi := hi1) O2.out (by omega) (by omega) (Nat.le_refl _)
  exact ⟨_, rfl, ((hfin.aside (one_inside hgr) (Or.inl (by omega))).lower (by omega)).top (by simp) (Nat.le_refl _), (HB.out.trans (HBW.out.mono (by omega))).grown hgr (by first | omega | (simp; omega)) (fun r e => by cases e; omega)⟩
set_option maxHeartbeats 4000000 in
set_option maxRecDepth 100000 in
theorem specEditA_4n {w : World} {v : Value} {x : Ans} {e : Et} (h : AnsW w v x) (hw : (Lit.int .i64 e.kind).wf = true) (hm : x.exts.length ≤ 1048576) (hit : itemsOf x.exts ≤ 1048576) (hk : e.kind = 4) (hv : inBd e.n 1 9 = false) :
    Calls Tryz.prog 71 #[v, .agg #[.int .i64 e.kind, .int .i64 e.n]] w (MadeAns w.heap.size (edA x e) w) := by
  have hed : edA x e = x := by
    unfold edA setV
    rw [if_pos hk, if_neg (by rw [hv]; decide)]
  rw [hed]
  obtain ⟨b, m, d, rfl, h2, hc2⟩ := h
  obtain ⟨hsz, hX, hE, hR, hB0⟩ := thrice w #[.int .i64 x.ver, .slice b m d] #[.int .i64 e.kind, .int .i64 e.n] #[.int .i64 0, .slice none 0 0] 44 40 44
  have hlm := h2.len
  have HV := Lib.hid (h2.same hB0)
  have CX := Lib.hid (two_cells hX)
  have CE := Lib.hid (two_cells hE)
  have HX := Lib.hid hX
  have HE := Lib.hid hE
  have HR0 := Lib.hid hR
  have HB := Lib.hid hB0
  have hk4 : (e.kind == 4) = true := by rw [hk]; rfl
  have hk5 : (e.kind == 5) = false := by rw [hk]; rfl
  clear h2 hed hk hX hE hR hB0
  unfold MadeAns
  go_enter Tryz.func71, Tryz.ntmps71
  go_wp2_with fail
  generalize (((w.alloc (.cells #[.int .i64 x.ver, .slice b m d] 44)).alloc (.cells #[.int .i64 e.kind, .int .i64 e.n] 40)).alloc (.cells #[.int .i64 0, .slice none 0 0] 44)) = W0 at *
  have HBd : Hid (Below W0.heap.size W0 W0.drew) := Lib.hid (Below.refl _ _).drew
  have hd0 : W0.heap.size ≤ W0.drew.heap.size := Nat.le_refl _
  apply ch_cut (ChR W0 x)
  case h =>
    refine wp_region_held_drew (S := fun w9 => (w9.cell? ⟨w.heap.size, 0, none⟩ = some (.int .i64 x.ver) ∧ w9.cell? ⟨w.heap.size, 1, none⟩ = some (.slice b m d)) ∧ w9.cell? ⟨w.heap.size + 1, 0, none⟩ = some (.int .i64 e.kind) ∧ w9.cell? ⟨w.heap.size + 1, 1, none⟩ = some (.int .i64 e.n)) (by kernel_rfl) ⟨⟨(cell_stay CX.out.1 HBd.out), (cell_stay CX.out.2.1 HBd.out)⟩, (cell_stay CE.out.1 HBd.out), (cell_stay CE.out.2.1 HBd.out)⟩ (fun hHeld => ?_)
    refine wpAnyH_take (i := 0) (v := ?v7) (by simp only [List.getElem?_toArray, List.getElem?_cons_succ, List.getElem?_cons_zero]; rfl) (by kernel_rfl) (by kernel_rfl) (by kernel_rfl) (by exact fun _ _ _ h => h) (Or.inl ⟨by rfl, fun w9 hS9 => ?hy7⟩) hHeld ?rest7
    case hy7 =>
      dsimp only at hS9
      obtain ⟨⟨y0, y1⟩, y2, y3⟩ := hS9
      go_simp
      try with_reducible rfl
    try simp only [Act.put, List.setIfInBounds_toArray, List.set_cons_zero, List.set_cons_succ]
    refine wpAnyH_take (i := 1) (v := ?v8) (by simp only [List.getElem?_toArray, List.getElem?_cons_succ, List.getElem?_cons_zero]; rfl) (by kernel_rfl) (by kernel_rfl) (by kernel_rfl) (by exact fun _ _ _ h => h) (Or.inl ⟨by rfl, fun w9 hS9 => ?hy8⟩) hHeld ?rest8
    case hy8 =>
      dsimp only at hS9
      obtain ⟨⟨y0, y1⟩, y2, y3⟩ := hS9
      go_simp
      try with_reducible rfl
    try simp only [Act.put, List.setIfInBounds_toArray, List.set_cons_zero, List.set_cons_succ]
    refine wpAnyH_take (i := 2) (v := ?v9) (by simp only [List.getElem?_toArray, List.getElem?_cons_succ, List.getElem?_cons_zero]; rfl) (by kernel_rfl) (by kernel_rfl) (by kernel_rfl) (by exact fun _ _ _ h => h) (Or.inl ⟨by rfl, fun w9 hS9 => ?hy9⟩) hHeld ?rest9
    case hy9 =>
      dsimp only at hS9
      obtain ⟨⟨y0, y1⟩, y2, y3⟩ := hS9
      go_simp
      try with_reducible rfl
    try simp only [Act.put, List.setIfInBounds_toArray, List.set_cons_zero, List.set_cons_succ]
    refine wpAnyH_take (i := 3) (v := ?v10) (by simp only [List.getElem?_toArray, List.getElem?_cons_succ, List.getElem?_cons_zero]; rfl) (by kernel_rfl) (by kernel_rfl) (by kernel_rfl) (by exact fun _ _ _ h => h) (Or.inl ⟨by rfl, fun w9 hS9 => ?hy10⟩) hHeld ?rest10
    case hy10 =>
      dsimp only at hS9
      obtain ⟨⟨y0, y1⟩, y2, y3⟩ := hS9
      go_simp
      try with_reducible rfl
    try simp only [Act.put, List.setIfInBounds_toArray, List.set_cons_zero, List.set_cons_succ]
    refine wpAnyH_ready (rs := [4, 6]) (by kernel_rfl) (by simp) (AllReadyH.cons (by simp only [List.getElem?_toArray, List.getElem?_cons_succ, List.getElem?_cons_zero]; rfl) (fun K hK => ?_) (AllReadyH.cons (by simp only [List.getElem?_toArray, List.getElem?_cons_succ, List.getElem?_cons_zero]; rfl) (fun K hK => ?_) AllReadyH.nil))
    · skip
      go_simp
      refine (specCopy_len (c := d) (HV.out.same HBd.out) (by omega) hit).mono ?_
      rintro e2 w2 ⟨b2, m2, d2, rfl, ho2, hb2⟩
      have HB2 : Hid (Below W0.heap.size W0 w2) := Lib.hid (HBd.out.trans (hb2.mono HBd.out.size))
      have HO2 : Hid (OwnAns w2.heap.size w2 W0.drew.heap.size (.agg #[.int .i64 x.ver, .slice b2 m2 d2]) x) := Lib.hid (own_ans ho2.lim (Nat.le_refl _) (Nat.le_refl _) (Nat.le_refl _))
      have hs2 : W0.drew.heap.size ≤ w2.heap.size := hb2.size
      clear ho2 hb2
      go_wp2_with fail
      refine hK.out _ _ ⟨⟨(cell_stay CX.out.1 HB2.out), (cell_stay CX.out.2.1 HB2.out)⟩, (cell_stay CE.out.1 HB2.out), (cell_stay CE.out.2.1 HB2.out)⟩ (fun hHeld => ?_)
      clear hK K
      try simp only [Act.put, List.setIfInBounds_toArray, List.set_cons_zero, List.set_cons_succ]
      refine wpAnyH_take (i := 5) (v := ?v11) (by simp only [List.getElem?_toArray, List.getElem?_cons_succ, List.getElem?_cons_zero]; rfl) (by kernel_rfl) (by kernel_rfl) (by kernel_rfl) (by exact fun _ _ _ h => h) (Or.inl ⟨by rfl, fun w9 hS9 => ?hy11⟩) hHeld ?rest11
      case hy11 =>
        dsimp only at hS9
        obtain ⟨⟨y0, y1⟩, y2, y3⟩ := hS9
        go_simp
        try with_reducible rfl
      try simp only [Act.put, List.setIfInBounds_toArray, List.set_cons_zero, List.set_cons_succ]
      refine wpAnyH_ready (rs := [6]) (by kernel_rfl) (by simp) (AllReadyH.cons (by simp only [List.getElem?_toArray, List.getElem?_cons_succ, List.getElem?_cons_zero]; rfl) (fun K hK => ?_) AllReadyH.nil)
      have HB4 : Hid (Below W0.heap.size W0 (World.alloc w2 (.cells #[.int .i64 0, .slice none 0 0] 44))) := Lib.hid (HB2.out.trans ((alloc_same w2 (.cells #[.int .i64 0, .slice none 0 0] 44)).mono HB2.out.size))
      go_simp
      refine hK.out _ _ ⟨⟨(cell_stay CX.out.1 HB4.out), (cell_stay CX.out.2.1 HB4.out)⟩, (cell_stay CE.out.1 HB4.out), (cell_stay CE.out.2.1 HB4.out)⟩ (fun hHeld => ?_)
      clear hK K
      try simp only [Act.put, List.setIfInBounds_toArray, List.set_cons_zero, List.set_cons_succ]
      refine wpAnyH_ready (rs := [7]) (by kernel_rfl) (by simp) (AllReadyH.cons (by simp only [List.getElem?_toArray, List.getElem?_cons_succ, List.getElem?_cons_zero]; rfl) (fun K hK => ?_) AllReadyH.nil)
      have HR := Lib.hid (chR_alloc (L := x) HB2.out ((HO2.out.lower hd0)))
      have HB6 : Hid (Below W0.heap.size W0 (World.alloc w2 (.cells #[.int .i64 x.ver, .slice b2 m2 d2] 44))) := Lib.hid HR.out.1
      go_simp
      refine hK.out _ _ ⟨⟨(cell_stay CX.out.1 HB6.out), (cell_stay CX.out.2.1 HB6.out)⟩, (cell_stay CE.out.1 HB6.out), (cell_stay CE.out.2.1 HB6.out)⟩ (fun hHeld => ?_)
      clear hK K
      try simp only [Act.put, List.setIfInBounds_toArray, List.set_cons_zero, List.set_cons_succ]
      refine wpAnyH_done (by kernel_rfl) ?_ _
      have HR9 := HR
      have hfin : ChR W0 x w2.heap.size b2 m2 d2 _ := HR9.out
      generalize w2.heap.size = g at hfin ⊢
      obtain ⟨u3, -⟩ : ∃ u : Value, u = undef := ⟨_, rfl⟩
      obtain ⟨u5, -⟩ : ∃ u : Value, u = undef := ⟨_, rfl⟩
      obtain ⟨u7, -⟩ : ∃ u : Value, u = undef := ⟨_, rfl⟩
      exact ⟨g, u3, u5, u7, b2, m2, d2, rfl, hfin⟩
    · skip
      have HB4 : Hid (Below W0.heap.size W0 (World.alloc W0 (.cells #[.int .i64 0, .slice none 0 0] 44)).drew) := Lib.hid (alloc_same W0 (.cells #[.int .i64 0, .slice none 0 0] 44)).drew
      have HZ : Hid ((World.alloc W0 (.cells #[.int .i64 0, .slice none 0 0] 44)).drew.heap[W0.heap.size]? = some (.cells #[.int .i64 0, .slice none 0 0] 44 (0, 0))) := Lib.hid (heap_alloc_new W0 _)
      have HgZ : Hid (W0.heap.size < (World.alloc W0 (.cells #[.int .i64 0, .slice none 0 0] 44)).drew.heap.size) := Lib.hid (by simp)
      go_simp
      refine hK.out _ _ ⟨⟨(cell_stay CX.out.1 HB4.out), (cell_stay CX.out.2.1 HB4.out)⟩, (cell_stay CE.out.1 HB4.out), (cell_stay CE.out.2.1 HB4.out)⟩ (fun hHeld => ?_)
      clear hK K
      try simp only [Act.put, List.setIfInBounds_toArray, List.set_cons_zero, List.set_cons_succ]
      refine wpAnyH_ready (rs := [4]) (by kernel_rfl) (by simp) (AllReadyH.cons (by simp only [List.getElem?_toArray, List.getElem?_cons_succ, List.getElem?_cons_zero]; rfl) (fun K hK => ?_) AllReadyH.nil)
      go_simp
      refine (specCopy_len (c := d) (HV.out.same HB4.out) (by omega) hit).mono ?_
      rintro e2 w2 ⟨b2, m2, d2, rfl, ho2, hb2⟩
      have HB2 : Hid (Below W0.heap.size W0 w2) := Lib.hid (HB4.out.trans (hb2.mono HB4.out.size))
      have HO2 : Hid (OwnAns w2.heap.size w2 (World.alloc W0 (.cells #[.int .i64 0, .slice none 0 0] 44)).drew.heap.size (.agg #[.int .i64 x.ver, .slice b2 m2 d2]) x) := Lib.hid (own_ans ho2.lim (Nat.le_refl _) (Nat.le_refl _) (Nat.le_refl _))
      have hs2 : (World.alloc W0 (.cells #[.int .i64 0, .slice none 0 0] 44)).drew.heap.size ≤ w2.heap.size := hb2.size
      replace HZ := Lib.hid ((hb2.block _ HgZ.out).trans HZ.out)
      clear ho2 hb2
      go_wp2_with fail
      refine hK.out _ _ ⟨⟨(cell_stay CX.out.1 HB2.out), (cell_stay CX.out.2.1 HB2.out)⟩, (cell_stay CE.out.1 HB2.out), (cell_stay CE.out.2.1 HB2.out)⟩ (fun hHeld => ?_)
      clear hK K
      try simp only [Act.put, List.setIfInBounds_toArray, List.set_cons_zero, List.set_cons_succ]
      refine wpAnyH_take (i := 5) (v := ?v12) (by simp only [List.getElem?_toArray, List.getElem?_cons_succ, List.getElem?_cons_zero]; rfl) (by kernel_rfl) (by kernel_rfl) (by kernel_rfl) (by exact fun _ _ _ h => h) (Or.inl ⟨by rfl, fun w9 hS9 => ?hy12⟩) hHeld ?rest12
      case hy12 =>
        dsimp only at hS9
        obtain ⟨⟨y0, y1⟩, y2, y3⟩ := hS9
        go_simp
        try with_reducible rfl
      try simp only [Act.put, List.setIfInBounds_toArray, List.set_cons_zero, List.set_cons_succ]
      refine wpAnyH_ready (rs := [7]) (by kernel_rfl) (by simp) (AllReadyH.cons (by simp only [List.getElem?_toArray, List.getElem?_cons_succ, List.getElem?_cons_zero]; rfl) (fun K hK => ?_) AllReadyH.nil)
      have HR := Lib.hid (chR_store (pw := W0) (w := (World.alloc W0 (.cells #[.int .i64 0, .slice none 0 0] 44)).drew) (L := x) HB2.out (Nat.le_refl _) HZ.out HgZ.out hs2 HO2.out)
      have HB6 : Hid (Below W0.heap.size W0 ((w2.setCell ⟨W0.heap.size, 0, none⟩ (.int .i64 x.ver)).setCell ⟨W0.heap.size, 1, none⟩ (.slice b2 m2 d2))) := Lib.hid HR.out.1
      obtain ⟨rm0, rm1, rq0, rq1⟩ := two_cells HZ.out
      obtain ⟨rz0, rz1, -⟩ := two_put HZ.out (.int .i64 x.ver) (.slice b2 m2 d2)
      go_simp
      refine hK.out _ _ ⟨⟨(cell_stay CX.out.1 HB6.out), (cell_stay CX.out.2.1 HB6.out)⟩, (cell_stay CE.out.1 HB6.out), (cell_stay CE.out.2.1 HB6.out)⟩ (fun hHeld => ?_)
      clear hK K
      try simp only [Act.put, List.setIfInBounds_toArray, List.set_cons_zero, List.set_cons_succ]
      refine wpAnyH_done (by kernel_rfl) ?_ _
      have HR9 := HR
      have hfin : ChR W0 x W0.heap.size b2 m2 d2 _ := HR9.out
      generalize W0.heap.size = g at hfin ⊢
      obtain ⟨u3, -⟩ : ∃ u : Value, u = undef := ⟨_, rfl⟩
      obtain ⟨u5, -⟩ : ∃ u : Value, u = undef := ⟨_, rfl⟩
      obtain ⟨u7, -⟩ : ∃ u : Value, u = undef := ⟨_, rfl⟩
      exact ⟨g, u3, u5, u7, b2, m2, d2, rfl, hfin⟩
  intro g u3 u5 u7 b2 m2 d2 W1 hR
  obtain ⟨hb, hbox, hgp, lo, S, ho, hlo, hS, hgd⟩ := hR
  obtain ⟨b9, m9, d9, lo1, hi1, heq, hov, hl1, hl2, hl3⟩ := ho
  obtain ⟨rfl, rfl, rfl⟩ : b2 = b9 ∧ m2 = m9 ∧ d2 = d9 := by simpa using heq
  have HBW := Lib.hid hb
  have hsW := hb.size
  have HG := Lib.hid hbox
  have O2 := Lib.hid hov
  have HXW := Lib.hid ((hb.block w.heap.size (by omega)).trans HX.out)
  have HEW := Lib.hid ((hb.block (w.heap.size + 1) (by omega)).trans HE.out)
  have HRW := Lib.hid ((hb.block (w.heap.size + 2) (by omega)).trans HR0.out)
  replace HV := Lib.hid (HV.out.same hb)
  clear hb hbox hov heq CX CE HX HE HR0 HBd
  obtain ⟨x0, x1, -⟩ := two_cells HXW.out
  obtain ⟨y0, y1, -⟩ := two_cells HEW.out
  obtain ⟨f0, f1, f2, f3⟩ := two_cells HG.out
  have HL : Hid (Calls Tryz.prog 99 #[.int .i64 e.n, .int .i64 1, .int .i64 9] W1 fun e w' => e = .returned (.bool false) ∧ w' = W1) := Lib.hid (hv ▸ l1R_b e.n 1 9 W1)
  go_wp2_with fail
  refine HL.out.mono ?_
  rintro e5 w5 ⟨rfl, hw5⟩
  subst hw5
  have HR9 := Lib.hid (HRW.out)
  obtain ⟨rm0, rm1, rq0, rq1⟩ := two_cells HR9.out
  obtain ⟨z0, z1, -⟩ := two_put HR9.out (.int .i64 x.ver) (.slice b2 m2 d2)
  have hgr := set2_grown w5 (w.heap.size + 2) (.int .i64 x.ver) (.slice b2 m2 d2)
  go_wp2_with fail
  (try simp only [Exit.inBlock, Exit.then])
  refine bodyPost_ret (by simp [results, Tryz.results71, go_sem, z0, z1]; try rfl) rfl ?_
  have hfin : OwnAns w5.heap.size w5 W0.heap.size (.agg #[.int .i64 x.ver, .slice b2 m2 d2]) _ := own_ans (lo := lo1) (hi := hi1) O2.out (by omega) (by omega) (Nat.le_refl _)
  exact ⟨_, rfl, ((hfin.aside (one_inside hgr) (Or.inl (by omega))).lower (by omega)).top (by simp) (Nat.le_refl _), (HB.out.trans (HBW.out.mono (by omega))).grown hgr (by first | omega | (simp; omega)) (fun r e => by cases e; omega)⟩
set_option maxHeartbeats 4000000 in
set_option maxRecDepth 100000 in
theorem specEditA_4y {w : World} {v : Value} {x : Ans} {e : Et} (h : AnsW w v x) (hw : (Lit.int .i64 e.kind).wf = true) (hm : x.exts.length ≤ 1048576) (hit : itemsOf x.exts ≤ 1048576) (hk : e.kind = 4) (hv : inBd e.n 1 9 = true) :
    Calls Tryz.prog 71 #[v, .agg #[.int .i64 e.kind, .int .i64 e.n]] w (MadeAns w.heap.size (edA x e) w) := by
  have hed : edA x e = (⟨e.n, x.exts⟩ : Ans) := by
    unfold edA setV
    rw [if_pos hk, if_pos hv]
  rw [hed]
  obtain ⟨b, m, d, rfl, h2, hc2⟩ := h
  obtain ⟨hsz, hX, hE, hR, hB0⟩ := thrice w #[.int .i64 x.ver, .slice b m d] #[.int .i64 e.kind, .int .i64 e.n] #[.int .i64 0, .slice none 0 0] 44 40 44
  have hlm := h2.len
  have HV := Lib.hid (h2.same hB0)
  have CX := Lib.hid (two_cells hX)
  have CE := Lib.hid (two_cells hE)
  have HX := Lib.hid hX
  have HE := Lib.hid hE
  have HR0 := Lib.hid hR
  have HB := Lib.hid hB0
  have hk4 : (e.kind == 4) = true := by rw [hk]; rfl
  have hk5 : (e.kind == 5) = false := by rw [hk]; rfl
  clear h2 hed hk hX hE hR hB0
  unfold MadeAns
  go_enter Tryz.func71, Tryz.ntmps71
  go_wp2_with fail
  generalize (((w.alloc (.cells #[.int .i64 x.ver, .slice b m d] 44)).alloc (.cells #[.int .i64 e.kind, .int .i64 e.n] 40)).alloc (.cells #[.int .i64 0, .slice none 0 0] 44)) = W0 at *
  have HBd : Hid (Below W0.heap.size W0 W0.drew) := Lib.hid (Below.refl _ _).drew
  have hd0 : W0.heap.size ≤ W0.drew.heap.size := Nat.le_refl _
  apply ch_cut (ChR W0 x)
  case h =>
    refine wp_region_held_drew (S := fun w9 => (w9.cell? ⟨w.heap.size, 0, none⟩ = some (.int .i64 x.ver) ∧ w9.cell? ⟨w.heap.size, 1, none⟩ = some (.slice b m d)) ∧ w9.cell? ⟨w.heap.size + 1, 0, none⟩ = some (.int .i64 e.kind) ∧ w9.cell? ⟨w.heap.size + 1, 1, none⟩ = some (.int .i64 e.n)) (by kernel_rfl) ⟨⟨(cell_stay CX.out.1 HBd.out), (cell_stay CX.out.2.1 HBd.out)⟩, (cell_stay CE.out.1 HBd.out), (cell_stay CE.out.2.1 HBd.out)⟩ (fun hHeld => ?_)
    refine wpAnyH_take (i := 0) (v := ?v13) (by simp only [List.getElem?_toArray, List.getElem?_cons_succ, List.getElem?_cons_zero]; rfl) (by kernel_rfl) (by kernel_rfl) (by kernel_rfl) (by exact fun _ _ _ h => h) (Or.inl ⟨by rfl, fun w9 hS9 => ?hy13⟩) hHeld ?rest13
    case hy13 =>
      dsimp only at hS9
      obtain ⟨⟨y0, y1⟩, y2, y3⟩ := hS9
      go_simp
      try with_reducible rfl
    try simp only [Act.put, List.setIfInBounds_toArray, List.set_cons_zero, List.set_cons_succ]
    refine wpAnyH_take (i := 1) (v := ?v14) (by simp only [List.getElem?_toArray, List.getElem?_cons_succ, List.getElem?_cons_zero]; rfl) (by kernel_rfl) (by kernel_rfl) (by kernel_rfl) (by exact fun _ _ _ h => h) (Or.inl ⟨by rfl, fun w9 hS9 => ?hy14⟩) hHeld ?rest14
    case hy14 =>
      dsimp only at hS9
      obtain ⟨⟨y0, y1⟩, y2, y3⟩ := hS9
      go_simp
      try with_reducible rfl
    try simp only [Act.put, List.setIfInBounds_toArray, List.set_cons_zero, List.set_cons_succ]
    refine wpAnyH_take (i := 2) (v := ?v15) (by simp only [List.getElem?_toArray, List.getElem?_cons_succ, List.getElem?_cons_zero]; rfl) (by kernel_rfl) (by kernel_rfl) (by kernel_rfl) (by exact fun _ _ _ h => h) (Or.inl ⟨by rfl, fun w9 hS9 => ?hy15⟩) hHeld ?rest15
    case hy15 =>
      dsimp only at hS9
      obtain ⟨⟨y0, y1⟩, y2, y3⟩ := hS9
      go_simp
      try with_reducible rfl
    try simp only [Act.put, List.setIfInBounds_toArray, List.set_cons_zero, List.set_cons_succ]
    refine wpAnyH_take (i := 3) (v := ?v16) (by simp only [List.getElem?_toArray, List.getElem?_cons_succ, List.getElem?_cons_zero]; rfl) (by kernel_rfl) (by kernel_rfl) (by kernel_rfl) (by exact fun _ _ _ h => h) (Or.inl ⟨by rfl, fun w9 hS9 => ?hy16⟩) hHeld ?rest16
    case hy16 =>
      dsimp only at hS9
      obtain ⟨⟨y0, y1⟩, y2, y3⟩ := hS9
      go_simp
      try with_reducible rfl
    try simp only [Act.put, List.setIfInBounds_toArray, List.set_cons_zero, List.set_cons_succ]
    refine wpAnyH_ready (rs := [4, 6]) (by kernel_rfl) (by simp) (AllReadyH.cons (by simp only [List.getElem?_toArray, List.getElem?_cons_succ, List.getElem?_cons_zero]; rfl) (fun K hK => ?_) (AllReadyH.cons (by simp only [List.getElem?_toArray, List.getElem?_cons_succ, List.getElem?_cons_zero]; rfl) (fun K hK => ?_) AllReadyH.nil))
    · skip
      go_simp
      refine (specCopy_len (c := d) (HV.out.same HBd.out) (by omega) hit).mono ?_
      rintro e2 w2 ⟨b2, m2, d2, rfl, ho2, hb2⟩
      have HB2 : Hid (Below W0.heap.size W0 w2) := Lib.hid (HBd.out.trans (hb2.mono HBd.out.size))
      have HO2 : Hid (OwnAns w2.heap.size w2 W0.drew.heap.size (.agg #[.int .i64 x.ver, .slice b2 m2 d2]) x) := Lib.hid (own_ans ho2.lim (Nat.le_refl _) (Nat.le_refl _) (Nat.le_refl _))
      have hs2 : W0.drew.heap.size ≤ w2.heap.size := hb2.size
      clear ho2 hb2
      go_wp2_with fail
      refine hK.out _ _ ⟨⟨(cell_stay CX.out.1 HB2.out), (cell_stay CX.out.2.1 HB2.out)⟩, (cell_stay CE.out.1 HB2.out), (cell_stay CE.out.2.1 HB2.out)⟩ (fun hHeld => ?_)
      clear hK K
      try simp only [Act.put, List.setIfInBounds_toArray, List.set_cons_zero, List.set_cons_succ]
      refine wpAnyH_take (i := 5) (v := ?v17) (by simp only [List.getElem?_toArray, List.getElem?_cons_succ, List.getElem?_cons_zero]; rfl) (by kernel_rfl) (by kernel_rfl) (by kernel_rfl) (by exact fun _ _ _ h => h) (Or.inl ⟨by rfl, fun w9 hS9 => ?hy17⟩) hHeld ?rest17
      case hy17 =>
        dsimp only at hS9
        obtain ⟨⟨y0, y1⟩, y2, y3⟩ := hS9
        go_simp
        try with_reducible rfl
      try simp only [Act.put, List.setIfInBounds_toArray, List.set_cons_zero, List.set_cons_succ]
      refine wpAnyH_ready (rs := [6]) (by kernel_rfl) (by simp) (AllReadyH.cons (by simp only [List.getElem?_toArray, List.getElem?_cons_succ, List.getElem?_cons_zero]; rfl) (fun K hK => ?_) AllReadyH.nil)
      have HB4 : Hid (Below W0.heap.size W0 (World.alloc w2 (.cells #[.int .i64 0, .slice none 0 0] 44))) := Lib.hid (HB2.out.trans ((alloc_same w2 (.cells #[.int .i64 0, .slice none 0 0] 44)).mono HB2.out.size))
      go_simp
      refine hK.out _ _ ⟨⟨(cell_stay CX.out.1 HB4.out), (cell_stay CX.out.2.1 HB4.out)⟩, (cell_stay CE.out.1 HB4.out), (cell_stay CE.out.2.1 HB4.out)⟩ (fun hHeld => ?_)
      clear hK K
      try simp only [Act.put, List.setIfInBounds_toArray, List.set_cons_zero, List.set_cons_succ]
      refine wpAnyH_ready (rs := [7]) (by kernel_rfl) (by simp) (AllReadyH.cons (by simp only [List.getElem?_toArray, List.getElem?_cons_succ, List.getElem?_cons_zero]; rfl) (fun K hK => ?_) AllReadyH.nil)
      have HR := Lib.hid (chR_alloc (L := x) HB2.out ((HO2.out.lower hd0)))
      have HB6 : Hid (Below W0.heap.size W0 (World.alloc w2 (.cells #[.int .i64 x.ver, .slice b2 m2 d2] 44))) := Lib.hid HR.out.1
      go_simp
      refine hK.out _ _ ⟨⟨(cell_stay CX.out.1 HB6.out), (cell_stay CX.out.2.1 HB6.out)⟩, (cell_stay CE.out.1 HB6.out), (cell_stay CE.out.2.1 HB6.out)⟩ (fun hHeld => ?_)
      clear hK K
      try simp only [Act.put, List.setIfInBounds_toArray, List.set_cons_zero, List.set_cons_succ]
      refine wpAnyH_done (by kernel_rfl) ?_ _
      have HR9 := HR
      have hfin : ChR W0 x w2.heap.size b2 m2 d2 _ := HR9.out
      generalize w2.heap.size = g at hfin ⊢
      obtain ⟨u3, -⟩ : ∃ u : Value, u = undef := ⟨_, rfl⟩
      obtain ⟨u5, -⟩ : ∃ u : Value, u = undef := ⟨_, rfl⟩
      obtain ⟨u7, -⟩ : ∃ u : Value, u = undef := ⟨_, rfl⟩
      exact ⟨g, u3, u5, u7, b2, m2, d2, rfl, hfin⟩
    · skip
      have HB4 : Hid (Below W0.heap.size W0 (World.alloc W0 (.cells #[.int .i64 0, .slice none 0 0] 44)).drew) := Lib.hid (alloc_same W0 (.cells #[.int .i64 0, .slice none 0 0] 44)).drew
      have HZ : Hid ((World.alloc W0 (.cells #[.int .i64 0, .slice none 0 0] 44)).drew.heap[W0.heap.size]? = some (.cells #[.int .i64 0, .slice none 0 0] 44 (0, 0))) := Lib.hid (heap_alloc_new W0 _)
      have HgZ : Hid (W0.heap.size < (World.alloc W0 (.cells #[.int .i64 0, .slice none 0 0] 44)).drew.heap.size) := Lib.hid (by simp)
      go_simp
      refine hK.out _ _ ⟨⟨(cell_stay CX.out.1 HB4.out), (cell_stay CX.out.2.1 HB4.out)⟩, (cell_stay CE.out.1 HB4.out), (cell_stay CE.out.2.1 HB4.out)⟩ (fun hHeld => ?_)
      clear hK K
      try simp only [Act.put, List.setIfInBounds_toArray, List.set_cons_zero, List.set_cons_succ]
      refine wpAnyH_ready (rs := [4]) (by kernel_rfl) (by simp) (AllReadyH.cons (by simp only [List.getElem?_toArray, List.getElem?_cons_succ, List.getElem?_cons_zero]; rfl) (fun K hK => ?_) AllReadyH.nil)
      go_simp
      refine (specCopy_len (c := d) (HV.out.same HB4.out) (by omega) hit).mono ?_
      rintro e2 w2 ⟨b2, m2, d2, rfl, ho2, hb2⟩
      have HB2 : Hid (Below W0.heap.size W0 w2) := Lib.hid (HB4.out.trans (hb2.mono HB4.out.size))
      have HO2 : Hid (OwnAns w2.heap.size w2 (World.alloc W0 (.cells #[.int .i64 0, .slice none 0 0] 44)).drew.heap.size (.agg #[.int .i64 x.ver, .slice b2 m2 d2]) x) := Lib.hid (own_ans ho2.lim (Nat.le_refl _) (Nat.le_refl _) (Nat.le_refl _))
      have hs2 : (World.alloc W0 (.cells #[.int .i64 0, .slice none 0 0] 44)).drew.heap.size ≤ w2.heap.size := hb2.size
      replace HZ := Lib.hid ((hb2.block _ HgZ.out).trans HZ.out)
      clear ho2 hb2
      go_wp2_with fail
      refine hK.out _ _ ⟨⟨(cell_stay CX.out.1 HB2.out), (cell_stay CX.out.2.1 HB2.out)⟩, (cell_stay CE.out.1 HB2.out), (cell_stay CE.out.2.1 HB2.out)⟩ (fun hHeld => ?_)
      clear hK K
      try simp only [Act.put, List.setIfInBounds_toArray, List.set_cons_zero, List.set_cons_succ]
      refine wpAnyH_take (i := 5) (v := ?v18) (by simp only [List.getElem?_toArray, List.getElem?_cons_succ, List.getElem?_cons_zero]; rfl) (by kernel_rfl) (by kernel_rfl) (by kernel_rfl) (by exact fun _ _ _ h => h) (Or.inl ⟨by rfl, fun w9 hS9 => ?hy18⟩) hHeld ?rest18
      case hy18 =>
        dsimp only at hS9
        obtain ⟨⟨y0, y1⟩, y2, y3⟩ := hS9
        go_simp
        try with_reducible rfl
      try simp only [Act.put, List.setIfInBounds_toArray, List.set_cons_zero, List.set_cons_succ]
      refine wpAnyH_ready (rs := [7]) (by kernel_rfl) (by simp) (AllReadyH.cons (by simp only [List.getElem?_toArray, List.getElem?_cons_succ, List.getElem?_cons_zero]; rfl) (fun K hK => ?_) AllReadyH.nil)
      have HR := Lib.hid (chR_store (pw := W0) (w := (World.alloc W0 (.cells #[.int .i64 0, .slice none 0 0] 44)).drew) (L := x) HB2.out (Nat.le_refl _) HZ.out HgZ.out hs2 HO2.out)
      have HB6 : Hid (Below W0.heap.size W0 ((w2.setCell ⟨W0.heap.size, 0, none⟩ (.int .i64 x.ver)).setCell ⟨W0.heap.size, 1, none⟩ (.slice b2 m2 d2))) := Lib.hid HR.out.1
      obtain ⟨rm0, rm1, rq0, rq1⟩ := two_cells HZ.out
      obtain ⟨rz0, rz1, -⟩ := two_put HZ.out (.int .i64 x.ver) (.slice b2 m2 d2)
      go_simp
      refine hK.out _ _ ⟨⟨(cell_stay CX.out.1 HB6.out), (cell_stay CX.out.2.1 HB6.out)⟩, (cell_stay CE.out.1 HB6.out), (cell_stay CE.out.2.1 HB6.out)⟩ (fun hHeld => ?_)
      clear hK K
      try simp only [Act.put, List.setIfInBounds_toArray, List.set_cons_zero, List.set_cons_succ]
      refine wpAnyH_done (by kernel_rfl) ?_ _
      have HR9 := HR
      have hfin : ChR W0 x W0.heap.size b2 m2 d2 _ := HR9.out
      generalize W0.heap.size = g at hfin ⊢
      obtain ⟨u3, -⟩ : ∃ u : Value, u = undef := ⟨_, rfl⟩
      obtain ⟨u5, -⟩ : ∃ u : Value, u = undef := ⟨_, rfl⟩
      obtain ⟨u7, -⟩ : ∃ u : Value, u = undef := ⟨_, rfl⟩
      exact ⟨g, u3, u5, u7, b2, m2, d2, rfl, hfin⟩
  intro g u3 u5 u7 b2 m2 d2 W1 hR
  obtain ⟨hb, hbox, hgp, lo, S, ho, hlo, hS, hgd⟩ := hR
  obtain ⟨b9, m9, d9, lo1, hi1, heq, hov, hl1, hl2, hl3⟩ := ho
  obtain ⟨rfl, rfl, rfl⟩ : b2 = b9 ∧ m2 = m9 ∧ d2 = d9 := by simpa using heq
  have HBW := Lib.hid hb
  have hsW := hb.size
  have HG := Lib.hid hbox
  have O2 := Lib.hid hov
  have HXW := Lib.hid ((hb.block w.heap.size (by omega)).trans HX.out)
  have HEW := Lib.hid ((hb.block (w.heap.size + 1) (by omega)).trans HE.out)
  have HRW := Lib.hid ((hb.block (w.heap.size + 2) (by omega)).trans HR0.out)
  replace HV := Lib.hid (HV.out.same hb)
  clear hb hbox hov heq CX CE HX HE HR0 HBd
  obtain ⟨x0, x1, -⟩ := two_cells HXW.out
  obtain ⟨y0, y1, -⟩ := two_cells HEW.out
  obtain ⟨f0, f1, f2, f3⟩ := two_cells HG.out
  have HL : Hid (Calls Tryz.prog 99 #[.int .i64 e.n, .int .i64 1, .int .i64 9] W1 fun e w' => e = .returned (.bool true) ∧ w' = W1) := Lib.hid (hv ▸ l1R_b e.n 1 9 W1)
  go_wp2_with fail
  refine HL.out.mono ?_
  rintro e5 w5 ⟨rfl, hw5⟩
  subst hw5
  have HG3 := Lib.hid (put_first HG.out (.int .i64 e.n))
  have hin := set_inside w5 g 0 (.int .i64 e.n)
  have hrc := (hin.block (w.heap.size + 2) (by omega) (Or.inl (by omega))).trans HRW.out
  clear f0 f1
  obtain ⟨f0, f1, -⟩ := two_cells HG.out
  obtain ⟨x2, x3, -⟩ := two_cells HG3.out
  have HR9 := Lib.hid (hrc)
  obtain ⟨rm0, rm1, rq0, rq1⟩ := two_cells HR9.out
  obtain ⟨z0, z1, -⟩ := two_put HR9.out (.int .i64 e.n) (.slice b2 m2 d2)
  have hgr := set2_grown (w5.setCell ⟨g, 0, none⟩ (.int .i64 e.n)) (w.heap.size + 2) (.int .i64 e.n) (.slice b2 m2 d2)
  go_wp2_with fail
  (try simp only [Exit.inBlock, Exit.then])
  refine bodyPost_ret (by simp [results, Tryz.results71, go_sem, z0, z1]; try rfl) rfl ?_
  have hfin : OwnAns (w5.setCell ⟨g, 0, none⟩ (.int .i64 e.n)).heap.size (w5.setCell ⟨g, 0, none⟩ (.int .i64 e.n)) W0.heap.size (.agg #[.int .i64 e.n, .slice b2 m2 d2]) _ := own_ans (lo := lo1) (hi := hi1) (O2.out.aside hin (by omega)) (by omega) (by simp; omega) (Nat.le_refl _)
  exact ⟨_, rfl, ((hfin.aside (one_inside hgr) (Or.inl (by omega))).lower (by omega)).top (by simp) (Nat.le_refl _), (HB.out.trans ((hin.to HBW.out (by omega) (by omega)).mono (by omega))).grown hgr (by first | omega | (simp; omega)) (fun r e => by cases e; omega)⟩
set_option maxHeartbeats 4000000 in
set_option maxRecDepth 100000 in
theorem specEditA_5 {w : World} {v : Value} {x : Ans} {e : Et} (h : AnsW w v x) (hw : (Lit.int .i64 e.kind).wf = true) (hm : x.exts.length ≤ 1048576) (hit : itemsOf x.exts ≤ 1048576) (hk : e.kind = 5) :
    Calls Tryz.prog 71 #[v, .agg #[.int .i64 e.kind, .int .i64 e.n]] w (MadeAns w.heap.size (edA x e) w) := by
  have hed : edA x e = (⟨x.ver, dropX e.n x.exts⟩ : Ans) := by
    unfold edA
    rw [hk]
    rw [if_neg (show ¬ (5 : Int) = 4 by decide), if_pos rfl]
  rw [hed]
  obtain ⟨b, m, d, rfl, h2, hc2⟩ := h
  obtain ⟨hsz, hX, hE, hR, hB0⟩ := thrice w #[.int .i64 x.ver, .slice b m d] #[.int .i64 e.kind, .int .i64 e.n] #[.int .i64 0, .slice none 0 0] 44 40 44
  have hlm := h2.len
  have HV := Lib.hid (h2.same hB0)
  have CX := Lib.hid (two_cells hX)
  have CE := Lib.hid (two_cells hE)
  have HX := Lib.hid hX
  have HE := Lib.hid hE
  have HR0 := Lib.hid hR
  have HB := Lib.hid hB0
  have hk4 : (e.kind == 4) = false := by rw [hk]; rfl
  have hk5 : (e.kind == 5) = true := by rw [hk]; rfl
  clear h2 hed hk hX hE hR hB0
  unfold MadeAns
  go_enter Tryz.func71, Tryz.ntmps71
  go_wp2_with fail
  generalize (((w.alloc (.cells #[.int .i64 x.ver, .slice b m d] 44)).alloc (.cells #[.int .i64 e.kind, .int .i64 e.n] 40)).alloc (.cells #[.int .i64 0, .slice none 0 0] 44)) = W0 at *
  have HBd : Hid (Below W0.heap.size W0 W0.drew) := Lib.hid (Below.refl _ _).drew
  have hd0 : W0.heap.size ≤ W0.drew.heap.size := Nat.le_refl _
  apply ch_cut (ChR W0 x)
  case h =>
    refine wp_region_held_drew (S := fun w9 => (w9.cell? ⟨w.heap.size, 0, none⟩ = some (.int .i64 x.ver) ∧ w9.cell? ⟨w.heap.size, 1, none⟩ = some (.slice b m d)) ∧ w9.cell? ⟨w.heap.size + 1, 0, none⟩ = some (.int .i64 e.kind) ∧ w9.cell? ⟨w.heap.size + 1, 1, none⟩ = some (.int .i64 e.n)) (by kernel_rfl) ⟨⟨(cell_stay CX.out.1 HBd.out), (cell_stay CX.out.2.1 HBd.out)⟩, (cell_stay CE.out.1 HBd.out), (cell_stay CE.out.2.1 HBd.out)⟩ (fun hHeld => ?_)
    refine wpAnyH_take (i := 0) (v := ?v19) (by simp only [List.getElem?_toArray, List.getElem?_cons_succ, List.getElem?_cons_zero]; rfl) (by kernel_rfl) (by kernel_rfl) (by kernel_rfl) (by exact fun _ _ _ h => h) (Or.inl ⟨by rfl, fun w9 hS9 => ?hy19⟩) hHeld ?rest19
    case hy19 =>
      dsimp only at hS9
      obtain ⟨⟨y0, y1⟩, y2, y3⟩ := hS9
      go_simp
      try with_reducible rfl
    try simp only [Act.put, List.setIfInBounds_toArray, List.set_cons_zero, List.set_cons_succ]
    refine wpAnyH_take (i := 1) (v := ?v20) (by simp only [List.getElem?_toArray, List.getElem?_cons_succ, List.getElem?_cons_zero]; rfl) (by kernel_rfl) (by kernel_rfl) (by kernel_rfl) (by exact fun _ _ _ h => h) (Or.inl ⟨by rfl, fun w9 hS9 => ?hy20⟩) hHeld ?rest20
    case hy20 =>
      dsimp only at hS9
      obtain ⟨⟨y0, y1⟩, y2, y3⟩ := hS9
      go_simp
      try with_reducible rfl
    try simp only [Act.put, List.setIfInBounds_toArray, List.set_cons_zero, List.set_cons_succ]
    refine wpAnyH_take (i := 2) (v := ?v21) (by simp only [List.getElem?_toArray, List.getElem?_cons_succ, List.getElem?_cons_zero]; rfl) (by kernel_rfl) (by kernel_rfl) (by kernel_rfl) (by exact fun _ _ _ h => h) (Or.inl ⟨by rfl, fun w9 hS9 => ?hy21⟩) hHeld ?rest21
    case hy21 =>
      dsimp only at hS9
      obtain ⟨⟨y0, y1⟩, y2, y3⟩ := hS9
      go_simp
      try with_reducible rfl
    try simp only [Act.put, List.setIfInBounds_toArray, List.set_cons_zero, List.set_cons_succ]
    refine wpAnyH_take (i := 3) (v := ?v22) (by simp only [List.getElem?_toArray, List.getElem?_cons_succ, List.getElem?_cons_zero]; rfl) (by kernel_rfl) (by kernel_rfl) (by kernel_rfl) (by exact fun _ _ _ h => h) (Or.inl ⟨by rfl, fun w9 hS9 => ?hy22⟩) hHeld ?rest22
    case hy22 =>
      dsimp only at hS9
      obtain ⟨⟨y0, y1⟩, y2, y3⟩ := hS9
      go_simp
      try with_reducible rfl
    try simp only [Act.put, List.setIfInBounds_toArray, List.set_cons_zero, List.set_cons_succ]
    refine wpAnyH_ready (rs := [4, 6]) (by kernel_rfl) (by simp) (AllReadyH.cons (by simp only [List.getElem?_toArray, List.getElem?_cons_succ, List.getElem?_cons_zero]; rfl) (fun K hK => ?_) (AllReadyH.cons (by simp only [List.getElem?_toArray, List.getElem?_cons_succ, List.getElem?_cons_zero]; rfl) (fun K hK => ?_) AllReadyH.nil))
    · skip
      go_simp
      refine (specCopy_len (c := d) (HV.out.same HBd.out) (by omega) hit).mono ?_
      rintro e2 w2 ⟨b2, m2, d2, rfl, ho2, hb2⟩
      have HB2 : Hid (Below W0.heap.size W0 w2) := Lib.hid (HBd.out.trans (hb2.mono HBd.out.size))
      have HO2 : Hid (OwnAns w2.heap.size w2 W0.drew.heap.size (.agg #[.int .i64 x.ver, .slice b2 m2 d2]) x) := Lib.hid (own_ans ho2.lim (Nat.le_refl _) (Nat.le_refl _) (Nat.le_refl _))
      have hs2 : W0.drew.heap.size ≤ w2.heap.size := hb2.size
      clear ho2 hb2
      go_wp2_with fail
      refine hK.out _ _ ⟨⟨(cell_stay CX.out.1 HB2.out), (cell_stay CX.out.2.1 HB2.out)⟩, (cell_stay CE.out.1 HB2.out), (cell_stay CE.out.2.1 HB2.out)⟩ (fun hHeld => ?_)
      clear hK K
      try simp only [Act.put, List.setIfInBounds_toArray, List.set_cons_zero, List.set_cons_succ]
      refine wpAnyH_take (i := 5) (v := ?v23) (by simp only [List.getElem?_toArray, List.getElem?_cons_succ, List.getElem?_cons_zero]; rfl) (by kernel_rfl) (by kernel_rfl) (by kernel_rfl) (by exact fun _ _ _ h => h) (Or.inl ⟨by rfl, fun w9 hS9 => ?hy23⟩) hHeld ?rest23
      case hy23 =>
        dsimp only at hS9
        obtain ⟨⟨y0, y1⟩, y2, y3⟩ := hS9
        go_simp
        try with_reducible rfl
      try simp only [Act.put, List.setIfInBounds_toArray, List.set_cons_zero, List.set_cons_succ]
      refine wpAnyH_ready (rs := [6]) (by kernel_rfl) (by simp) (AllReadyH.cons (by simp only [List.getElem?_toArray, List.getElem?_cons_succ, List.getElem?_cons_zero]; rfl) (fun K hK => ?_) AllReadyH.nil)
      have HB4 : Hid (Below W0.heap.size W0 (World.alloc w2 (.cells #[.int .i64 0, .slice none 0 0] 44))) := Lib.hid (HB2.out.trans ((alloc_same w2 (.cells #[.int .i64 0, .slice none 0 0] 44)).mono HB2.out.size))
      go_simp
      refine hK.out _ _ ⟨⟨(cell_stay CX.out.1 HB4.out), (cell_stay CX.out.2.1 HB4.out)⟩, (cell_stay CE.out.1 HB4.out), (cell_stay CE.out.2.1 HB4.out)⟩ (fun hHeld => ?_)
      clear hK K
      try simp only [Act.put, List.setIfInBounds_toArray, List.set_cons_zero, List.set_cons_succ]
      refine wpAnyH_ready (rs := [7]) (by kernel_rfl) (by simp) (AllReadyH.cons (by simp only [List.getElem?_toArray, List.getElem?_cons_succ, List.getElem?_cons_zero]; rfl) (fun K hK => ?_) AllReadyH.nil)
      have HR := Lib.hid (chR_alloc (L := x) HB2.out ((HO2.out.lower hd0)))
      have HB6 : Hid (Below W0.heap.size W0 (World.alloc w2 (.cells #[.int .i64 x.ver, .slice b2 m2 d2] 44))) := Lib.hid HR.out.1
      go_simp
      refine hK.out _ _ ⟨⟨(cell_stay CX.out.1 HB6.out), (cell_stay CX.out.2.1 HB6.out)⟩, (cell_stay CE.out.1 HB6.out), (cell_stay CE.out.2.1 HB6.out)⟩ (fun hHeld => ?_)
      clear hK K
      try simp only [Act.put, List.setIfInBounds_toArray, List.set_cons_zero, List.set_cons_succ]
      refine wpAnyH_done (by kernel_rfl) ?_ _
      have HR9 := HR
      have hfin : ChR W0 x w2.heap.size b2 m2 d2 _ := HR9.out
      generalize w2.heap.size = g at hfin ⊢
      obtain ⟨u3, -⟩ : ∃ u : Value, u = undef := ⟨_, rfl⟩
      obtain ⟨u5, -⟩ : ∃ u : Value, u = undef := ⟨_, rfl⟩
      obtain ⟨u7, -⟩ : ∃ u : Value, u = undef := ⟨_, rfl⟩
      exact ⟨g, u3, u5, u7, b2, m2, d2, rfl, hfin⟩
    · skip
      have HB4 : Hid (Below W0.heap.size W0 (World.alloc W0 (.cells #[.int .i64 0, .slice none 0 0] 44)).drew) := Lib.hid (alloc_same W0 (.cells #[.int .i64 0, .slice none 0 0] 44)).drew
      have HZ : Hid ((World.alloc W0 (.cells #[.int .i64 0, .slice none 0 0] 44)).drew.heap[W0.heap.size]? = some (.cells #[.int .i64 0, .slice none 0 0] 44 (0, 0))) := Lib.hid (heap_alloc_new W0 _)
      have HgZ : Hid (W0.heap.size < (World.alloc W0 (.cells #[.int .i64 0, .slice none 0 0] 44)).drew.heap.size) := Lib.hid (by simp)
      go_simp
      refine hK.out _ _ ⟨⟨(cell_stay CX.out.1 HB4.out), (cell_stay CX.out.2.1 HB4.out)⟩, (cell_stay CE.out.1 HB4.out), (cell_stay CE.out.2.1 HB4.out)⟩ (fun hHeld => ?_)
      clear hK K
      try simp only [Act.put, List.setIfInBounds_toArray, List.set_cons_zero, List.set_cons_succ]
      refine wpAnyH_ready (rs := [4]) (by kernel_rfl) (by simp) (AllReadyH.cons (by simp only [List.getElem?_toArray, List.getElem?_cons_succ, List.getElem?_cons_zero]; rfl) (fun K hK => ?_) AllReadyH.nil)
      go_simp
      refine (specCopy_len (c := d) (HV.out.same HB4.out) (by omega) hit).mono ?_
      rintro e2 w2 ⟨b2, m2, d2, rfl, ho2, hb2⟩
      have HB2 : Hid (Below W0.heap.size W0 w2) := Lib.hid (HB4.out.trans (hb2.mono HB4.out.size))
      have HO2 : Hid (OwnAns w2.heap.size w2 (World.alloc W0 (.cells #[.int .i64 0, .slice none 0 0] 44)).drew.heap.size (.agg #[.int .i64 x.ver, .slice b2 m2 d2]) x) := Lib.hid (own_ans ho2.lim (Nat.le_refl _) (Nat.le_refl _) (Nat.le_refl _))
      have hs2 : (World.alloc W0 (.cells #[.int .i64 0, .slice none 0 0] 44)).drew.heap.size ≤ w2.heap.size := hb2.size
      replace HZ := Lib.hid ((hb2.block _ HgZ.out).trans HZ.out)
      clear ho2 hb2
      go_wp2_with fail
      refine hK.out _ _ ⟨⟨(cell_stay CX.out.1 HB2.out), (cell_stay CX.out.2.1 HB2.out)⟩, (cell_stay CE.out.1 HB2.out), (cell_stay CE.out.2.1 HB2.out)⟩ (fun hHeld => ?_)
      clear hK K
      try simp only [Act.put, List.setIfInBounds_toArray, List.set_cons_zero, List.set_cons_succ]
      refine wpAnyH_take (i := 5) (v := ?v24) (by simp only [List.getElem?_toArray, List.getElem?_cons_succ, List.getElem?_cons_zero]; rfl) (by kernel_rfl) (by kernel_rfl) (by kernel_rfl) (by exact fun _ _ _ h => h) (Or.inl ⟨by rfl, fun w9 hS9 => ?hy24⟩) hHeld ?rest24
      case hy24 =>
        dsimp only at hS9
        obtain ⟨⟨y0, y1⟩, y2, y3⟩ := hS9
        go_simp
        try with_reducible rfl
      try simp only [Act.put, List.setIfInBounds_toArray, List.set_cons_zero, List.set_cons_succ]
      refine wpAnyH_ready (rs := [7]) (by kernel_rfl) (by simp) (AllReadyH.cons (by simp only [List.getElem?_toArray, List.getElem?_cons_succ, List.getElem?_cons_zero]; rfl) (fun K hK => ?_) AllReadyH.nil)
      have HR := Lib.hid (chR_store (pw := W0) (w := (World.alloc W0 (.cells #[.int .i64 0, .slice none 0 0] 44)).drew) (L := x) HB2.out (Nat.le_refl _) HZ.out HgZ.out hs2 HO2.out)
      have HB6 : Hid (Below W0.heap.size W0 ((w2.setCell ⟨W0.heap.size, 0, none⟩ (.int .i64 x.ver)).setCell ⟨W0.heap.size, 1, none⟩ (.slice b2 m2 d2))) := Lib.hid HR.out.1
      obtain ⟨rm0, rm1, rq0, rq1⟩ := two_cells HZ.out
      obtain ⟨rz0, rz1, -⟩ := two_put HZ.out (.int .i64 x.ver) (.slice b2 m2 d2)
      go_simp
      refine hK.out _ _ ⟨⟨(cell_stay CX.out.1 HB6.out), (cell_stay CX.out.2.1 HB6.out)⟩, (cell_stay CE.out.1 HB6.out), (cell_stay CE.out.2.1 HB6.out)⟩ (fun hHeld => ?_)
      clear hK K
      try simp only [Act.put, List.setIfInBounds_toArray, List.set_cons_zero, List.set_cons_succ]
      refine wpAnyH_done (by kernel_rfl) ?_ _
      have HR9 := HR
      have hfin : ChR W0 x W0.heap.size b2 m2 d2 _ := HR9.out
      generalize W0.heap.size = g at hfin ⊢
      obtain ⟨u3, -⟩ : ∃ u : Value, u = undef := ⟨_, rfl⟩
      obtain ⟨u5, -⟩ : ∃ u : Value, u = undef := ⟨_, rfl⟩
      obtain ⟨u7, -⟩ : ∃ u : Value, u = undef := ⟨_, rfl⟩
      exact ⟨g, u3, u5, u7, b2, m2, d2, rfl, hfin⟩
  intro g u3 u5 u7 b2 m2 d2 W1 hR
  obtain ⟨hb, hbox, hgp, lo, S, ho, hlo, hS, hgd⟩ := hR
  obtain ⟨b9, m9, d9, lo1, hi1, heq, hov, hl1, hl2, hl3⟩ := ho
  obtain ⟨rfl, rfl, rfl⟩ : b2 = b9 ∧ m2 = m9 ∧ d2 = d9 := by simpa using heq
  have HBW := Lib.hid hb
  have hsW := hb.size
  have HG := Lib.hid hbox
  have O2 := Lib.hid hov
  have HXW := Lib.hid ((hb.block w.heap.size (by omega)).trans HX.out)
  have HEW := Lib.hid ((hb.block (w.heap.size + 1) (by omega)).trans HE.out)
  have HRW := Lib.hid ((hb.block (w.heap.size + 2) (by omega)).trans HR0.out)
  replace HV := Lib.hid (HV.out.same hb)
  clear hb hbox hov heq CX CE HX HE HR0 HBd
  obtain ⟨x0, x1, -⟩ := two_cells HXW.out
  obtain ⟨y0, y1, -⟩ := two_cells HEW.out
  obtain ⟨f0, f1, f2, f3⟩ := two_cells HG.out
  have KD := Lib.hid (specDrop_any (c := d) e.n HV.out (by omega) hit)
  unfold MadeV at KD
  go_wp2_with fail
  refine KD.out.mono ?_
  rintro e2 w2 ⟨p, k, r, rfl, ho, hb2⟩
  have hs2 := hb2.size
  have HO := Lib.hid ho
  have HB2 : Hid (Below W0.heap.size W0 w2) := Lib.hid (HBW.out.trans (hb2.mono HBW.out.size))
  have HG2 := Lib.hid ((hb2.block g (by omega)).trans HG.out)
  have hrb : w2.heap[w.heap.size + 2]? = _ := (hb2.block (w.heap.size + 2) (by omega)).trans HRW.out
  clear ho hb2 x0 x1 y0 y1 KD f0 f1 f2 f3
  obtain ⟨x0, x1, f0, f1⟩ := two_cells HG2.out
  have HG3 := Lib.hid (put_second HG2.out (.slice p k r))
  have hin := set_inside w2 g 1 (.slice p k r)
  have hrc := (hin.block (w.heap.size + 2) (by omega) (Or.inl (by omega))).trans hrb
  obtain ⟨x2, x3, -⟩ := two_cells HG3.out
  have HR9 := Lib.hid (hrc)
  obtain ⟨rm0, rm1, rq0, rq1⟩ := two_cells HR9.out
  obtain ⟨z0, z1, -⟩ := two_put HR9.out (.int .i64 x.ver) (.slice p k r)
  have hgr := set2_grown (w2.setCell ⟨g, 1, none⟩ (.slice p k r)) (w.heap.size + 2) (.int .i64 x.ver) (.slice p k r)
  go_wp2_with fail
  (try simp only [Exit.inBlock, Exit.then])
  refine bodyPost_ret (by simp [results, Tryz.results71, go_sem, z0, z1]; try rfl) rfl ?_
  have hfin : OwnAns (w2.setCell ⟨g, 1, none⟩ (.slice p k r)).heap.size (w2.setCell ⟨g, 1, none⟩ (.slice p k r)) W0.heap.size (.agg #[.int .i64 x.ver, .slice p k r]) _ := own_ans (lo := W1.heap.size) (hi := w2.heap.size) (HO.out.lim.aside hin (by omega)) (by omega) (by simp) (Nat.le_refl _)
  exact ⟨_, rfl, ((hfin.aside (one_inside hgr) (Or.inl (by omega))).lower (by omega)).top (by simp) (Nat.le_refl _), (HB.out.trans ((hin.to HB2.out (by omega) (by omega)).mono (by omega))).grown hgr (by first | omega | (simp; omega)) (fun r e => by cases e; omega)⟩
theorem specEditAnswer_any {w : World} {v : Value} {x : Ans} {e : Et} (h : AnsW w v x) (hw : (Lit.int .i64 e.kind).wf = true) (hm : x.exts.length ≤ 1048576) (hit : itemsOf x.exts ≤ 1048576) :
    Calls Tryz.prog 71 #[v, .agg #[.int .i64 e.kind, .int .i64 e.n]] w (MadeAns w.heap.size (edA x e) w) := by
  by_cases h4 : e.kind = 4
  · cases hv : inBd e.n 1 9 with
    | true => exact specEditA_4y h hw hm hit h4 hv
    | false => exact specEditA_4n h hw hm hit h4 hv
  · by_cases h5 : e.kind = 5
    · exact specEditA_5 h hw hm hit h5
    · exact specEditA_0 h hw hm hit ⟨h4, h5⟩
end Go.Proofs.YtcmjadfpifpknaaGreat
namespace Go.Proofs.YtcmjadfpifpknaaGreat
open Go.ChangeShapes Go.WideShapes Go.ChangeAt Go.RowKit
set_option linter.unusedVariables false
set_option linter.unusedSimpArgs false

set_option maxHeartbeats 4000000 in
set_option maxRecDepth 100000 in
theorem specKnownOf_any {a b : Option Addr} {n c m d : Nat} {l : List Vl} {ts : List Int} {w : World} (h : Vals w a n l) (h' : Nums .i64 w b m ts) (hn : n ≤ 1048576) (hit : itemsOf l ≤ 1048576) :
    Calls Tryz.prog 116 #[.slice a n c, .slice b m d] w (MadeV 125 3 w.heap.size (knownOf l ts) w) := by
  have H := Lib.hid h
  have HT := Lib.hid h'
  have hln := Lib.hid h.len
  obtain ⟨i0, hi, hz0, hz1, hz2⟩ := info_parts infoExtS
  have HI := Lib.hid (And.intro hi (And.intro hz0 (And.intro hz1 hz2)))
  obtain ⟨i1, ki, kz0, kz1, kz2⟩ := info_parts infoIntS
  have HJ := Lib.hid (And.intro ki (And.intro kz0 (And.intro kz1 kz2)))
  clear h h' hi hz0 hz1 hz2 ki kz0 kz1 kz2
  have HO : Hid (OwnV 125 3 (w.alloc (.cells #[] 125)) w.heap.size (some ⟨w.heap.size, 0, none⟩) 0 0 (knownOf (l.take 0) ts)) := Lib.hid (OwnV.empty (Nat.le_refl _))
  go_enter Tryz.func116, Tryz.ntmps116
  go_wp2_with fail
  go_loopw [5, 6] (fun v i wr => ∃ (j : Nat) (q : Option Addr) (r e : Nat), j ≤ n ∧ i = .int .i64 j ∧ v = .slice q r e ∧ OwnV 125 3 wr w.heap.size q r e (knownOf (l.take j) ts) ∧ Below w.heap.size w wr) (fun _ i _ => n - (intOf i).toNat)
  case atStart => exact ⟨0, _, _, _, Nat.zero_le _, rfl, rfl, HO.out, alloc_same _ _⟩
  case round =>
    obtain ⟨j, q, r, e, hj, rfl, rfl, hown, hb⟩ := hrel
    have HO2 := Lib.hid hown
    have HB2 := Lib.hid hb
    clear hown hb
    by_cases hlt : j < n
    · obtain ⟨bb, o, p, pm, pd, k, y, rfl, hx, hd0, hd1, hN, hr⟩ := H.out.at_ hlt
      have hsz := HB2.out.size
      have hym := hN.len
      have hyi := itemsOf_mem hx
      dsimp only at hyi
      have hrl : r ≤ 1048576 := by
        have h1 := HO2.out.len
        have h2 := known_few (l.take j) ts
        rw [List.length_take] at h2
        omega
      have hpm : pm ≤ 1048576 := by omega
      have HSK : Hid (∀ w9, Below w.heap.size w w9 → w9.cell? ⟨bb, o + j * 2, none⟩ = some (.int .i64 k) ∧ w9.cell? ⟨bb, o + j * 2 + 1, none⟩ = some (.slice p pm pd)) := Lib.hid (fun w9 h9 => ⟨cell_stay hd0 h9, cell_stay hd1 h9⟩)
      obtain ⟨hc0, hc1⟩ := HSK.out wr HB2.out
      have HN := Lib.hid (fun w9 (h9 : Below w.heap.size w w9) => hN.same h9)
      have KH := Lib.hid (l9Has_any (c := d) k (HT.out.same HB2.out))
      by_cases hk : k ∈ ts
      · have HK : Hid (knownOf (l.take (j + 1)) ts = knownOf (l.take j) ts ++ [⟨k, y⟩]) := Lib.hid (known_yes hx hk)
        rw [decide_eq_true hk] at KH
        clear hx hN hk hd0 hd1 hym hyi
        have HBd : Hid (Below w.heap.size w wr.drew) := Lib.hid HB2.out.drew
        have HQ : Hid (Below wr.heap.size wr (wr.alloc (.cells #[] 3)).drew) := Lib.hid (alloc_same _ _).drew
        have HBQ : Hid (Below w.heap.size w (wr.alloc (.cells #[] 3)).drew) := Lib.hid (HB2.out.trans (HQ.out.mono hsz))
        have HOQ : Hid (Own .i64 3 (wr.alloc (.cells #[] 3)).drew wr.heap.size (some ⟨wr.heap.size, 0, none⟩) 0 0 []) := Lib.hid ((Own.empty (Nat.le_refl _)).same (Below.refl _ _).drew)
        have hs2 : wr.heap.size ≤ (wr.alloc (.cells #[] 3)).drew.heap.size := HQ.out.size
        go_wp2_with (go_at_call 98; refine KH.out.mono ?_; rintro e9 w9 ⟨rfl, rfl⟩)
        go_region_held3 (fun w9 => w9.cell? ⟨bb, o + j * 2, none⟩ = some (.int .i64 k) ∧ w9.cell? ⟨bb, o + j * 2 + 1, none⟩ = some (.slice p pm pd)) (first | exact HSK.out _ HBd.out | exact HSK.out _ HBQ.out | exact HSK.out _ HB3.out | exact HSK.out _ HB4.out | exact HSK.out _ HB5.out) ((first | (refine step_app_g _ (by rfl) (.tmp 27) (.tmp 32) 24 (by rfl) .i64 3 i1 (.int .i64 0) 8 Tryz.underlying24 HJ.out.1 HJ.out.2.1 HJ.out.2.2.1 HJ.out.2.2.2 rfl (by rfl) HOQ.out (by rfl) (HN.out _ HBQ.out) (by omega) (by omega) hs2 ?_; intro a3 c3 w3 ho3 hg3 hl3; have HO3 := Lib.hid ho3; have HQ3 : Hid (Below wr.heap.size wr w3) := Lib.hid (grown_to hg3 HQ.out HOQ.out.span (Nat.le_refl _) hs2); have HB3 : Hid (Below w.heap.size w w3) := Lib.hid (HB2.out.trans (HQ3.out.mono hsz)); have hs3 := HQ3.out.size; have HB4 : Hid (Below w.heap.size w (w3.alloc (.cells #[.int .i64 k, .slice a3 pm c3] 125))) := Lib.hid (HB3.out.alloc HB3.out.size _); have HNN : Hid (Items Vh.enc 2 (w3.alloc (.cells #[.int .i64 k, .slice a3 pm c3] 125)) (some ⟨w3.heap.size, 0, none⟩) 1 [⟨k, a3, pm, c3⟩]) := Lib.hid (items_new Vh.enc_len w3 ⟨k, a3, pm, c3⟩ 125); have HO4 : Hid (Own .i64 3 (w3.alloc (.cells #[.int .i64 k, .slice a3 pm c3] 125)) w.heap.size a3 pm c3 y) := Lib.hid (by have h9 := (ho3.lower hsz).alloc (.cells #[.int .i64 k, .slice a3 pm c3] 125); rw [Nat.zero_add] at h9; exact h9); clear ho3 hg3 hl3) | (refine step_appV (S := wr.heap.size) (B := w.heap.size) _ (by rfl) (.tmp 21) (.tmp 35) 25 (by rfl) 125 3 i0 (.agg #[.int .i64 0, .slice none 0 0]) 32 Tryz.underlying25 HI.out.1 HI.out.2.1 HI.out.2.2.1 HI.out.2.2.2 rfl (by rfl) ((HO2.out.lim.same HQ3.out).same (alloc_same _ _)) (by rfl) HNN.out HO4.out (fun ad e => (HO3.out.span ad e).1) (by omega) (by omega) (by simp; omega) ?_; intro a5 c5 w5 ho5 hb5; have HO5 := Lib.hid ho5; have HB5 : Hid (Below w.heap.size w w5) := Lib.hid (HB4.out.trans hb5); clear ho5 hb5)))
        go_wp2_with fail
        go_roundw
        case rel => exact ⟨j + 1, a5, _, c5, by omega, by go_num, rfl, by rw [HK.out]; exact HO5.out, HB5.out⟩
        case measure => simp [intOf]; omega
      · have HK : Hid (knownOf (l.take (j + 1)) ts = knownOf (l.take j) ts) := Lib.hid (known_no hx hk)
        rw [decide_eq_false hk] at KH
        clear hx hN hk hd0 hd1 hym hyi
        go_wp2_with (go_at_call 98; refine KH.out.mono ?_; rintro e9 w9 ⟨rfl, rfl⟩)
        go_roundw
        case rel => exact ⟨j + 1, q, r, e, by omega, by go_num, rfl, by rw [HK.out]; exact HO2.out, HB2.out⟩
        case measure => simp [intOf]; omega
    · obtain rfl : j = n := by omega
      go_wp2
      go_ret
      have h1 := HO2.out
      rw [List.take_of_length_le (by rw [hln.out]; omega)] at h1
      exact ⟨_, _, _, rfl, h1, HB2.out⟩
end Go.Proofs.YtcmjadfpifpknaaGreat
